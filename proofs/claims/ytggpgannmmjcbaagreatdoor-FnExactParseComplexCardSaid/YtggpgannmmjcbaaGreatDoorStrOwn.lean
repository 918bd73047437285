/-
  WALKS: a row of strings that the call owns; both Joins of it.
-/
import Derived.Test.YtggpgannmmjcbaaGreatDoorWJoin
namespace Go.Proofs.YtggpgannmmjcbaaGreatDoor
open Go.RowKit

/-- A slice value that reads as the strings xs and lies in a block of its own from base on. -/
def OwnTexts (w : World) (base : Nat) (v : Value) (xs : List ByteArray) : Prop := w.ownsRow base 9 1 v xs.length (xs.map Value.string)

theorem OwnTexts.nil (w : World) (base : Nat) : OwnTexts w base (.slice none 0 0) [] := World.ownsRow_nil _ _ _ _
theorem OwnTexts.lit0 (w : World) (base : Nat) (h : base ≤ w.heap.size) : OwnTexts (w.alloc (.cells #[] 9)) base (.slice (some ⟨w.heap.size, 0, none⟩) 0 0) [] :=
  World.ownsRow_lit (base := base) (e := 9) (size := 1) w #[] 0 h (by unfold maxLen; omega) rfl
theorem OwnTexts.next {w : World} {base : Nat} {v : Value} {xs : List ByteArray} {x : ByteArray} (h : w.ownsRow base 9 1 v (xs.length + 1) (xs.map Value.string ++ [.string x])) : OwnTexts w base v (xs ++ [x]) := by
  unfold OwnTexts
  rw [List.length_append, List.map_append]
  exact h
theorem OwnTexts.keeps {w w' : World} {base : Nat} {v : Value} {xs : List ByteArray} (h : OwnTexts w base v xs) (hb : Below w.heap.size w w') : OwnTexts w' base v xs := by
  unfold OwnTexts at *
  refine ⟨h.1, ?_⟩
  rcases h.2 with h0 | ⟨g, cap, cur, hv, h1, hh, hr⟩
  · exact .inl h0
  · refine .inr ⟨g, cap, cur, hv, h1, ?_, hr⟩
    have hlt : g < w.heap.size := by
      rcases Nat.lt_or_ge g w.heap.size with hl | hl
      · exact hl
      · rw [Array.getElem?_eq_none hl] at hh; cases hh
    rw [hb.block g hlt]; exact hh
theorem texts_cell (xs : List ByteArray) (j : Nat) (h : j < xs.length) : (xs.map Value.string)[j]? = some (.string (xs.getD j ByteArray.empty)) := by
  rw [List.getElem?_map, List.getD, List.getElem?_eq_getElem h]; rfl
/-- Out of what is owned: nothing, or a block. -/
theorem OwnTexts.at {w : World} {base : Nat} {v : Value} {xs : List ByteArray} (h : OwnTexts w base v xs) :
    (v = .slice none 0 0 ∧ xs = []) ∨ ∃ g c, v = .slice (some ⟨g, 0, none⟩) xs.length c ∧ xs.length ≤ c ∧ base ≤ g ∧ g < w.heap.size ∧ StrRow w g 0 xs := by
  unfold OwnTexts at h
  rcases h.2 with ⟨hv, h0⟩ | ⟨g, cap, cur, hv, _, _, hcap, _⟩
  · exact .inl ⟨hv, List.eq_nil_of_length_eq_zero h0⟩
  · subst hv
    obtain ⟨h1, h2⟩ := World.ownsRow.lt h g rfl
    refine .inr ⟨g, cap, rfl, hcap, h1, h2, fun j hj => ?_⟩
    rw [Nat.zero_add, World.ownsRow.cellAt h j (by omega), texts_cell xs j hj]
theorem OwnTexts.strs {w : World} {base : Nat} {v : Value} {xs : List ByteArray} (h : OwnTexts w base v xs) : ∃ a c, v = .slice a xs.length c ∧ Strs w a xs := by
  rcases h.at with ⟨rfl, rfl⟩ | ⟨g, c, rfl, _, _, _, hr⟩
  · exact ⟨none, 0, rfl, fun j hj => absurd hj (Nat.not_lt_zero _)⟩
  · exact ⟨_, c, rfl, hr.strs⟩

theorem implJoin_own (base : Nat) (v : Value) (xs : List ByteArray) (s : ByteArray) (hlen : xs.length + bytesOf xs xs.length ≤ 16777216) (hs : s.size ≤ 1048576) (w : World) (h : OwnTexts w base v xs) :
    Calls Tryz.prog 51 #[v, .string s] w fun e w' => e = .returned (.string ⟨(joined xs s xs.length).toArray⟩) ∧ Below w.heap.size w w' := by
  rcases h.at with ⟨rfl, rfl⟩ | ⟨g, c, rfl, hc, _, hg, hr⟩
  · exact implJoin_none s w
  · exact implJoin_big g 0 c xs s hc hlen hs w hg hr

end Go.Proofs.YtggpgannmmjcbaaGreatDoor
