/-
  TEXTS of one claim, put together: WImplJoin, WJoin, WText, StrOwn.
-/
import Derived.Test.YtmonaiojejbhkaaJg7
import Derived.Lib.Join
import Derived.Laws.OwnMore
import Derived.OwnWalk
import Derived.Lib.AppendStr
import Derived.Laws.IdiomStrings
import Derived.Lib.BufferRead
import Derived.Test.YtmonaiojejbhkaaJg12
import Derived.Laws.Concat
/-! WALKS: impl.Join, by the library's contract. -/

namespace Go.Proofs.Ytmonaiojejbhkaa
open Go.RowKit

/-- The bytes of the first k strings. -/
def bytesOf (xs : List ByteArray) (k : Nat) : Nat := ((xs.take k).map ByteArray.size).sum
theorem bytesOf_next (xs : List ByteArray) (k : Nat) (h : k < xs.length) : bytesOf xs (k + 1) = bytesOf xs k + (xs.getD k ByteArray.empty).size := by
  unfold bytesOf
  rw [List.take_succ_eq_append_getElem h, List.map_append, List.sum_append, List.getD, List.getElem?_eq_getElem h]
  simp

/-- The bytes that the loop has laid. -/
def joined (xs : List ByteArray) (s : ByteArray) (k : Nat) : List UInt8 := Lib.join ((xs.take k).map (·.data.toList)) s.data.toList

theorem join_snoc (l : List (List UInt8)) (x sep : List UInt8) : Lib.join (l ++ [x]) sep = if l = [] then x else Lib.join l sep ++ sep ++ x := by
  cases l with
  | nil => rw [List.nil_append, Lib.join_one, if_pos rfl]
  | cons y r =>
    rw [List.cons_append, Lib.join_cons, Lib.join_cons, if_neg (by simp)]
    unfold Lib.joinTail
    rw [List.map_append, List.flatten_append]
    simp
theorem joined_next (xs : List ByteArray) (s : ByteArray) (k : Nat) (h : k < xs.length) : joined xs s (k + 1) = if k = 0 then (xs.getD k ByteArray.empty).data.toList else joined xs s k ++ s.data.toList ++ (xs.getD k ByteArray.empty).data.toList := by
  unfold joined
  rw [List.take_succ_eq_append_getElem h, List.map_append, List.map_cons, List.map_nil, join_snoc, List.getD, List.getElem?_eq_getElem h]
  by_cases h0 : k = 0
  · subst h0; simp
  · rw [if_neg, if_neg h0]; rfl
    intro e
    have h2 := congrArg List.length e
    rw [List.length_map, List.length_take, List.length_nil] at h2
    omega
theorem joined_length (xs : List ByteArray) (s : ByteArray) (k : Nat) (h : k ≤ xs.length) : (joined xs s k).length ≤ bytesOf xs k + k * s.size := by
  induction k with
  | zero => simp [joined, Lib.join_nil]
  | succ k ih =>
    have h1 := ih (by omega)
    rw [joined_next xs s k (by omega), bytesOf_next xs k (by omega), Nat.succ_mul]
    split
    · rw [Array.length_toList]; show (xs.getD k ByteArray.empty).size ≤ _; omega
    · rw [List.length_append, List.length_append, Array.length_toList, Array.length_toList]
      show (joined xs s k).length + s.size + (xs.getD k ByteArray.empty).size ≤ _
      omega

end Go.Proofs.Ytmonaiojejbhkaa

/-! WALKS: the law on Join. -/

namespace Go.Proofs.Ytmonaiojejbhkaa
open Go.RowKit

theorem info_str : (Try.prog.info? 9).map (fun i => (i.zero, i.size, i.bytes)) = some (some (.string ByteArray.empty), 1, 16) := by kernel_rfl

theorem info_u8 : (Try.prog.info? 5).map (fun i => (i.zero, i.size, i.bytes)) = some (some (.int .u8 0), 1, 1) := by kernel_rfl

theorem conv_own (w : World) (base : Nat) (v : Value) (l : List UInt8) (h : w.ownsRow base 5 1 v l.length (Lib.byteCells l)) :
    (convert 22 9 v).run Try.prog w = .ok (.string ⟨l.toArray⟩) w := by
  rcases h.2 with ⟨rfl, h0⟩ | ⟨g, cap, _, rfl, _⟩
  · obtain rfl : l = [] := List.eq_nil_of_length_eq_zero h0
    exact Lib.run_convert_nil_bytes w _ _ 5 0 Try.underlying22 Try.underlying5 Try.underlying9
  · refine run_convert_bytes_back w _ _ 5 ⟨g, 0, none⟩ cap l Try.underlying22 Try.underlying5 Try.underlying9 (fun j hj => ?_)
    refine h.cells (g := g) rfl j _ ?_
    simp [Lib.byteCells, List.getElem?_eq_getElem hj]

/-- A row of bytes that the call owns. -/
theorem cells_bytes (l : List UInt8) (s : ByteArray) : Lib.byteCells l ++ Lib.strCells s = Lib.byteCells (l ++ s.data.toList) := by
  simp [Lib.byteCells, Lib.strCells]

theorem bytes_size (s : ByteArray) : s.data.toList.length = s.size := Array.length_toList
theorem own_one {w : World} {base : Nat} {v : Value} {l j : List UInt8} {x : ByteArray} (h : w.ownsRow base 5 1 v (l.length + x.size) (Lib.byteCells l ++ Lib.strCells x)) (hl : l = []) (hn : j = x.data.toList) :
    w.ownsRow base 5 1 v j.length (Lib.byteCells j) := by
  subst hl; subst hn
  rw [cells_bytes, List.length_nil, Nat.zero_add, List.nil_append] at h
  rw [bytes_size]; exact h
theorem own_two {w : World} {base : Nat} {v : Value} {l j : List UInt8} {s x : ByteArray} (h : w.ownsRow base 5 1 v (l.length + s.size + x.size) (Lib.byteCells l ++ (Lib.strCells s ++ Lib.strCells x))) (hn : j = l ++ s.data.toList ++ x.data.toList) :
    w.ownsRow base 5 1 v j.length (Lib.byteCells j) := by
  subst hn
  rw [← List.append_assoc, cells_bytes, cells_bytes] at h
  rw [List.length_append, List.length_append, bytes_size, bytes_size]; exact h

end Go.Proofs.Ytmonaiojejbhkaa

/-! WALKS: the text of a set, by impl and by spec. -/

namespace Go.Proofs.Ytmonaiojejbhkaa
open Go.RowKit
open Sets

/-- The text as a string. -/
def txt (x : Int) : ByteArray := ⟨(text x).toArray⟩
theorem txt_no (x : Int) (h : okZ x = false) : txt x = ⟨#[]⟩ := by unfold txt text; rw [if_neg (by rw [h]; simp)]
theorem txt_zero : txt 0 = ⟨#[45]⟩ := rfl
theorem txt_pos (s : Nat) (h : s < 64) (h0 : s ≠ 0) : txt (s : Int) = ⟨(lets s 6).toArray⟩ := by unfold txt; rw [text_nat s h, if_neg h0]
theorem txt_size (x : Int) : (txt x).size ≤ 6 := by
  have := text_length x
  unfold txt
  show (text x).toArray.size ≤ 6
  simpa using this

/-- The first k letters. -/
def lt (s k : Nat) : List UInt8 := (lets s 6).take k
theorem lt_next (s k : Nat) (h : k < (pts s 6).length) : lt s (k + 1) = lt s k ++ [UInt8.ofNat (97 + ((pts s 6).getD k 0).toNat)] := by
  unfold lt
  have hl : (lets s 6).length = (pts s 6).length := by rw [lets_pts, List.length_map]
  rw [List.take_succ_eq_append_getElem (by omega)]
  congr 2
  rw [List.getD, List.getElem?_eq_getElem h]
  simp only [lets_pts, List.getElem_map]
  rfl
theorem lt_length (s k : Nat) : (lt s k).length ≤ k := by unfold lt; rw [List.length_take]; omega

theorem u8_of (i : Nat) (h : i < 6) : 97 + (i : Int) = ((UInt8.ofNat (97 + i)).toNat : Int) := by
  have : ∀ t : Fin 6, 97 + (t.val : Int) = ((UInt8.ofNat (97 + t.val)).toNat : Int) := by decide +kernel
  exact this ⟨i, h⟩

theorem bytes_snoc (l : List UInt8) (c : UInt8) : Lib.byteCells (l ++ [c]) = Lib.byteCells l ++ [.int .u8 (c.toNat : Int)] := by
  simp [Lib.byteCells]

theorem lets_hit (s i : Nat) (h : ptB s i = true) : lets s (i + 1) = lets s i ++ [UInt8.ofNat (97 + i)] := by
  rw [lets_next, if_pos (by unfold ptB at h; simpa using h)]
theorem lets_miss (s i : Nat) (h : ptB s i = false) : lets s (i + 1) = lets s i := by
  rw [lets_next, if_neg (by unfold ptB at h; simpa using h), List.append_nil]
theorem cut_letter : ∀ k : Fin 6, (⟨#[97, 98, 99, 100, 101, 102]⟩ : ByteArray).extract k.val (k.val + 1) = ⟨#[UInt8.ofNat (97 + k.val)]⟩ := by decide +kernel
theorem cut_run (k : Nat) (hk : k < 6) (w : World) : (Instr.slice 9 (.string ⟨#[97, 98, 99, 100, 101, 102]⟩) (some (.int .i64 (k : Int))) (some (.int .i64 ((k : Int) + 1))) none).run Try.prog w = .ok (.string ⟨#[UInt8.ofNat (97 + k)]⟩) w := by
  rw [run_slice_string w 9 ⟨#[97, 98, 99, 100, 101, 102]⟩ .i64 .i64 (k : Int) ((k : Int) + 1) Try.underlying9 (by omega) (by omega) (by show (k : Int) + 1 ≤ 6; omega)]
  have := cut_letter ⟨k, hk⟩
  rw [show ((k : Int)).toNat = k by omega, show ((k : Int) + 1).toNat = k + 1 by omega]
  simp only at this
  rw [this]
theorem str_snoc (l : List UInt8) (c : UInt8) : (⟨l.toArray⟩ : ByteArray) ++ ⟨#[c]⟩ = ⟨(l ++ [c]).toArray⟩ := by
  apply ByteArray.ext
  simp

end Go.Proofs.Ytmonaiojejbhkaa

/-! WALKS: a row of strings that the call owns; both Joins of it. -/

namespace Go.Proofs.Ytmonaiojejbhkaa
open Go.RowKit

/-- A slice value that reads as the strings xs and lies in a block of its own from base on. -/
def OwnTexts (w : World) (base : Nat) (v : Value) (xs : List ByteArray) : Prop := w.ownsRow base 9 1 v xs.length (xs.map Value.string)

theorem OwnTexts.nil (w : World) (base : Nat) : OwnTexts w base (.slice none 0 0) [] := World.ownsRow_nil _ _ _ _
theorem OwnTexts.lit0 (w : World) (base : Nat) (h : base ≤ w.heap.size) : OwnTexts (w.alloc (.cells #[] 9)) base (.slice (some ⟨w.heap.size, 0, none⟩) 0 0) [] :=
  World.ownsRow_lit (base := base) (e := 9) (size := 1) w #[] 0 h (by unfold maxLen; omega) rfl
theorem OwnTexts.next {w : World} {base : Nat} {v : Value} {xs : List ByteArray} {x : ByteArray} (h : w.ownsRow base 9 1 v (xs.length + 1) (xs.map Value.string ++ [.string x])) : OwnTexts w base v (xs ++ [x]) := by
  unfold OwnTexts
  rw [List.length_append, List.map_append]
  exact h
theorem OwnTexts.keeps {w w' : World} {base : Nat} {v : Value} {xs : List ByteArray} (h : OwnTexts w base v xs) (hb : Below w.heap.size w w') : OwnTexts w' base v xs := by
  unfold OwnTexts at *
  refine ⟨h.1, ?_⟩
  rcases h.2 with h0 | ⟨g, cap, cur, hv, h1, hh, hr⟩
  · exact .inl h0
  · refine .inr ⟨g, cap, cur, hv, h1, ?_, hr⟩
    have hlt : g < w.heap.size := by
      rcases Nat.lt_or_ge g w.heap.size with hl | hl
      · exact hl
      · rw [Array.getElem?_eq_none hl] at hh; cases hh
    rw [hb.block g hlt]; exact hh
theorem texts_cell (xs : List ByteArray) (j : Nat) (h : j < xs.length) : (xs.map Value.string)[j]? = some (.string (xs.getD j ByteArray.empty)) := by
  rw [List.getElem?_map, List.getD, List.getElem?_eq_getElem h]; rfl
/-- Out of what is owned: nothing, or a block. -/
theorem OwnTexts.at {w : World} {base : Nat} {v : Value} {xs : List ByteArray} (h : OwnTexts w base v xs) :
    (v = .slice none 0 0 ∧ xs = []) ∨ ∃ g c, v = .slice (some ⟨g, 0, none⟩) xs.length c ∧ xs.length ≤ c ∧ base ≤ g ∧ g < w.heap.size ∧ StrRow w g 0 xs := by
  unfold OwnTexts at h
  rcases h.2 with ⟨hv, h0⟩ | ⟨g, cap, cur, hv, _, _, hcap, _⟩
  · exact .inl ⟨hv, List.eq_nil_of_length_eq_zero h0⟩
  · subst hv
    obtain ⟨h1, h2⟩ := World.ownsRow.lt h g rfl
    refine .inr ⟨g, cap, rfl, hcap, h1, h2, fun j hj => ?_⟩
    rw [Nat.zero_add, World.ownsRow.cellAt h j (by omega), texts_cell xs j hj]
theorem OwnTexts.strs {w : World} {base : Nat} {v : Value} {xs : List ByteArray} (h : OwnTexts w base v xs) : ∃ a c, v = .slice a xs.length c ∧ Strs w a xs := by
  rcases h.at with ⟨rfl, rfl⟩ | ⟨g, c, rfl, _, _, _, hr⟩
  · exact ⟨none, 0, rfl, fun j hj => absurd hj (Nat.not_lt_zero _)⟩
  · exact ⟨_, c, rfl, hr.strs⟩

end Go.Proofs.Ytmonaiojejbhkaa
