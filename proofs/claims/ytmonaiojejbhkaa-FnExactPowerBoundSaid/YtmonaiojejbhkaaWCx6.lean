/-
  WALKS: complexes made of sets, by impl and by spec; the full complex and its border.
-/
import Derived.Test.YtmonaiojejbhkaaWCx5
namespace Go.Proofs.Ytmonaiojejbhkaa
open Go.RowKit
open Sets

/-- Out of what is owned: the slice, its room, its block. -/
theorem OwnInts.atc {w : World} {base : Nat} {v : Value} {xs : List Int} (h : OwnInts w base v xs) : ∃ a c g, v = .slice a xs.length c ∧ xs.length ≤ c ∧ base ≤ g ∧ IntsAt w g a xs := by
  unfold OwnInts at h
  rcases h.2 with ⟨hv, h0⟩ | ⟨g, cap, cur, hv, _, _, hcap, _⟩
  · exact ⟨none, 0, base, by rw [hv, h0], by omega, Nat.le_refl _, fun j hj => by omega⟩
  · subst hv
    obtain ⟨h1, h2⟩ := World.ownsRow.lt h g rfl
    refine ⟨some ⟨g, 0, none⟩, cap, g, rfl, hcap, h1, fun j hj => ⟨rfl, h2, ?_, World.ownsRow.frozenAt h j⟩⟩
    rw [World.ownsRow.cellAt h j (by omega), ints_cell xs j hj]

theorem OwnInts.set {w : World} {base : Nat} {v : Value} {xs : List Int} (h : OwnInts w base v xs) (b o : Nat) (z : Value) (hb : b < base) : OwnInts (w.setCell ⟨b, o, none⟩ z) base v xs := by
  unfold OwnInts at *
  refine ⟨h.1, ?_⟩
  rcases h.2 with h0 | ⟨g, cap, cur, hv, h1, hh, hr⟩
  · exact .inl h0
  · refine .inr ⟨g, cap, cur, hv, h1, ?_, hr⟩
    simp only [World.setCell, Array.getElem?_modify]
    rw [if_neg (by omega)]
    exact hh

/-- Are they at most 64 sets of n points? -/
def setsOf (n : Int) (xs : List Int) : Bool := inB 1 6 n && decide (xs.length ≤ 64) && xs.all (setB n)
/-- MakeComplex. -/
def made (n : Int) (xs : List Int) : Option (Int × List Int) := if setsOf n xs = true then some (n, maximal xs) else none
/-- The points and the facets of a complex that may not be there. -/
def oN (o : Option (Int × List Int)) : Int := (o.map (·.1)).getD 0
def oL (o : Option (Int × List Int)) : List Int := (o.map (·.2)).getD []
theorem made_yes {n : Int} {xs : List Int} (h : setsOf n xs = true) : made n xs = some (n, maximal xs) := by unfold made; rw [if_pos h]
theorem made_no {n : Int} {xs : List Int} (h : setsOf n xs = false) : made n xs = none := by unfold made; rw [if_neg (by rw [h]; simp)]
theorem setsOf_iff (n : Int) (xs : List Int) : setsOf n xs = true ↔ inB 1 6 n = true ∧ xs.length ≤ 64 ∧ ∀ x, x ∈ xs → setB n x = true := by
  unfold setsOf; rw [Bool.and_eq_true, Bool.and_eq_true, decide_eq_true_iff, List.all_eq_true, and_assoc]
theorem setsOf_ok {n : Int} {xs : List Int} (h : setsOf n xs = true) : allOk xs = true := by
  unfold allOk; rw [List.all_eq_true]; exact fun x hx => setB_ok (((setsOf_iff n xs).1 h).2.2 x hx)
theorem made_isC {n : Int} {xs : List Int} (h : setsOf n xs = true) : isC n (maximal xs) = true := by
  have h' := (setsOf_iff n xs).1 h
  have hn := (inB_iff _ _ _).1 h'.1
  exact isC_maximal n xs hn.1 hn.2 h'.2.2
theorem all_any_not (xs : List Int) (q : Int → Bool) : xs.all q = !(xs.any fun x => !q x) := by
  rw [List.not_any_eq_all_not]; simp

set_option maxRecDepth 100000 in
set_option maxHeartbeats 2000000 in
theorem l3Make_any (n : Int) (a : Option Addr) (c : Nat) (xs : List Int) (hok : allOk xs = true) (hlen : xs.length ≤ 1099511627776) (w : World) (h : Ints w a xs) :
    Calls Try.prog 80 #[.int .i64 n, .slice a xs.length c] w fun e w' =>
      ∃ v, e = .returned (cx n v) ∧ OwnInts w' w.heap.size v (maximal xs) ∧ Below w.heap.size w w' := by
  have hb0 : Below w.heap.size w (w.alloc (Obj.cells #[Value.int IntKind.i64 0, Value.slice none 0 0] 33)) := (Below.refl _ _).alloc (Nat.le_refl _) _
  have htwo : Two (w.alloc (Obj.cells #[Value.int IntKind.i64 0, Value.slice none 0 0] 33)) w.heap.size (.int .i64 0) (.slice none 0 0) := Two.new _ _ _ _
  have H := Lib.hid (h.keeps hb0)
  have HB0 := Lib.hid hb0
  have HT := Lib.hid htwo
  have HOK := Lib.hid hok
  clear h hb0 htwo hok
  go_enter Try.func80, Try.ntmps80
  go_wp2_with fail
  refine (l2Extreme_true _ _ xs hlen HOK.out _ H.out).mono ?_
  rintro e w2 ⟨v, rfl, hO, hb2⟩
  have hsz1 := HT.out.1
  have hsz2 := hb2.size
  have HB2 : Hid (Below w.heap.size w w2) := HB0.out.trans (hb2.mono (by omega))
  have hO' : OwnInts w2 (w.heap.size + 1) v (maximal xs) := by
    have h2 := hO
    simp only [World.size_alloc] at h2
    exact h2
  obtain ⟨a2, c2, g2, rfl, _⟩ := hO'.atc
  have HO := Lib.hid hO'
  obtain ⟨t0, t1, t2, t3, t4⟩ := HT.out.keeps hb2
  clear hb2 hO hO'
  go_wp2
  refine ret_cx w.heap.size rfl rfl (x := .int .i64 n) (y := .slice a2 (maximal xs).length c2) (by go_simp) (by go_simp) rfl ?_
  exact ⟨_, rfl, (OwnInts.set (OwnInts.set HO.out _ _ _ (by omega)) _ _ _ (by omega)).lower (by omega), (HB2.out.setCell (by simp) _).setCell (by simp) _⟩

end Go.Proofs.Ytmonaiojejbhkaa
