/-
  TEXTS of one claim, put together: WPick, WCx6, CurB.
-/
import Derived.Test.YtenpcjmhlnalcaaJg13
import Derived.Test.YtenpcjmhlnalcaaJg8
import Derived.Test.YtenpcjmhlnalcaaJg1
/-! WALKS: picking one of a list of strings, one of a list of numbers. -/

namespace Go.Proofs.Ytenpcjmhlnalcaa
open Go.RowKit

/-- A slice reads as the numbers zs. -/
def IntRow (w : World) (b o : Nat) (zs : List Int) : Prop := ∀ j, j < zs.length → w.cell? ⟨b, o + j, none⟩ = some (.int .i64 (zs.getD j 0))



theorem row_lit (w : World) (xs : List ByteArray) (t : TypeId) : StrRow (w.alloc (.cells (xs.map Value.string).toArray t)) w.heap.size 0 xs := fun j hj => by
  rw [Nat.zero_add, World.cell?_alloc_new, List.getElem?_toArray, List.getElem?_map, List.getD, List.getElem?_eq_getElem hj]; rfl
theorem row_ints (w : World) (zs : List Int) (t : TypeId) : IntRow (w.alloc (.cells (zs.map (Value.int .i64)).toArray t)) w.heap.size 0 zs := fun j hj => by
  rw [Nat.zero_add, World.cell?_alloc_new, List.getElem?_toArray, List.getElem?_map, List.getD, List.getElem?_eq_getElem hj]; rfl
theorem Cur.alloc {w : World} {B : Nat} {a : Option Addr} {n c : Nat} (h : Cur w B a n c) (hB : B < w.heap.size) (o : Obj) : Cur (w.alloc o) B a n c := by
  have hb := (Below.refl w.heap.size w).alloc (Nat.le_refl _) o
  have e := hb.block B hB
  refine ⟨(World.cell?_of_block (w := w) (a := ⟨B, 0, none⟩) e).trans h.c0, ?_, ?_, fun j => (World.frozen?_of_block (w := w) (a := ⟨B, j, none⟩) e).trans (h.fr j), h.bs.of_but (Mem.but_of_below hb _)⟩
  · obtain ⟨i, hi, hc⟩ := h.c1
    exact ⟨i, hi, (World.cell?_of_block (w := w) (a := ⟨B, 1, none⟩) e).trans hc⟩
  · obtain ⟨x, hc⟩ := h.c2
    exact ⟨x, (World.cell?_of_block (w := w) (a := ⟨B, 2, none⟩) e).trans hc⟩

end Go.Proofs.Ytenpcjmhlnalcaa

/-! WALKS: complexes made of sets, by impl and by spec; the full complex and its border. -/

namespace Go.Proofs.Ytenpcjmhlnalcaa
open Go.RowKit
open Sets

/-- Out of what is owned: the slice, its room, its block. -/
theorem OwnInts.atc {w : World} {base : Nat} {v : Value} {xs : List Int} (h : OwnInts w base v xs) : ∃ a c g, v = .slice a xs.length c ∧ xs.length ≤ c ∧ base ≤ g ∧ IntsAt w g a xs := by
  unfold OwnInts at h
  rcases h.2 with ⟨hv, h0⟩ | ⟨g, cap, cur, hv, _, _, hcap, _⟩
  · exact ⟨none, 0, base, by rw [hv, h0], by omega, Nat.le_refl _, fun j hj => by omega⟩
  · subst hv
    obtain ⟨h1, h2⟩ := World.ownsRow.lt h g rfl
    refine ⟨some ⟨g, 0, none⟩, cap, g, rfl, hcap, h1, fun j hj => ⟨rfl, h2, ?_, World.ownsRow.frozenAt h j⟩⟩
    rw [World.ownsRow.cellAt h j (by omega), ints_cell xs j hj]

theorem OwnInts.set {w : World} {base : Nat} {v : Value} {xs : List Int} (h : OwnInts w base v xs) (b o : Nat) (z : Value) (hb : b < base) : OwnInts (w.setCell ⟨b, o, none⟩ z) base v xs := by
  unfold OwnInts at *
  refine ⟨h.1, ?_⟩
  rcases h.2 with h0 | ⟨g, cap, cur, hv, h1, hh, hr⟩
  · exact .inl h0
  · refine .inr ⟨g, cap, cur, hv, h1, ?_, hr⟩
    simp only [World.setCell, Array.getElem?_modify]
    rw [if_neg (by omega)]
    exact hh

/-- Are they at most 64 sets of n points? -/
def setsOf (n : Int) (xs : List Int) : Bool := inB 1 6 n && decide (xs.length ≤ 64) && xs.all (setB n)
/-- MakeComplex. -/
def made (n : Int) (xs : List Int) : Option (Int × List Int) := if setsOf n xs = true then some (n, maximal xs) else none
/-- The points and the facets of a complex that may not be there. -/
def oN (o : Option (Int × List Int)) : Int := (o.map (·.1)).getD 0
def oL (o : Option (Int × List Int)) : List Int := (o.map (·.2)).getD []
theorem made_yes {n : Int} {xs : List Int} (h : setsOf n xs = true) : made n xs = some (n, maximal xs) := by unfold made; rw [if_pos h]
theorem made_no {n : Int} {xs : List Int} (h : setsOf n xs = false) : made n xs = none := by unfold made; rw [if_neg (by rw [h]; simp)]
theorem setsOf_iff (n : Int) (xs : List Int) : setsOf n xs = true ↔ inB 1 6 n = true ∧ xs.length ≤ 64 ∧ ∀ x, x ∈ xs → setB n x = true := by
  unfold setsOf; rw [Bool.and_eq_true, Bool.and_eq_true, decide_eq_true_iff, List.all_eq_true, and_assoc]
theorem setsOf_ok {n : Int} {xs : List Int} (h : setsOf n xs = true) : allOk xs = true := by
  unfold allOk; rw [List.all_eq_true]; exact fun x hx => setB_ok (((setsOf_iff n xs).1 h).2.2 x hx)
theorem made_isC {n : Int} {xs : List Int} (h : setsOf n xs = true) : isC n (maximal xs) = true := by
  have h' := (setsOf_iff n xs).1 h
  have hn := (inB_iff _ _ _).1 h'.1
  exact isC_maximal n xs hn.1 hn.2 h'.2.2
theorem all_any_not (xs : List Int) (q : Int → Bool) : xs.all q = !(xs.any fun x => !q x) := by
  rw [List.not_any_eq_all_not]; simp

end Go.Proofs.Ytenpcjmhlnalcaa

/-! MEMORY: the cursor of a draw behind calls that make memory; lists of sets that are drawn. -/

namespace Go.Proofs.Ytenpcjmhlnalcaa
open Go.RowKit
open Sets

theorem Cur.keeps {w w' : World} {B : Nat} {a : Option Addr} {n c : Nat} (h : Cur w B a n c) (hB : B < w.heap.size) (hb : Below w.heap.size w w') : Cur w' B a n c := by
  have e := hb.block B hB
  refine ⟨(World.cell?_of_block (w := w) (a := ⟨B, 0, none⟩) e).trans h.c0, ?_, ?_, fun j => (World.frozen?_of_block (w := w) (a := ⟨B, j, none⟩) e).trans (h.fr j), h.bs.of_but (Mem.but_of_below hb _)⟩
  · obtain ⟨i, hi, hc⟩ := h.c1
    exact ⟨i, hi, (World.cell?_of_block (w := w) (a := ⟨B, 1, none⟩) e).trans hc⟩
  · obtain ⟨x, hc⟩ := h.c2
    exact ⟨x, (World.cell?_of_block (w := w) (a := ⟨B, 2, none⟩) e).trans hc⟩
/-- The same where only blocks from b on may have changed, the bytes lie below b. -/
theorem Bytes.below {b : Nat} {w w' : World} {a : Option Addr} {n B : Nat} (h : Bytes w a n B) (hb : Below b w w') (hl : ∀ j, j < n → ∀ g o : Nat, a = some ⟨g, o, none⟩ → g < b) : Bytes w' a n B := fun j hj => by
  obtain ⟨g, o, x, e, hne, hx, hc⟩ := h j hj
  exact ⟨g, o, x, e, hne, hx, by rw [hb.cell (p := ⟨g, o + j, none⟩) (hl j hj g o e)]; exact hc⟩
theorem Cur.below {b : Nat} {w w' : World} {B : Nat} {a : Option Addr} {n c : Nat} (h : Cur w B a n c) (hB : B < b) (hb : Below b w w') (hl : ∀ j, j < n → ∀ g o : Nat, a = some ⟨g, o, none⟩ → g < b) : Cur w' B a n c := by
  have e := hb.block B hB
  refine ⟨(World.cell?_of_block (w := w) (a := ⟨B, 0, none⟩) e).trans h.c0, ?_, ?_, fun j => (World.frozen?_of_block (w := w) (a := ⟨B, j, none⟩) e).trans (h.fr j), h.bs.below hb hl⟩
  · obtain ⟨i, hi, hc⟩ := h.c1
    exact ⟨i, hi, (World.cell?_of_block (w := w) (a := ⟨B, 1, none⟩) e).trans hc⟩
  · obtain ⟨x, hc⟩ := h.c2
    exact ⟨x, (World.cell?_of_block (w := w) (a := ⟨B, 2, none⟩) e).trans hc⟩
/-- The bytes of a cursor lie in a block that there is. -/
theorem Cur.old {w : World} {B : Nat} {a : Option Addr} {n c : Nat} (h : Cur w B a n c) : ∀ j, j < n → ∀ g o : Nat, a = some ⟨g, o, none⟩ → g < w.heap.size := fun j hj g o e => by
  obtain ⟨g', o', x, e', _, _, hc⟩ := h.bs j hj
  rw [e] at e'
  cases e'
  exact World.block_lt_of_cell? w _ hc

theorem but_below {b B : Nat} {w w2 w3 : World} (h : w.grownBy w2 (some B)) (hb : Below b w2 w3) (hle : w.heap.size ≤ b) : w.grownBy w3 (some B) :=
  ⟨hb.os.trans h.os, hb.tape.trans h.tape, hb.output.trans h.output, Nat.le_trans h.size hb.size, fun k hk hne => (hb.block k (by omega)).trans (h.block k hk hne)⟩
theorem OwnInts.away {w w' : World} {base B : Nat} {v : Value} {xs : List Int} (h : OwnInts w base v xs) (hg : w.grownBy w' (some B)) (hB : B < base) : OwnInts w' base v xs := by
  refine World.ownsRow.kept h hg ?_
  cases hv : v.ownBlock with
  | none => exact .inl rfl
  | some g =>
    have := (World.ownsRow.lt h g hv).1
    exact .inr (by simp; omega)

theorem Two.under {B : Nat} {w w' : World} {b : Nat} {x y : Value} (h : Two w b x y) (hb : Below B w w') (hlt : b < B) : Two w' b x y := by
  obtain ⟨h1, h2, h3, h4, h5⟩ := h
  refine ⟨by have := hb.size; omega, ?_, ?_, ?_, ?_⟩
  · rw [hb.cell (p := ⟨b, 0, none⟩) hlt]; exact h2
  · rw [hb.cell (p := ⟨b, 1, none⟩) hlt]; exact h3
  · rw [hb.frozen (p := ⟨b, 0, none⟩) hlt]; exact h4
  · rw [hb.frozen (p := ⟨b, 1, none⟩) hlt]; exact h5

theorem and_nat : ∀ a b : Nat, a < 64 → b < 64 → bits BinOp.and IntKind.i64 (a : Int) (b : Int) = ((a &&& b : Nat) : Int) := by
  refine fin64b ?_
  decide +kernel
theorem and_lt64 (a b : Nat) (h : a < 64) : a &&& b < 64 := Nat.lt_of_le_of_lt Nat.and_le_left h
theorem allOk_snoc {xs : List Int} {s : Nat} (h : allOk xs = true) (hs : s < 64) : allOk (xs ++ [(s : Int)]) = true := by
  unfold allOk at *
  rw [List.all_append, h]
  simp only [List.all_cons, List.all_nil, Bool.and_true, Bool.true_and]
  exact (okZ_nat s).2 hs
theorem eight_a (r : Nat) (h : r < 8) : ∃ m : Nat, m ≤ 6 ∧ ([0, 1, 2, 3, 4, 4, 5, 6] : List Int).getD r 0 = (m : Int) := by
  have : ∀ k : Fin 8, ∃ m : Fin 7, ([0, 1, 2, 3, 4, 4, 5, 6] : List Int).getD k.val 0 = ((m.val : Nat) : Int) := by decide
  obtain ⟨m, hm⟩ := this ⟨r, h⟩
  exact ⟨m.val, by omega, hm⟩
theorem eight_b (r : Nat) (h : r < 8) : ∃ m : Nat, 1 ≤ m ∧ m ≤ 6 ∧ ([1, 2, 3, 4, 4, 5, 5, 6] : List Int).getD r 0 = (m : Int) := by
  have : ∀ k : Fin 8, ∃ m : Fin 6, ([1, 2, 3, 4, 4, 5, 5, 6] : List Int).getD k.val 0 = ((m.val + 1 : Nat) : Int) := by decide
  obtain ⟨m, hm⟩ := this ⟨r, h⟩
  exact ⟨m.val + 1, by omega, by omega, hm⟩

end Go.Proofs.Ytenpcjmhlnalcaa
