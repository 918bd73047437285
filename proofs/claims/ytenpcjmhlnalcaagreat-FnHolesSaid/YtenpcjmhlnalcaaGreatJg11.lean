/-
  TEXTS of one claim, put together: StrRow, WPick, WCx6, CurB.
-/
import Derived.Test.YtenpcjmhlnalcaaGreatJg0
import Derived.Test.YtenpcjmhlnalcaaGreatProg
import Derived.WalkKit
import Derived.WalkLawsBesides
import Derived.Outline
import Derived.Lib.Hide
import Derived.Deep.QuietTactic
import Derived.BigQuiet
import Derived.WalkSmall
import Derived.Test.YtenpcjmhlnalcaaGreatJg10
import Derived.Test.YtenpcjmhlnalcaaGreatJg7
import Derived.Test.YtenpcjmhlnalcaaGreatJg1
/-! WALKS: slices of strings: what they read as; the laws' own equality. -/

namespace Go.Proofs.YtenpcjmhlnalcaaGreat
open Go.RowKit

/-- A slice's address and length read as the strings xs (whatever the address where there are none). -/
def Strs (w : World) (a : Option Addr) (xs : List ByteArray) : Prop := ∀ j, j < xs.length → ∃ b o, a = some ⟨b, o, none⟩ ∧ w.cell? ⟨b, o + j, none⟩ = some (.string (xs.getD j ByteArray.empty))

/-- A slice reads as the strings xs. -/
def StrRow (w : World) (b o : Nat) (xs : List ByteArray) : Prop := ∀ j, j < xs.length → w.cell? ⟨b, o + j, none⟩ = some (.string (xs.getD j ByteArray.empty))

theorem StrRow.strs {w : World} {b o : Nat} {xs : List ByteArray} (h : StrRow w b o xs) : Strs w (some ⟨b, o, none⟩) xs := fun j hj => ⟨b, o, rfl, h j hj⟩
theorem StrRow.of_block {w w' : World} {b o : Nat} {xs : List ByteArray} (h : StrRow w b o xs) (hb : w'.heap[b]? = w.heap[b]?) : StrRow w' b o xs := fun j hj => by
  rw [World.cell?_of_block (w := w) (w' := w') (a := ⟨b, o + j, none⟩) hb]; exact h j hj
theorem Strs.keeps {w w' : World} {a : Option Addr} {xs : List ByteArray} (h : Strs w a xs) (hb : Below w.heap.size w w') : Strs w' a xs := fun j hj => by
  obtain ⟨b, o, e, hc⟩ := h j hj
  exact ⟨b, o, e, by rw [hb.cell (p := ⟨b, o + j, none⟩) (World.block_lt_of_cell? w _ hc)]; exact hc⟩

end Go.Proofs.YtenpcjmhlnalcaaGreat

/-! WALKS: picking one of a list of strings, one of a list of numbers. -/

namespace Go.Proofs.YtenpcjmhlnalcaaGreat
open Go.RowKit

/-- A slice reads as the numbers zs. -/
def IntRow (w : World) (b o : Nat) (zs : List Int) : Prop := ∀ j, j < zs.length → w.cell? ⟨b, o + j, none⟩ = some (.int .i64 (zs.getD j 0))

set_option maxRecDepth 100000 in
theorem pick_any (B : Nat) (a : Option Addr) (n c : Nat) (hn : n ≤ 140737488355328) (b o cc : Nat) (xs : List ByteArray) (h0 : 0 < xs.length) (h1 : xs.length ≤ 4294967296) (w : World) (hc : Cur w B a n c) (hbB : b ≠ B) (hr : StrRow w b o xs) :
    Calls Tryz.prog 80 #[.pointer (some ⟨B, 0, none⟩), .slice (some ⟨b, o, none⟩) xs.length cc] w fun e w' => ∃ r : Nat, r < xs.length ∧ e = .returned (.string (xs.getD r ByteArray.empty)) ∧ Drew w w' B a n c := by
  have HC := Lib.hid hc
  have HR := Lib.hid hr
  clear hc hr
  go_enter Tryz.func80, Tryz.ntmps80
  go_wp2_with fail
  refine (below_any B a n c hn xs.length h0 h1 _ HC.out).mono ?_
  rintro e w1 ⟨r, hr, rfl, hd⟩
  have HD := Lib.hid hd
  have g0 := HR.out r hr
  have g : w1.cell? ⟨b, o + r, none⟩ = some (.string (xs.getD r ByteArray.empty)) := by rw [hd.2.cell_far ⟨b, o + r, none⟩ (World.block_lt_of_cell? w _ g0) (by simpa using hbB)]; exact g0
  clear hd g0
  generalize hx : xs.getD r ByteArray.empty = x at g
  have HX := Lib.hid hx
  clear hx
  go_wp2
  go_ret
  exact ⟨r, hr, by rw [HX.out]; rfl, HD.out⟩

set_option maxRecDepth 100000 in
theorem pickInt_any (B : Nat) (a : Option Addr) (n c : Nat) (hn : n ≤ 140737488355328) (b o cc : Nat) (zs : List Int) (h0 : 0 < zs.length) (h1 : zs.length ≤ 4294967296) (w : World) (hc : Cur w B a n c) (hbB : b ≠ B) (hr : IntRow w b o zs) :
    Calls Tryz.prog 43 #[.pointer (some ⟨B, 0, none⟩), .slice (some ⟨b, o, none⟩) zs.length cc] w fun e w' => ∃ r : Nat, r < zs.length ∧ e = .returned (.int .i64 (zs.getD r 0)) ∧ Drew w w' B a n c := by
  have HC := Lib.hid hc
  have HR := Lib.hid hr
  clear hc hr
  go_enter Tryz.func43, Tryz.ntmps43
  go_wp2_with fail
  refine (below_any B a n c hn zs.length h0 h1 _ HC.out).mono ?_
  rintro e w1 ⟨r, hr, rfl, hd⟩
  have HD := Lib.hid hd
  have g0 := HR.out r hr
  have g : w1.cell? ⟨b, o + r, none⟩ = some (.int .i64 (zs.getD r 0)) := by rw [hd.2.cell_far ⟨b, o + r, none⟩ (World.block_lt_of_cell? w _ g0) (by simpa using hbB)]; exact g0
  clear hd g0
  generalize hx : zs.getD r 0 = x at g
  have HX := Lib.hid hx
  clear hx
  go_wp2
  go_ret
  exact ⟨r, hr, by rw [HX.out]; rfl, HD.out⟩

theorem row_lit (w : World) (xs : List ByteArray) (t : TypeId) : StrRow (w.alloc (.cells (xs.map Value.string).toArray t)) w.heap.size 0 xs := fun j hj => by
  rw [Nat.zero_add, World.cell?_alloc_new, List.getElem?_toArray, List.getElem?_map, List.getD, List.getElem?_eq_getElem hj]; rfl
theorem row_ints (w : World) (zs : List Int) (t : TypeId) : IntRow (w.alloc (.cells (zs.map (Value.int .i64)).toArray t)) w.heap.size 0 zs := fun j hj => by
  rw [Nat.zero_add, World.cell?_alloc_new, List.getElem?_toArray, List.getElem?_map, List.getD, List.getElem?_eq_getElem hj]; rfl
theorem Cur.alloc {w : World} {B : Nat} {a : Option Addr} {n c : Nat} (h : Cur w B a n c) (hB : B < w.heap.size) (o : Obj) : Cur (w.alloc o) B a n c := by
  have hb := (Below.refl w.heap.size w).alloc (Nat.le_refl _) o
  have e := hb.block B hB
  refine ⟨(World.cell?_of_block (w := w) (a := ⟨B, 0, none⟩) e).trans h.c0, ?_, ?_, fun j => (World.frozen?_of_block (w := w) (a := ⟨B, j, none⟩) e).trans (h.fr j), h.bs.of_but (Mem.but_of_below hb _)⟩
  · obtain ⟨i, hi, hc⟩ := h.c1
    exact ⟨i, hi, (World.cell?_of_block (w := w) (a := ⟨B, 1, none⟩) e).trans hc⟩
  · obtain ⟨x, hc⟩ := h.c2
    exact ⟨x, (World.cell?_of_block (w := w) (a := ⟨B, 2, none⟩) e).trans hc⟩

theorem below_lit (B : Nat) (a : Option Addr) (n c : Nat) (hn : n ≤ 140737488355328) (k : Int) (m : Nat) (hk : k = (m : Int)) (hm : 0 < m) (hm2 : m ≤ 4294967296) (w : World) (hc : Cur w B a n c) :
    Calls Tryz.prog 51 #[.pointer (some ⟨B, 0, none⟩), .int .i64 k] w fun e w' => ∃ r : Nat, r < m ∧ e = .returned (.int .i64 (r : Int)) ∧ Drew w w' B a n c := by
  subst hk; exact below_any B a n c hn m hm hm2 w hc

end Go.Proofs.YtenpcjmhlnalcaaGreat

/-! WALKS: complexes made of sets, by impl and by spec; the full complex and its border. -/

namespace Go.Proofs.YtenpcjmhlnalcaaGreat
open Go.RowKit
open Sets

/-- Out of what is owned: the slice, its room, its block. -/
theorem OwnInts.atc {w : World} {base : Nat} {v : Value} {xs : List Int} (h : OwnInts w base v xs) : ∃ a c g, v = .slice a xs.length c ∧ xs.length ≤ c ∧ base ≤ g ∧ IntsAt w g a xs := by
  unfold OwnInts at h
  rcases h.2 with ⟨hv, h0⟩ | ⟨g, cap, cur, hv, _, _, hcap, _⟩
  · exact ⟨none, 0, base, by rw [hv, h0], by omega, Nat.le_refl _, fun j hj => by omega⟩
  · subst hv
    obtain ⟨h1, h2⟩ := World.ownsRow.lt h g rfl
    refine ⟨some ⟨g, 0, none⟩, cap, g, rfl, hcap, h1, fun j hj => ⟨rfl, h2, ?_, World.ownsRow.frozenAt h j⟩⟩
    rw [World.ownsRow.cellAt h j (by omega), ints_cell xs j hj]

theorem OwnInts.set {w : World} {base : Nat} {v : Value} {xs : List Int} (h : OwnInts w base v xs) (b o : Nat) (z : Value) (hb : b < base) : OwnInts (w.setCell ⟨b, o, none⟩ z) base v xs := by
  unfold OwnInts at *
  refine ⟨h.1, ?_⟩
  rcases h.2 with h0 | ⟨g, cap, cur, hv, h1, hh, hr⟩
  · exact .inl h0
  · refine .inr ⟨g, cap, cur, hv, h1, ?_, hr⟩
    simp only [World.setCell, Array.getElem?_modify]
    rw [if_neg (by omega)]
    exact hh

/-- Are they at most 64 sets of n points? -/
def setsOf (n : Int) (xs : List Int) : Bool := inB 1 6 n && decide (xs.length ≤ 64) && xs.all (setB n)
/-- MakeComplex. -/
def made (n : Int) (xs : List Int) : Option (Int × List Int) := if setsOf n xs = true then some (n, maximal xs) else none
/-- The points and the facets of a complex that may not be there. -/
def oN (o : Option (Int × List Int)) : Int := (o.map (·.1)).getD 0
def oL (o : Option (Int × List Int)) : List Int := (o.map (·.2)).getD []
theorem made_yes {n : Int} {xs : List Int} (h : setsOf n xs = true) : made n xs = some (n, maximal xs) := by unfold made; rw [if_pos h]
theorem made_no {n : Int} {xs : List Int} (h : setsOf n xs = false) : made n xs = none := by unfold made; rw [if_neg (by rw [h]; simp)]
theorem setsOf_iff (n : Int) (xs : List Int) : setsOf n xs = true ↔ inB 1 6 n = true ∧ xs.length ≤ 64 ∧ ∀ x, x ∈ xs → setB n x = true := by
  unfold setsOf; rw [Bool.and_eq_true, Bool.and_eq_true, decide_eq_true_iff, List.all_eq_true, and_assoc]
theorem setsOf_ok {n : Int} {xs : List Int} (h : setsOf n xs = true) : allOk xs = true := by
  unfold allOk; rw [List.all_eq_true]; exact fun x hx => setB_ok (((setsOf_iff n xs).1 h).2.2 x hx)
theorem made_isC {n : Int} {xs : List Int} (h : setsOf n xs = true) : isC n (maximal xs) = true := by
  have h' := (setsOf_iff n xs).1 h
  have hn := (inB_iff _ _ _).1 h'.1
  exact isC_maximal n xs hn.1 hn.2 h'.2.2
theorem all_any_not (xs : List Int) (q : Int → Bool) : xs.all q = !(xs.any fun x => !q x) := by
  rw [List.not_any_eq_all_not]; simp

set_option maxRecDepth 100000 in
set_option maxHeartbeats 2000000 in
theorem l3Make_any (n : Int) (a : Option Addr) (c : Nat) (xs : List Int) (hok : allOk xs = true) (hlen : xs.length ≤ 1099511627776) (w : World) (h : Ints w a xs) :
    Calls Tryz.prog 76 #[.int .i64 n, .slice a xs.length c] w fun e w' =>
      ∃ v, e = .returned (cx n v) ∧ OwnInts w' w.heap.size v (maximal xs) ∧ Below w.heap.size w w' := by
  have hb0 : Below w.heap.size w (w.alloc (Obj.cells #[Value.int IntKind.i64 0, Value.slice none 0 0] 26)) := (Below.refl _ _).alloc (Nat.le_refl _) _
  have htwo : Two (w.alloc (Obj.cells #[Value.int IntKind.i64 0, Value.slice none 0 0] 26)) w.heap.size (.int .i64 0) (.slice none 0 0) := Two.new _ _ _ _
  have H := Lib.hid (h.keeps hb0)
  have HB0 := Lib.hid hb0
  have HT := Lib.hid htwo
  have HOK := Lib.hid hok
  clear h hb0 htwo hok
  go_enter Tryz.func76, Tryz.ntmps76
  go_wp2_with fail
  refine (l2Extreme_true _ _ xs hlen HOK.out _ H.out).mono ?_
  rintro e w2 ⟨v, rfl, hO, hb2⟩
  have hsz1 := HT.out.1
  have hsz2 := hb2.size
  have HB2 : Hid (Below w.heap.size w w2) := HB0.out.trans (hb2.mono (by omega))
  have hO' : OwnInts w2 (w.heap.size + 1) v (maximal xs) := by
    have h2 := hO
    simp only [World.size_alloc] at h2
    exact h2
  obtain ⟨a2, c2, g2, rfl, _⟩ := hO'.atc
  have HO := Lib.hid hO'
  obtain ⟨t0, t1, t2, t3, t4⟩ := HT.out.keeps hb2
  clear hb2 hO hO'
  go_wp2
  refine ret_cx w.heap.size rfl rfl (x := .int .i64 n) (y := .slice a2 (maximal xs).length c2) (by go_simp) (by go_simp) rfl ?_
  exact ⟨_, rfl, (OwnInts.set (OwnInts.set HO.out _ _ _ (by omega)) _ _ _ (by omega)).lower (by omega), (HB2.out.setCell (by simp) _).setCell (by simp) _⟩

end Go.Proofs.YtenpcjmhlnalcaaGreat

/-! MEMORY: the cursor of a draw behind calls that make memory; lists of sets that are drawn. -/

namespace Go.Proofs.YtenpcjmhlnalcaaGreat
open Go.RowKit
open Sets

theorem Cur.keeps {w w' : World} {B : Nat} {a : Option Addr} {n c : Nat} (h : Cur w B a n c) (hB : B < w.heap.size) (hb : Below w.heap.size w w') : Cur w' B a n c := by
  have e := hb.block B hB
  refine ⟨(World.cell?_of_block (w := w) (a := ⟨B, 0, none⟩) e).trans h.c0, ?_, ?_, fun j => (World.frozen?_of_block (w := w) (a := ⟨B, j, none⟩) e).trans (h.fr j), h.bs.of_but (Mem.but_of_below hb _)⟩
  · obtain ⟨i, hi, hc⟩ := h.c1
    exact ⟨i, hi, (World.cell?_of_block (w := w) (a := ⟨B, 1, none⟩) e).trans hc⟩
  · obtain ⟨x, hc⟩ := h.c2
    exact ⟨x, (World.cell?_of_block (w := w) (a := ⟨B, 2, none⟩) e).trans hc⟩
/-- The same where only blocks from b on may have changed, the bytes lie below b. -/
theorem Bytes.below {b : Nat} {w w' : World} {a : Option Addr} {n B : Nat} (h : Bytes w a n B) (hb : Below b w w') (hl : ∀ j, j < n → ∀ g o : Nat, a = some ⟨g, o, none⟩ → g < b) : Bytes w' a n B := fun j hj => by
  obtain ⟨g, o, x, e, hne, hx, hc⟩ := h j hj
  exact ⟨g, o, x, e, hne, hx, by rw [hb.cell (p := ⟨g, o + j, none⟩) (hl j hj g o e)]; exact hc⟩
theorem Cur.below {b : Nat} {w w' : World} {B : Nat} {a : Option Addr} {n c : Nat} (h : Cur w B a n c) (hB : B < b) (hb : Below b w w') (hl : ∀ j, j < n → ∀ g o : Nat, a = some ⟨g, o, none⟩ → g < b) : Cur w' B a n c := by
  have e := hb.block B hB
  refine ⟨(World.cell?_of_block (w := w) (a := ⟨B, 0, none⟩) e).trans h.c0, ?_, ?_, fun j => (World.frozen?_of_block (w := w) (a := ⟨B, j, none⟩) e).trans (h.fr j), h.bs.below hb hl⟩
  · obtain ⟨i, hi, hc⟩ := h.c1
    exact ⟨i, hi, (World.cell?_of_block (w := w) (a := ⟨B, 1, none⟩) e).trans hc⟩
  · obtain ⟨x, hc⟩ := h.c2
    exact ⟨x, (World.cell?_of_block (w := w) (a := ⟨B, 2, none⟩) e).trans hc⟩
/-- The bytes of a cursor lie in a block that there is. -/
theorem Cur.old {w : World} {B : Nat} {a : Option Addr} {n c : Nat} (h : Cur w B a n c) : ∀ j, j < n → ∀ g o : Nat, a = some ⟨g, o, none⟩ → g < w.heap.size := fun j hj g o e => by
  obtain ⟨g', o', x, e', _, _, hc⟩ := h.bs j hj
  rw [e] at e'
  cases e'
  exact World.block_lt_of_cell? w _ hc

theorem but_below {b B : Nat} {w w2 w3 : World} (h : w.grownBy w2 (some B)) (hb : Below b w2 w3) (hle : w.heap.size ≤ b) : w.grownBy w3 (some B) :=
  ⟨hb.os.trans h.os, hb.tape.trans h.tape, hb.output.trans h.output, Nat.le_trans h.size hb.size, fun k hk hne => (hb.block k (by omega)).trans (h.block k hk hne)⟩
theorem OwnInts.away {w w' : World} {base B : Nat} {v : Value} {xs : List Int} (h : OwnInts w base v xs) (hg : w.grownBy w' (some B)) (hB : B < base) : OwnInts w' base v xs := by
  refine World.ownsRow.kept h hg ?_
  cases hv : v.ownBlock with
  | none => exact .inl rfl
  | some g =>
    have := (World.ownsRow.lt h g hv).1
    exact .inr (by simp; omega)

theorem Two.under {B : Nat} {w w' : World} {b : Nat} {x y : Value} (h : Two w b x y) (hb : Below B w w') (hlt : b < B) : Two w' b x y := by
  obtain ⟨h1, h2, h3, h4, h5⟩ := h
  refine ⟨by have := hb.size; omega, ?_, ?_, ?_, ?_⟩
  · rw [hb.cell (p := ⟨b, 0, none⟩) hlt]; exact h2
  · rw [hb.cell (p := ⟨b, 1, none⟩) hlt]; exact h3
  · rw [hb.frozen (p := ⟨b, 0, none⟩) hlt]; exact h4
  · rw [hb.frozen (p := ⟨b, 1, none⟩) hlt]; exact h5

set_option maxRecDepth 100000 in
theorem once_b (B : Nat) (a : Option Addr) (n c : Nat) (hn : n ≤ 140737488355328) (k : Int) (m : Nat) (hk : k = (m : Int)) (hm : 0 < m) (hm2 : m ≤ 4294967296) (w : World) (hc : Cur w B a n c) :
    Calls Tryz.prog 32 #[.pointer (some ⟨B, 0, none⟩), .int .i64 k] w fun e w' => ∃ b : Bool, e = .returned (.bool b) ∧ Drew w w' B a n c := by
  have HC := Lib.hid (below_lit B a n c hn k m hk hm hm2 w hc)
  clear hc hk
  go_enter Tryz.func32, Tryz.ntmps32
  go_wp2_with fail
  refine HC.out.mono ?_
  rintro e w1 ⟨r, hr, rfl, hd⟩
  have HD := Lib.hid hd
  clear hd
  go_wp2
  go_ret
  exact ⟨_, rfl, HD.out⟩

theorem and_nat : ∀ a b : Nat, a < 64 → b < 64 → bits BinOp.and IntKind.i64 (a : Int) (b : Int) = ((a &&& b : Nat) : Int) := by
  refine fin64b ?_
  decide +kernel
theorem and_lt64 (a b : Nat) (h : a < 64) : a &&& b < 64 := Nat.lt_of_le_of_lt Nat.and_le_left h
theorem allOk_snoc {xs : List Int} {s : Nat} (h : allOk xs = true) (hs : s < 64) : allOk (xs ++ [(s : Int)]) = true := by
  unfold allOk at *
  rw [List.all_append, h]
  simp only [List.all_cons, List.all_nil, Bool.and_true, Bool.true_and]
  exact (okZ_nat s).2 hs
theorem eight_a (r : Nat) (h : r < 8) : ∃ m : Nat, m ≤ 6 ∧ ([0, 1, 2, 3, 4, 4, 5, 6] : List Int).getD r 0 = (m : Int) := by
  have : ∀ k : Fin 8, ∃ m : Fin 7, ([0, 1, 2, 3, 4, 4, 5, 6] : List Int).getD k.val 0 = ((m.val : Nat) : Int) := by decide
  obtain ⟨m, hm⟩ := this ⟨r, h⟩
  exact ⟨m.val, by omega, hm⟩
theorem eight_b (r : Nat) (h : r < 8) : ∃ m : Nat, 1 ≤ m ∧ m ≤ 6 ∧ ([1, 2, 3, 4, 4, 5, 5, 6] : List Int).getD r 0 = (m : Int) := by
  have : ∀ k : Fin 8, ∃ m : Fin 6, ([1, 2, 3, 4, 4, 5, 5, 6] : List Int).getD k.val 0 = ((m.val + 1 : Nat) : Int) := by decide
  obtain ⟨m, hm⟩ := this ⟨r, h⟩
  exact ⟨m.val + 1, by omega, by omega, hm⟩

end Go.Proofs.YtenpcjmhlnalcaaGreat
