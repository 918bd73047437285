/-
  TEXTS of one claim, put together: WPick, WCx6, CurB, WMx4.
-/
import Derived.Test.YthjgpbcdcgagfaaJg12
import Derived.Test.YthjgpbcdcgagfaaJg9
import Derived.Test.YthjgpbcdcgagfaaJg1
import Derived.Deep.RegionHeld3
/-! WALKS: picking one of a list of strings, one of a list of numbers. -/

namespace Go.Proofs.Ythjgpbcdcgagfaa
open Go.RowKit

/-- A slice reads as the numbers zs. -/
def IntRow (w : World) (b o : Nat) (zs : List Int) : Prop := ∀ j, j < zs.length → w.cell? ⟨b, o + j, none⟩ = some (.int .i64 (zs.getD j 0))

set_option maxRecDepth 100000 in
theorem pick_any (B : Nat) (a : Option Addr) (n c : Nat) (hn : n ≤ 140737488355328) (b o cc : Nat) (xs : List ByteArray) (h0 : 0 < xs.length) (h1 : xs.length ≤ 4294967296) (w : World) (hc : Cur w B a n c) (hbB : b ≠ B) (hr : StrRow w b o xs) :
    Calls Try.prog 125 #[.pointer (some ⟨B, 0, none⟩), .slice (some ⟨b, o, none⟩) xs.length cc] w fun e w' => ∃ r : Nat, r < xs.length ∧ e = .returned (.string (xs.getD r ByteArray.empty)) ∧ Drew w w' B a n c := by
  have HC := Lib.hid hc
  have HR := Lib.hid hr
  clear hc hr
  go_enter Try.func125, Try.ntmps125
  go_wp2_with fail
  refine (below_any B a n c hn xs.length h0 h1 _ HC.out).mono ?_
  rintro e w1 ⟨r, hr, rfl, hd⟩
  have HD := Lib.hid hd
  have g0 := HR.out r hr
  have g : w1.cell? ⟨b, o + r, none⟩ = some (.string (xs.getD r ByteArray.empty)) := by rw [hd.2.cell_far ⟨b, o + r, none⟩ (World.block_lt_of_cell? w _ g0) (by simpa using hbB)]; exact g0
  clear hd g0
  generalize hx : xs.getD r ByteArray.empty = x at g
  have HX := Lib.hid hx
  clear hx
  go_wp2
  go_ret
  exact ⟨r, hr, by rw [HX.out]; rfl, HD.out⟩

set_option maxRecDepth 100000 in
theorem pickInt_any (B : Nat) (a : Option Addr) (n c : Nat) (hn : n ≤ 140737488355328) (b o cc : Nat) (zs : List Int) (h0 : 0 < zs.length) (h1 : zs.length ≤ 4294967296) (w : World) (hc : Cur w B a n c) (hbB : b ≠ B) (hr : IntRow w b o zs) :
    Calls Try.prog 59 #[.pointer (some ⟨B, 0, none⟩), .slice (some ⟨b, o, none⟩) zs.length cc] w fun e w' => ∃ r : Nat, r < zs.length ∧ e = .returned (.int .i64 (zs.getD r 0)) ∧ Drew w w' B a n c := by
  have HC := Lib.hid hc
  have HR := Lib.hid hr
  clear hc hr
  go_enter Try.func59, Try.ntmps59
  go_wp2_with fail
  refine (below_any B a n c hn zs.length h0 h1 _ HC.out).mono ?_
  rintro e w1 ⟨r, hr, rfl, hd⟩
  have HD := Lib.hid hd
  have g0 := HR.out r hr
  have g : w1.cell? ⟨b, o + r, none⟩ = some (.int .i64 (zs.getD r 0)) := by rw [hd.2.cell_far ⟨b, o + r, none⟩ (World.block_lt_of_cell? w _ g0) (by simpa using hbB)]; exact g0
  clear hd g0
  generalize hx : zs.getD r 0 = x at g
  have HX := Lib.hid hx
  clear hx
  go_wp2
  go_ret
  exact ⟨r, hr, by rw [HX.out]; rfl, HD.out⟩

theorem row_lit (w : World) (xs : List ByteArray) (t : TypeId) : StrRow (w.alloc (.cells (xs.map Value.string).toArray t)) w.heap.size 0 xs := fun j hj => by
  rw [Nat.zero_add, World.cell?_alloc_new, List.getElem?_toArray, List.getElem?_map, List.getD, List.getElem?_eq_getElem hj]; rfl
theorem row_ints (w : World) (zs : List Int) (t : TypeId) : IntRow (w.alloc (.cells (zs.map (Value.int .i64)).toArray t)) w.heap.size 0 zs := fun j hj => by
  rw [Nat.zero_add, World.cell?_alloc_new, List.getElem?_toArray, List.getElem?_map, List.getD, List.getElem?_eq_getElem hj]; rfl
theorem Cur.alloc {w : World} {B : Nat} {a : Option Addr} {n c : Nat} (h : Cur w B a n c) (hB : B < w.heap.size) (o : Obj) : Cur (w.alloc o) B a n c := by
  have hb := (Below.refl w.heap.size w).alloc (Nat.le_refl _) o
  have e := hb.block B hB
  refine ⟨(World.cell?_of_block (w := w) (a := ⟨B, 0, none⟩) e).trans h.c0, ?_, ?_, fun j => (World.frozen?_of_block (w := w) (a := ⟨B, j, none⟩) e).trans (h.fr j), h.bs.of_but (Mem.but_of_below hb _)⟩
  · obtain ⟨i, hi, hc⟩ := h.c1
    exact ⟨i, hi, (World.cell?_of_block (w := w) (a := ⟨B, 1, none⟩) e).trans hc⟩
  · obtain ⟨x, hc⟩ := h.c2
    exact ⟨x, (World.cell?_of_block (w := w) (a := ⟨B, 2, none⟩) e).trans hc⟩

theorem below_lit (B : Nat) (a : Option Addr) (n c : Nat) (hn : n ≤ 140737488355328) (k : Int) (m : Nat) (hk : k = (m : Int)) (hm : 0 < m) (hm2 : m ≤ 4294967296) (w : World) (hc : Cur w B a n c) :
    Calls Try.prog 51 #[.pointer (some ⟨B, 0, none⟩), .int .i64 k] w fun e w' => ∃ r : Nat, r < m ∧ e = .returned (.int .i64 (r : Int)) ∧ Drew w w' B a n c := by
  subst hk; exact below_any B a n c hn m hm hm2 w hc

end Go.Proofs.Ythjgpbcdcgagfaa

/-! WALKS: complexes made of sets, by impl and by spec; the full complex and its border. -/

namespace Go.Proofs.Ythjgpbcdcgagfaa
open Go.RowKit
open Sets

/-- Out of what is owned: the slice, its room, its block. -/
theorem OwnInts.atc {w : World} {base : Nat} {v : Value} {xs : List Int} (h : OwnInts w base v xs) : ∃ a c g, v = .slice a xs.length c ∧ xs.length ≤ c ∧ base ≤ g ∧ IntsAt w g a xs := by
  unfold OwnInts at h
  rcases h.2 with ⟨hv, h0⟩ | ⟨g, cap, cur, hv, _, _, hcap, _⟩
  · exact ⟨none, 0, base, by rw [hv, h0], by omega, Nat.le_refl _, fun j hj => by omega⟩
  · subst hv
    obtain ⟨h1, h2⟩ := World.ownsRow.lt h g rfl
    refine ⟨some ⟨g, 0, none⟩, cap, g, rfl, hcap, h1, fun j hj => ⟨rfl, h2, ?_, World.ownsRow.frozenAt h j⟩⟩
    rw [World.ownsRow.cellAt h j (by omega), ints_cell xs j hj]

theorem OwnInts.set {w : World} {base : Nat} {v : Value} {xs : List Int} (h : OwnInts w base v xs) (b o : Nat) (z : Value) (hb : b < base) : OwnInts (w.setCell ⟨b, o, none⟩ z) base v xs := by
  unfold OwnInts at *
  refine ⟨h.1, ?_⟩
  rcases h.2 with h0 | ⟨g, cap, cur, hv, h1, hh, hr⟩
  · exact .inl h0
  · refine .inr ⟨g, cap, cur, hv, h1, ?_, hr⟩
    simp only [World.setCell, Array.getElem?_modify]
    rw [if_neg (by omega)]
    exact hh

/-- Are they at most 64 sets of n points? -/
def setsOf (n : Int) (xs : List Int) : Bool := inB 1 6 n && decide (xs.length ≤ 64) && xs.all (setB n)
/-- MakeComplex. -/
def made (n : Int) (xs : List Int) : Option (Int × List Int) := if setsOf n xs = true then some (n, maximal xs) else none
/-- The points and the facets of a complex that may not be there. -/
def oN (o : Option (Int × List Int)) : Int := (o.map (·.1)).getD 0
def oL (o : Option (Int × List Int)) : List Int := (o.map (·.2)).getD []
theorem made_yes {n : Int} {xs : List Int} (h : setsOf n xs = true) : made n xs = some (n, maximal xs) := by unfold made; rw [if_pos h]
theorem made_no {n : Int} {xs : List Int} (h : setsOf n xs = false) : made n xs = none := by unfold made; rw [if_neg (by rw [h]; simp)]
theorem setsOf_iff (n : Int) (xs : List Int) : setsOf n xs = true ↔ inB 1 6 n = true ∧ xs.length ≤ 64 ∧ ∀ x, x ∈ xs → setB n x = true := by
  unfold setsOf; rw [Bool.and_eq_true, Bool.and_eq_true, decide_eq_true_iff, List.all_eq_true, and_assoc]
theorem setsOf_ok {n : Int} {xs : List Int} (h : setsOf n xs = true) : allOk xs = true := by
  unfold allOk; rw [List.all_eq_true]; exact fun x hx => setB_ok (((setsOf_iff n xs).1 h).2.2 x hx)
theorem made_isC {n : Int} {xs : List Int} (h : setsOf n xs = true) : isC n (maximal xs) = true := by
  have h' := (setsOf_iff n xs).1 h
  have hn := (inB_iff _ _ _).1 h'.1
  exact isC_maximal n xs hn.1 hn.2 h'.2.2
theorem all_any_not (xs : List Int) (q : Int → Bool) : xs.all q = !(xs.any fun x => !q x) := by
  rw [List.not_any_eq_all_not]; simp

set_option maxRecDepth 100000 in
theorem areSets1_asks (n : Int) (xs : List Int) (B : Nat) (w : World) (hB : B < w.heap.size) (hc : w.cell? ⟨B, 0, none⟩ = some (.int .i64 n)) :
    Asks 145 #[.pointer (some ⟨B, 0, none⟩)] (fun x => !setB n x) xs w := by
  intro W j hj hb
  generalize xs.getD j 0 = f at *
  have d1 : W.cell? ⟨B, 0, none⟩ = some (.int .i64 n) := (hb.cell (p := ⟨B, 0, none⟩) hB).trans hc
  show Calls Try.prog 145 #[.int .i64 f, .pointer (some ⟨B, 0, none⟩)] W fun e w' => e = .returned (.bool (!setB n f)) ∧ ∃ m, w' = W.drewN m
  have hcall := implIsSet_any n f W
  generalize setB n f = b at *
  have HC := Lib.hid hcall
  clear hc hb hcall
  go_enter Try.func145, Try.ntmps145
  go_wp2_with fail
  refine HC.out.mono ?_
  rintro e w' ⟨rfl, rfl⟩
  go_wp2
  go_ret
  exact ⟨rfl, 0, rfl⟩

set_option maxRecDepth 100000 in
set_option maxHeartbeats 2000000 in
theorem areSets_any (n : Int) (a : Option Addr) (c : Nat) (xs : List Int) (hlen : xs.length ≤ 1099511627776) (b : Bool) (hb : setsOf n xs = b) (w : World) (h : Ints w a xs) :
    Calls Try.prog 137 #[.int .i64 n, .slice a xs.length c] w fun e w' => e = .returned (.bool b) ∧ Below w.heap.size w w' := by
  have hb0 : Below w.heap.size w (w.alloc (Obj.cells #[Value.int IntKind.i64 n] 3)) := (Below.refl _ _).alloc (Nat.le_refl _) _
  cases hn : inB 1 6 n with
  | false =>
    have HN := Lib.hid hn
    have HB0 := Lib.hid hb0
    obtain rfl : b = false := by rw [← hb]; unfold setsOf; rw [hn]; rfl
    clear hn hb hb0 h
    go_enter Try.func137, Try.ntmps137
    go_wp2_with fail
    refine (pointCount_b n false HN.out _).mono ?_
    rintro e w' ⟨rfl, rfl⟩
    go_wp2
    go_ret
    exact ⟨rfl, HB0.out⟩
  | true =>
    have HN := Lib.hid hn
    by_cases hl : 64 < xs.length
    · have HB0 := Lib.hid hb0
      obtain rfl : b = false := by
        rw [← hb]; unfold setsOf
        rw [show decide (xs.length ≤ 64) = false by simp; omega, Bool.and_false]; rfl
      clear hn hb hb0 h
      go_enter Try.func137, Try.ntmps137
      go_wp2_with fail
      refine (pointCount_b n true HN.out _).mono ?_
      rintro e w' ⟨rfl, rfl⟩
      go_wp2
      go_ret
      exact ⟨rfl, HB0.out⟩
    · have hany : (xs.any fun x => !setB n x) = !b := by
        rw [← hb]; unfold setsOf
        rw [hn, show decide (xs.length ≤ 64) = true by simp; omega, all_any_not]; simp
      have eg : ∀ args w, (callFunc 145 args).run Try.prog w = .ok (.enter 145 args) w := enters_of Try.func145 (by kernel_rfl) rfl
      have hc := contains_bel 145 #[.pointer (some ⟨w.heap.size, 0, none⟩)] (fun x => !setB n x) (!b) a c xs hany _ eg (areSets1_asks n xs w.heap.size (w.alloc (Obj.cells #[Value.int IntKind.i64 n] 3)) (by simp) (by simp)) hlen (h.keeps hb0)
      have HC := Lib.hid hc
      have HB0 := Lib.hid hb0
      clear hn hb hb0 h hc eg hany
      go_enter Try.func137, Try.ntmps137
      go_wp2_with fail
      refine (pointCount_b n true HN.out _).mono ?_
      rintro e w' ⟨rfl, rfl⟩
      go_wp2_with fail
      refine HC.out.mono ?_
      rintro e w1 ⟨rfl, hb1⟩
      go_wp2
      go_ret
      exact ⟨by simp, HB0.out.trans (hb1.mono (by simp))⟩

set_option maxRecDepth 100000 in
set_option maxHeartbeats 2000000 in
theorem implMake_any (n : Int) (a : Option Addr) (c : Nat) (xs : List Int) (hlen : xs.length ≤ 1099511627776) (w : World) (h : Ints w a xs) :
    Calls Try.prog 117 #[.int .i64 n, .slice a xs.length c] w fun e w' =>
      ∃ v, e = .returned (.tuple #[cx (oN (made n xs)) v, .bool (made n xs).isSome]) ∧ OwnInts w' w.heap.size v (oL (made n xs)) ∧ Below w.heap.size w w' := by
  have hb0 : Below w.heap.size w (w.alloc (Obj.cells #[Value.int IntKind.i64 0, Value.slice none 0 0] 26)) := (Below.refl _ _).alloc (Nat.le_refl _) _
  have htwo : Two (w.alloc (Obj.cells #[Value.int IntKind.i64 0, Value.slice none 0 0] 26)) w.heap.size (.int .i64 0) (.slice none 0 0) := Two.new _ _ _ _
  have H := Lib.hid (h.keeps hb0)
  have HB0 := Lib.hid hb0
  have HT := Lib.hid htwo
  clear h hb0 htwo
  cases hs : setsOf n xs with
  | false =>
    have HS := Lib.hid hs
    rw [made_no hs]
    clear hs
    go_enter Try.func117, Try.ntmps117
    go_wp2_with fail
    refine (areSets_any n _ _ xs hlen false HS.out _ H.out).mono ?_
    rintro e w1 ⟨rfl, hb1⟩
    obtain ⟨t0, t1, t2, t3, t4⟩ := HT.out.keeps hb1
    have HB1 : Hid (Below w.heap.size w w1) := HB0.out.trans (hb1.mono (by simp))
    clear hb1
    go_wp2
    refine ret_cx2 w.heap.size rfl rfl rfl (x := .int .i64 0) (y := .slice none 0 0) (by go_simp) (by go_simp) rfl ?_
    exact ⟨_, rfl, OwnInts.nil _ _, (HB1.out.setCell (by simp) _).setCell (by simp) _⟩
  | true =>
    have HS := Lib.hid hs
    rw [made_yes hs]
    clear hs
    go_enter Try.func117, Try.ntmps117
    go_wp2_with fail
    refine (areSets_any n _ _ xs hlen true HS.out _ H.out).mono ?_
    rintro e w1 ⟨rfl, hb1⟩
    have HB1 : Hid (Below w.heap.size w w1) := HB0.out.trans (hb1.mono (by simp))
    have HT1 := Lib.hid (HT.out.keeps hb1)
    have H1 := Lib.hid (H.out.keeps hb1)
    clear hb1
    go_wp2_with fail
    refine (implMaximal_any _ _ xs hlen _ H1.out).mono ?_
    rintro e w2 ⟨v, rfl, hO, hb2⟩
    have hsz1 := HT1.out.1
    have hsz2 := hb2.size
    have HB2 : Hid (Below w.heap.size w w2) := HB1.out.trans (hb2.mono (by omega))
    obtain ⟨a2, c2, g2, rfl, _⟩ := hO.atc
    have HO := Lib.hid hO
    obtain ⟨t0, t1, t2, t3, t4⟩ := HT1.out.keeps hb2
    clear hb2 hO
    go_wp2
    refine ret_cx2 w.heap.size rfl rfl rfl (x := .int .i64 n) (y := .slice a2 (maximal xs).length c2) (by go_simp) (by go_simp) rfl ?_
    exact ⟨_, rfl, (OwnInts.set (OwnInts.set HO.out _ _ _ hsz1) _ _ _ hsz1).lower (by omega), (HB2.out.setCell (by simp) _).setCell (by simp) _⟩

set_option maxRecDepth 100000 in
set_option maxHeartbeats 2000000 in
theorem l3Make_any (n : Int) (a : Option Addr) (c : Nat) (xs : List Int) (hok : allOk xs = true) (hlen : xs.length ≤ 1099511627776) (w : World) (h : Ints w a xs) :
    Calls Try.prog 86 #[.int .i64 n, .slice a xs.length c] w fun e w' =>
      ∃ v, e = .returned (cx n v) ∧ OwnInts w' w.heap.size v (maximal xs) ∧ Below w.heap.size w w' := by
  have hb0 : Below w.heap.size w (w.alloc (Obj.cells #[Value.int IntKind.i64 0, Value.slice none 0 0] 26)) := (Below.refl _ _).alloc (Nat.le_refl _) _
  have htwo : Two (w.alloc (Obj.cells #[Value.int IntKind.i64 0, Value.slice none 0 0] 26)) w.heap.size (.int .i64 0) (.slice none 0 0) := Two.new _ _ _ _
  have H := Lib.hid (h.keeps hb0)
  have HB0 := Lib.hid hb0
  have HT := Lib.hid htwo
  have HOK := Lib.hid hok
  clear h hb0 htwo hok
  go_enter Try.func86, Try.ntmps86
  go_wp2_with fail
  refine (l2Extreme_true _ _ xs hlen HOK.out _ H.out).mono ?_
  rintro e w2 ⟨v, rfl, hO, hb2⟩
  have hsz1 := HT.out.1
  have hsz2 := hb2.size
  have HB2 : Hid (Below w.heap.size w w2) := HB0.out.trans (hb2.mono (by omega))
  have hO' : OwnInts w2 (w.heap.size + 1) v (maximal xs) := by
    have h2 := hO
    simp only [World.size_alloc] at h2
    exact h2
  obtain ⟨a2, c2, g2, rfl, _⟩ := hO'.atc
  have HO := Lib.hid hO'
  obtain ⟨t0, t1, t2, t3, t4⟩ := HT.out.keeps hb2
  clear hb2 hO hO'
  go_wp2
  refine ret_cx w.heap.size rfl rfl (x := .int .i64 n) (y := .slice a2 (maximal xs).length c2) (by go_simp) (by go_simp) rfl ?_
  exact ⟨_, rfl, (OwnInts.set (OwnInts.set HO.out _ _ _ (by omega)) _ _ _ (by omega)).lower (by omega), (HB2.out.setCell (by simp) _).setCell (by simp) _⟩

end Go.Proofs.Ythjgpbcdcgagfaa

/-! MEMORY: the cursor of a draw behind calls that make memory; lists of sets that are drawn. -/

namespace Go.Proofs.Ythjgpbcdcgagfaa
open Go.RowKit
open Sets

theorem Cur.keeps {w w' : World} {B : Nat} {a : Option Addr} {n c : Nat} (h : Cur w B a n c) (hB : B < w.heap.size) (hb : Below w.heap.size w w') : Cur w' B a n c := by
  have e := hb.block B hB
  refine ⟨(World.cell?_of_block (w := w) (a := ⟨B, 0, none⟩) e).trans h.c0, ?_, ?_, fun j => (World.frozen?_of_block (w := w) (a := ⟨B, j, none⟩) e).trans (h.fr j), h.bs.of_but (Mem.but_of_below hb _)⟩
  · obtain ⟨i, hi, hc⟩ := h.c1
    exact ⟨i, hi, (World.cell?_of_block (w := w) (a := ⟨B, 1, none⟩) e).trans hc⟩
  · obtain ⟨x, hc⟩ := h.c2
    exact ⟨x, (World.cell?_of_block (w := w) (a := ⟨B, 2, none⟩) e).trans hc⟩
/-- The same where only blocks from b on may have changed, the bytes lie below b. -/
theorem Bytes.below {b : Nat} {w w' : World} {a : Option Addr} {n B : Nat} (h : Bytes w a n B) (hb : Below b w w') (hl : ∀ j, j < n → ∀ g o : Nat, a = some ⟨g, o, none⟩ → g < b) : Bytes w' a n B := fun j hj => by
  obtain ⟨g, o, x, e, hne, hx, hc⟩ := h j hj
  exact ⟨g, o, x, e, hne, hx, by rw [hb.cell (p := ⟨g, o + j, none⟩) (hl j hj g o e)]; exact hc⟩
theorem Cur.below {b : Nat} {w w' : World} {B : Nat} {a : Option Addr} {n c : Nat} (h : Cur w B a n c) (hB : B < b) (hb : Below b w w') (hl : ∀ j, j < n → ∀ g o : Nat, a = some ⟨g, o, none⟩ → g < b) : Cur w' B a n c := by
  have e := hb.block B hB
  refine ⟨(World.cell?_of_block (w := w) (a := ⟨B, 0, none⟩) e).trans h.c0, ?_, ?_, fun j => (World.frozen?_of_block (w := w) (a := ⟨B, j, none⟩) e).trans (h.fr j), h.bs.below hb hl⟩
  · obtain ⟨i, hi, hc⟩ := h.c1
    exact ⟨i, hi, (World.cell?_of_block (w := w) (a := ⟨B, 1, none⟩) e).trans hc⟩
  · obtain ⟨x, hc⟩ := h.c2
    exact ⟨x, (World.cell?_of_block (w := w) (a := ⟨B, 2, none⟩) e).trans hc⟩
/-- The bytes of a cursor lie in a block that there is. -/
theorem Cur.old {w : World} {B : Nat} {a : Option Addr} {n c : Nat} (h : Cur w B a n c) : ∀ j, j < n → ∀ g o : Nat, a = some ⟨g, o, none⟩ → g < w.heap.size := fun j hj g o e => by
  obtain ⟨g', o', x, e', _, _, hc⟩ := h.bs j hj
  rw [e] at e'
  cases e'
  exact World.block_lt_of_cell? w _ hc

theorem but_below {b B : Nat} {w w2 w3 : World} (h : w.grownBy w2 (some B)) (hb : Below b w2 w3) (hle : w.heap.size ≤ b) : w.grownBy w3 (some B) :=
  ⟨hb.os.trans h.os, hb.tape.trans h.tape, hb.output.trans h.output, Nat.le_trans h.size hb.size, fun k hk hne => (hb.block k (by omega)).trans (h.block k hk hne)⟩
theorem OwnInts.away {w w' : World} {base B : Nat} {v : Value} {xs : List Int} (h : OwnInts w base v xs) (hg : w.grownBy w' (some B)) (hB : B < base) : OwnInts w' base v xs := by
  refine World.ownsRow.kept h hg ?_
  cases hv : v.ownBlock with
  | none => exact .inl rfl
  | some g =>
    have := (World.ownsRow.lt h g hv).1
    exact .inr (by simp; omega)

theorem Two.under {B : Nat} {w w' : World} {b : Nat} {x y : Value} (h : Two w b x y) (hb : Below B w w') (hlt : b < B) : Two w' b x y := by
  obtain ⟨h1, h2, h3, h4, h5⟩ := h
  refine ⟨by have := hb.size; omega, ?_, ?_, ?_, ?_⟩
  · rw [hb.cell (p := ⟨b, 0, none⟩) hlt]; exact h2
  · rw [hb.cell (p := ⟨b, 1, none⟩) hlt]; exact h3
  · rw [hb.frozen (p := ⟨b, 0, none⟩) hlt]; exact h4
  · rw [hb.frozen (p := ⟨b, 1, none⟩) hlt]; exact h5

set_option maxRecDepth 100000 in
theorem once_b (B : Nat) (a : Option Addr) (n c : Nat) (hn : n ≤ 140737488355328) (k : Int) (m : Nat) (hk : k = (m : Int)) (hm : 0 < m) (hm2 : m ≤ 4294967296) (w : World) (hc : Cur w B a n c) :
    Calls Try.prog 53 #[.pointer (some ⟨B, 0, none⟩), .int .i64 k] w fun e w' => ∃ b : Bool, e = .returned (.bool b) ∧ Drew w w' B a n c := by
  have HC := Lib.hid (below_lit B a n c hn k m hk hm hm2 w hc)
  clear hc hk
  go_enter Try.func53, Try.ntmps53
  go_wp2_with fail
  refine HC.out.mono ?_
  rintro e w1 ⟨r, hr, rfl, hd⟩
  have HD := Lib.hid hd
  clear hd
  go_wp2
  go_ret
  exact ⟨_, rfl, HD.out⟩

theorem and_nat : ∀ a b : Nat, a < 64 → b < 64 → bits BinOp.and IntKind.i64 (a : Int) (b : Int) = ((a &&& b : Nat) : Int) := by
  refine fin64b ?_
  decide +kernel
theorem and_lt64 (a b : Nat) (h : a < 64) : a &&& b < 64 := Nat.lt_of_le_of_lt Nat.and_le_left h
theorem allOk_snoc {xs : List Int} {s : Nat} (h : allOk xs = true) (hs : s < 64) : allOk (xs ++ [(s : Int)]) = true := by
  unfold allOk at *
  rw [List.all_append, h]
  simp only [List.all_cons, List.all_nil, Bool.and_true, Bool.true_and]
  exact (okZ_nat s).2 hs
theorem eight_a (r : Nat) (h : r < 8) : ∃ m : Nat, m ≤ 6 ∧ ([0, 1, 2, 3, 4, 4, 5, 6] : List Int).getD r 0 = (m : Int) := by
  have : ∀ k : Fin 8, ∃ m : Fin 7, ([0, 1, 2, 3, 4, 4, 5, 6] : List Int).getD k.val 0 = ((m.val : Nat) : Int) := by decide
  obtain ⟨m, hm⟩ := this ⟨r, h⟩
  exact ⟨m.val, by omega, hm⟩
theorem eight_b (r : Nat) (h : r < 8) : ∃ m : Nat, 1 ≤ m ∧ m ≤ 6 ∧ ([1, 2, 3, 4, 4, 5, 5, 6] : List Int).getD r 0 = (m : Int) := by
  have : ∀ k : Fin 8, ∃ m : Fin 6, ([1, 2, 3, 4, 4, 5, 5, 6] : List Int).getD k.val 0 = ((m.val + 1 : Nat) : Int) := by decide
  obtain ⟨m, hm⟩ := this ⟨r, h⟩
  exact ⟨m.val + 1, by omega, by omega, hm⟩

end Go.Proofs.Ythjgpbcdcgagfaa

/-! WALKS: the laws' functions on rows of rows of numbers (written by genmx4.py); HasMx: a result that is a matrix of its own. -/

namespace Go.Proofs.Ythjgpbcdcgagfaa
open Go.RowKit

theorem Mx.only {w w' : World} {go : Nat} {ao : Option Addr} {R : List (Nat × Nat)} {M : Lin.Mat} {G : List Nat} (h : Mx w go ao R M) (k : Only G w w') (hgo : 0 < M.length → go ∉ G) (hr : ∀ g, g ∈ blks R → g ∉ G) : Mx w' go ao R M := by
  refine ⟨h.len, h.nodup, fun i hi => ?_, fun i hi => ?_, h.apart⟩
  · obtain ⟨h1, h2, h3, h4⟩ := h.out i hi
    have hb := k.block go h2 (hgo (by omega))
    exact ⟨h1, Nat.lt_of_lt_of_le h2 k.size, by rw [World.cell?_of_block (w := w) hb]; exact h3, by rw [World.frozen?_of_block (w := w) hb]; exact h4⟩
  · obtain ⟨h1, h2⟩ := h.rows i hi
    exact ⟨Nat.lt_of_lt_of_le h1 k.size, h2.only k (hr _ (blk_mem (by rw [h.len]; exact hi)))⟩
/-- A row is written anew. -/
theorem Mx.setRow {w w' : World} {go : Nat} {ao : Option Addr} {R : List (Nat × Nat)} {M : Lin.Mat} (h : Mx w go ao R M) {i : Nat} (hi : i < M.length) {r : List Int} (hl : r.length = (Lin.row M i).length) (hr : IntsAt w' (blk R i) (some ⟨blk R i, 0, none⟩) r) (hg : w.grownBy w' (some (blk R i))) : Mx w' go ao R (M.set i r) := by
  have hiR : i < R.length := by rw [h.len]; exact hi
  have hne : go ≠ blk R i := fun e => h.apart (e ▸ blk_mem hiR)
  have hlen : ∀ k, (Lin.row (M.set i r) k).length = (Lin.row M k).length := fun k => by
    rw [row_set M i k _ hi]
    by_cases e : k = i
    · rw [if_pos e, hl, e]
    · rw [if_neg e]
  refine ⟨by rw [List.length_set]; exact h.len, h.nodup, fun k hk => ?_, fun k hk => ?_, h.apart⟩
  · rw [List.length_set] at hk
    obtain ⟨h1, h2, h3, h4⟩ := h.out k hk
    have hb := hg.block go h2 (fun e => hne (Option.some.inj e))
    rw [hlen k]
    exact ⟨h1, Nat.lt_of_lt_of_le h2 hg.size, by rw [World.cell?_of_block (w := w) hb]; exact h3, by rw [World.frozen?_of_block (w := w) hb]; exact h4⟩
  · rw [List.length_set] at hk
    obtain ⟨h1, h2⟩ := h.rows k hk
    refine ⟨Nat.lt_of_lt_of_le h1 hg.size, ?_⟩
    rw [row_set M i k _ hi]
    by_cases e : k = i
    · rw [if_pos e, e]; exact hr
    · rw [if_neg e]
      exact h2.only (only_grown hg) (fun hm => by
        simp at hm
        exact e (blk_inj h.nodup (by rw [h.len]; exact hk) hiR hm))

def mixM (new old : Lin.Mat) (j : Nat) : Lin.Mat := new.take j ++ old.drop j
theorem mixM_zero (new old : Lin.Mat) : mixM new old 0 = old := rfl
theorem mixM_length {new old : Lin.Mat} (h : new.length = old.length) (j : Nat) : (mixM new old j).length = old.length := by unfold mixM; simp; omega
theorem mixM_end {new old : Lin.Mat} (h : new.length = old.length) {j : Nat} (hj : old.length ≤ j) : mixM new old j = new := by
  unfold mixM; rw [List.take_of_length_le (by omega), List.drop_eq_nil_of_le hj, List.append_nil]
theorem mixM_row {new old : Lin.Mat} (h : new.length = old.length) {j : Nat} (hj : j < old.length) : Lin.row (mixM new old j) j = Lin.row old j := by
  unfold Lin.row mixM
  rw [List.getD, List.getElem?_append_right (by simp; omega), List.length_take, Nat.min_eq_left (by omega), Nat.sub_self, List.getElem?_drop, List.getD]; rfl
theorem mixM_step {new old : Lin.Mat} (h : new.length = old.length) {j : Nat} (hj : j < old.length) : (mixM new old j).set j (Lin.row new j) = mixM new old (j + 1) := by
  unfold mixM Lin.row
  rw [List.set_append_right _ _ (by simp; omega), List.length_take, Nat.min_eq_left (by omega), Nat.sub_self, List.drop_eq_getElem_cons hj, List.set_cons_zero]
  have e : new.take (j + 1) = new.take j ++ [new[j]] := by rw [List.take_add_one, List.getElem?_eq_getElem (by omega)]; rfl
  rw [e, List.getD, List.getElem?_eq_getElem (by omega : j < new.length), List.append_assoc]
  rfl

/-- The number of things in the first i rows. -/
def offM : Lin.Mat → Nat → Nat
  | [], _ => 0
  | _, 0 => 0
  | r :: M, i + 1 => r.length + offM M i
theorem offM_zero (M : Lin.Mat) : offM M 0 = 0 := by cases M <;> rfl
theorem offM_next : ∀ (M : Lin.Mat) (i : Nat), i < M.length → offM M (i + 1) = offM M i + (Lin.row M i).length
  | [], i, h => absurd h (Nat.not_lt_zero _)
  | r :: M, 0, _ => by simp [offM, offM_zero, Lin.row]
  | r :: M, i + 1, h => by
    have e : Lin.row (r :: M) (i + 1) = Lin.row M i := rfl
    rw [offM, offM_next M i (by simpa using h), e, offM]; omega
theorem offM_le : ∀ (M : Lin.Mat) (i : Nat), offM M i ≤ offM M M.length
  | [], i => by simp [offM]
  | r :: M, 0 => by rw [offM_zero]; omega
  | r :: M, i + 1 => by rw [offM, List.length_cons, offM]; have := offM_le M i; omega
theorem offM_row (M : Lin.Mat) (i : Nat) (h : i < M.length) : (Lin.row M i).length ≤ offM M M.length := by
  have h1 := offM_next M i h
  have h2 := offM_le M (i + 1)
  omega
theorem offM_same {k : Nat} : ∀ (M : Lin.Mat), (∀ r, r ∈ M → r.length ≤ k) → offM M M.length ≤ M.length * k
  | [], _ => by simp [offM]
  | r :: M, h => by
    rw [List.length_cons, offM, Nat.succ_mul]
    have h1 := h r (by simp)
    have h2 := offM_same M (fun x hx => h x (List.mem_cons_of_mem _ hx))
    omega
/-- All things counted from s on. -/
def markM (s : Nat) (M : Lin.Mat) : Lin.Mat := (List.range M.length).map fun i => imarks (s + offM M i) (Lin.row M i).length
theorem markM_length (s : Nat) (M : Lin.Mat) : (markM s M).length = M.length := by simp [markM]
theorem markM_row (s : Nat) (M : Lin.Mat) (i : Nat) (h : i < M.length) : Lin.row (markM s M) i = imarks (s + offM M i) (Lin.row M i).length := by
  unfold markM
  show ((List.range M.length).map _).getD i [] = _
  simp [List.getD, h]

/-- A result that is a matrix of its own. -/
def HasMx (w : World) (base : Nat) (v : Value) (M : Lin.Mat) : Prop :=
  ∃ ao co go R, v = .slice ao M.length co ∧ (0 < M.length → base ≤ go ∧ go < w.heap.size) ∧ (∀ g, g ∈ blks R → base ≤ g ∧ g < w.heap.size) ∧ Mx w go ao R M
theorem OwnMx.has {w : World} {base : Nat} {v : Value} {R : List (Nat × Nat)} {M : Lin.Mat} (h : OwnMx w base v R M) : HasMx w base v M := by
  obtain ⟨go, ao, co, h1, h2, h3⟩ := h.mx
  exact ⟨ao, co, go, R, h1, h2, fun g hg => h.old hg, h3⟩
theorem mx_has {f : FuncId} {args : Array Value} {w : World} {M : Lin.Mat} (h : Calls Try.prog f args w fun e w' => ∃ v R, e = .returned v ∧ OwnMx w' w.heap.size v R M ∧ Below w.heap.size w w') :
    Calls Try.prog f args w fun e w' => ∃ v, e = .returned v ∧ HasMx w' w.heap.size v M ∧ Below w.heap.size w w' :=
  h.mono fun _ _ ⟨v, _, he, ho, hb⟩ => ⟨v, he, ho.has, hb⟩
theorem HasMx.lower {w : World} {base b : Nat} {v : Value} {M : Lin.Mat} (h : HasMx w base v M) (hb : b ≤ base) : HasMx w b v M := by
  obtain ⟨ao, co, go, R, h1, h2, h3, h4⟩ := h
  exact ⟨ao, co, go, R, h1, fun h => by have := h2 h; omega, fun g hg => by have := h3 g hg; omega, h4⟩
/-- The front of a matrix. -/
theorem Mx.front {w : World} {go : Nat} {ao : Option Addr} {R : List (Nat × Nat)} {M : Lin.Mat} (h : Mx w go ao R M) (m : Nat) : Mx w go ao (R.take m) (M.take m) := by
  have hrow : ∀ i, i < (M.take m).length → Lin.row (M.take m) i = Lin.row M i := fun i hi => by
    rw [List.length_take] at hi
    unfold Lin.row
    rw [List.getD, List.getD, List.getElem?_take_of_lt (by omega)]
  have hblk : ∀ i, i < (M.take m).length → (R.take m).getD i (0, 0) = R.getD i (0, 0) := fun i hi => by
    rw [List.length_take] at hi
    rw [List.getD, List.getD, List.getElem?_take_of_lt (by omega)]
  refine ⟨by rw [List.length_take, List.length_take, h.len], ?_, fun i hi => ?_, fun i hi => ?_, fun hm => h.apart ?_⟩
  · exact List.Sublist.nodup ((List.take_sublist m R).map _) h.nodup
  · have hi2 : i < M.length := by rw [List.length_take] at hi; omega
    rw [hrow i hi]
    simp only [blk, room]
    rw [hblk i hi]
    exact h.out i hi2
  · have hi2 : i < M.length := by rw [List.length_take] at hi; omega
    rw [hrow i hi]
    simp only [blk]
    rw [hblk i hi]
    exact h.rows i hi2
  · exact ((List.take_sublist m R).map _).subset hm

set_option maxRecDepth 100000 in
set_option maxHeartbeats 2000000 in
theorem eqMx_any (g1 g2 : Nat) (a1 a2 : Option Addr) (c1 c2 : Nat) (R1 R2 : List (Nat × Nat)) (M : Lin.Mat) (hlen : M.length ≤ 1099511627776) (hoff : offM M M.length ≤ 1099511627776) (w : World) (h1 : Mx w g1 a1 R1 M) (h2 : Mx w g2 a2 R2 M) :
    Calls Try.prog 42 #[.slice a1 M.length c1, .slice a2 M.length c2] w fun e w' => e = .returned (.bool true) ∧ Below w.heap.size w w' := by
  have H1 := Lib.hid h1
  have H2 := Lib.hid h2
  have HW := Lib.hid (offM_row M)
  obtain ⟨l, hl⟩ : ∃ l, M.length = l := ⟨_, rfl⟩
  have HL := Lib.hid hl
  rw [hl] at hlen HW ⊢
  rw [hl] at hoff
  have HOFF := Lib.hid hoff
  clear h1 h2 hl hoff
  go_enter Try.func42, Try.ntmps42
  go_wp2
  go_loopw [5] (fun i wr => ∃ k : Nat, k ≤ l ∧ i = .int .i64 (k : Int) ∧ Below w.heap.size w wr) (fun i _ => l - (intOf i).toNat)
  case atStart => exact ⟨0, Nat.zero_le _, rfl, Below.refl _ _⟩
  case round =>
    obtain ⟨k, hk, rfl, hB⟩ := hrel
    have HB := Lib.hid hB
    clear hB
    by_cases hlt : k < l
    · have hd : decide ((k : Int) < (l : Int)) = true := by simpa using hlt
      have hM1 := H1.out.keeps HB.out
      have hM2 := H2.out.keeps HB.out
      obtain ⟨e1, s1, d1, _⟩ := hM1.out k (by rw [HL.out]; exact hlt)
      obtain ⟨e2, s2, d2, _⟩ := hM2.out k (by rw [HL.out]; exact hlt)
      subst e1 e2
      have r1 := (hM1.rows k (by rw [HL.out]; exact hlt)).2.ints
      have r2 := (hM2.rows k (by rw [HL.out]; exact hlt)).2.ints
      have hw := HW.out k hlt
      have hoff := HOFF.out
      have HCL := Lib.hid (fun W (hW : Below wr.heap.size wr W) => eqInt_any (some ⟨blk R1 k, 0, none⟩) (some ⟨blk R2 k, 0, none⟩) (room R1 k) (room R2 k) (Lin.row M k) (by omega) W (r1.keeps hW) (r2.keeps hW))
      obtain ⟨B1, hB1⟩ : ∃ b, blk R1 k = b := ⟨_, rfl⟩
      obtain ⟨B2, hB2⟩ : ∃ b, blk R2 k = b := ⟨_, rfl⟩
      obtain ⟨n, hn⟩ : ∃ n, (Lin.row M k).length = n := ⟨_, rfl⟩
      obtain ⟨C1, hC1⟩ : ∃ b, room R1 k = b := ⟨_, rfl⟩
      obtain ⟨C2, hC2⟩ : ∃ b, room R2 k = b := ⟨_, rfl⟩
      rw [hB1, hn, hC1] at d1
      rw [hB2, hn, hC2] at d2
      rw [hB1, hB2, hC1, hC2, hn] at HCL
      have hc1 : ∀ w', Below wr.heap.size wr w' → w'.cell? ⟨g1, k, none⟩ = some (.slice (some ⟨B1, 0, none⟩) n C1) := fun w' hw => by rw [hw.cell (p := ⟨g1, k, none⟩) s1]; exact d1
      have hc2 : ∀ w', Below wr.heap.size wr w' → w'.cell? ⟨g2, k, none⟩ = some (.slice (some ⟨B2, 0, none⟩) n C2) := fun w' hw => by rw [hw.cell (p := ⟨g2, k, none⟩) s2]; exact d2
      have HC1 := Lib.hid hc1
      have HC2 := Lib.hid hc2
      have HBC := Lib.hid (bdrew1 wr)
      have hsize := HB.out.size
      have hkz : (k : Int) < (l : Int) := by omega
      have hk0 : (0 : Int) ≤ (k : Int) := by omega
      clear hc1 hc2 hM1 hM2 r1 r2 d1 d2 hB1 hB2 hC1 hC2 hn s1 s2 hw hoff
      go_wp2_with fail
      refine wp_region_noPanic ?_
      refine wp_region_held_drew (S := (fun w' => w'.cell? ⟨g1, k, none⟩ = some (.slice (some ⟨B1, 0, none⟩) n C1) ∧ w'.cell? ⟨g2, k, none⟩ = some (.slice (some ⟨B2, 0, none⟩) n C2) ∧ Below wr.heap.size wr w')) (by kernel_rfl) ?_ (fun hHeld => ?_)
      · exact ⟨HC1.out _ HBC.out, HC2.out _ HBC.out, HBC.out⟩
      refine wpAnyH_take (i := 0) (oi := ⟨_, _, _, _, _, _⟩) (v := ?vv1) rfl (by kernel_rfl) (by kernel_rfl) (by kernel_rfl) (fun _ _ _ h => h) (Or.inl ⟨by rfl, ?hy1⟩) (by assumption) ?_
      case hy1 => (intro w hSw; (try dsimp only at hSw); go_simp; try (with_reducible rfl))
      try simp only [Act.put, List.setIfInBounds_toArray, List.set_cons_zero, List.set_cons_succ]
      refine wpAnyH_take (i := 1) (oi := ⟨_, _, _, _, _, _⟩) (v := ?vv2) rfl (by kernel_rfl) (by kernel_rfl) (by kernel_rfl) (fun _ _ _ h => h) (Or.inl ⟨by rfl, ?hy2⟩) (by assumption) ?_
      case hy2 => (intro w hSw; (try dsimp only at hSw); go_simp; try (with_reducible rfl))
      try simp only [Act.put, List.setIfInBounds_toArray, List.set_cons_zero, List.set_cons_succ]
      refine wpAnyH_take (i := 2) (oi := ⟨_, _, _, _, _, _⟩) (v := ?vv3) rfl (by kernel_rfl) (by kernel_rfl) (by kernel_rfl) (fun _ _ _ h => h) (Or.inl ⟨by rfl, ?hy3⟩) (by assumption) ?_
      case hy3 => (intro w hSw; (try dsimp only at hSw); go_simp; try (with_reducible rfl))
      try simp only [Act.put, List.setIfInBounds_toArray, List.set_cons_zero, List.set_cons_succ]
      refine wpAnyH_take (i := 3) (oi := ⟨_, _, _, _, _, _⟩) (v := ?vv4) rfl (by kernel_rfl) (by kernel_rfl) (by kernel_rfl) (fun _ _ _ h => h) (Or.inl ⟨by rfl, ?hy4⟩) (by assumption) ?_
      case hy4 => (intro w hSw; (try dsimp only at hSw); go_simp; try (with_reducible rfl))
      try simp only [Act.put, List.setIfInBounds_toArray, List.set_cons_zero, List.set_cons_succ]
      refine wpAnyH_take (i := 4) (oi := ⟨_, _, _, _, _, _⟩) (v := ?vv5) rfl (by kernel_rfl) (by kernel_rfl) (by kernel_rfl) (fun _ _ _ h => h) (Or.inl ⟨by rfl, ?hy5⟩) (by assumption) ?_
      case hy5 => (intro w hSw; (try dsimp only at hSw); go_simp; try (with_reducible rfl))
      try simp only [Act.put, List.setIfInBounds_toArray, List.set_cons_zero, List.set_cons_succ]
      refine wpAnyH_take (i := 5) (oi := ⟨_, _, _, _, _, _⟩) (v := ?vv6) rfl (by kernel_rfl) (by kernel_rfl) (by kernel_rfl) (fun _ _ _ h => h) (Or.inl ⟨by rfl, ?hy6⟩) (by assumption) ?_
      case hy6 => (intro w hSw; (try dsimp only at hSw); go_simp; try (with_reducible rfl))
      try simp only [Act.put, List.setIfInBounds_toArray, List.set_cons_zero, List.set_cons_succ]
      refine wpAnyH_take (i := 6) (oi := ⟨_, _, _, _, _, _⟩) (v := ?vv7) rfl (by kernel_rfl) (by kernel_rfl) (by kernel_rfl) (fun _ _ _ h => h) (Or.inl ⟨by rfl, ?hy7⟩) (by assumption) ?_
      case hy7 => (intro w hSw; (try dsimp only at hSw); go_simp; try (with_reducible rfl))
      try simp only [Act.put, List.setIfInBounds_toArray, List.set_cons_zero, List.set_cons_succ]
      refine wpAnyH_take (i := 7) (oi := ⟨_, _, _, _, _, _⟩) (v := ?vv8) rfl (by kernel_rfl) (by kernel_rfl) (by kernel_rfl) (fun _ _ _ h => h) (Or.inl ⟨by rfl, ?hy8⟩) (by assumption) ?_
      case hy8 => (intro w hSw; (try dsimp only at hSw); go_simp; try (with_reducible rfl))
      try simp only [Act.put, List.setIfInBounds_toArray, List.set_cons_zero, List.set_cons_succ]
      refine wpAnyH_ready (rs := [8]) (by kernel_rfl) (by simp) (AllReadyH.cons (o := ⟨_, _, _, _, _, _⟩) rfl (fun K9 hK9 => ?_) AllReadyH.nil)
      go_simp
      go_at_call 91; with_reducible refine (HCL.out _ HBC.out).mono ?_; rintro e w5 ⟨rfl, hb5⟩; have HBC := Lib.hid (HBC.out.trans (hb5.mono HBC.out.size)); clear hb5
      refine hK9.out _ _ ?_ (fun hHeld => ?_)
      · exact ⟨HC1.out _ HBC.out, HC2.out _ HBC.out, HBC.out⟩
      clear hK9 K9
      try simp only [Act.put, List.setIfInBounds_toArray, List.set_cons_zero, List.set_cons_succ]
      refine wpAnyH_take (i := 9) (oi := ⟨_, _, _, _, _, _⟩) (v := ?vv9) rfl (by kernel_rfl) (by kernel_rfl) (by kernel_rfl) (fun _ _ _ h => h) (Or.inl ⟨by rfl, ?hy9⟩) (by assumption) ?_
      case hy9 => (intro w hSw; (try dsimp only at hSw); go_simp; try (with_reducible rfl))
      try simp only [Act.put, List.setIfInBounds_toArray, List.set_cons_zero, List.set_cons_succ]
      refine wpAnyH_done (by kernel_rfl) ?_ _
      refine NoPanic.normal ?_
      have hB5 : Below w.heap.size w w5 := HB.out.trans (HBC.out.mono hsize)
      have HB5 := Lib.hid hB5
      clear hHeld
      go_wp2
      go_roundw
      case rel => exact ⟨k + 1, by omega, by go_num, HB5.out⟩
      case measure => simp [intOf]; omega
    · have hd : decide ((k : Int) < (l : Int)) = false := by simpa using hlt
      go_wp2
      go_ret
      exact ⟨rfl, HB.out⟩

set_option maxRecDepth 100000 in
set_option maxHeartbeats 2000000 in
theorem sameMx_any (g1 g2 : Nat) (a1 a2 : Option Addr) (c1 c2 : Nat) (R1 R2 : List (Nat × Nat)) (M : Lin.Mat) (hlen : M.length ≤ 1099511627776) (hoff : offM M M.length ≤ 1099511627776) (w : World) (h1 : Mx w g1 a1 R1 M) (h2 : Mx w g2 a2 R2 M) :
    Calls Try.prog 22 #[.slice a1 M.length c1, .slice a2 M.length c2] w fun e w' => e = .returned (.bool true) ∧ Below w.heap.size w w' := by
  have H1 := Lib.hid h1
  have H2 := Lib.hid h2
  have HW := Lib.hid (offM_row M)
  obtain ⟨l, hl⟩ : ∃ l, M.length = l := ⟨_, rfl⟩
  have HL := Lib.hid hl
  rw [hl] at hlen HW ⊢
  rw [hl] at hoff
  have HOFF := Lib.hid hoff
  clear h1 h2 hl hoff
  go_enter Try.func22, Try.ntmps22
  go_wp2
  go_loopw [5] (fun i wr => ∃ k : Nat, k ≤ l ∧ i = .int .i64 (k : Int) ∧ Below w.heap.size w wr) (fun i _ => l - (intOf i).toNat)
  case atStart => exact ⟨0, Nat.zero_le _, rfl, Below.refl _ _⟩
  case round =>
    obtain ⟨k, hk, rfl, hB⟩ := hrel
    have HB := Lib.hid hB
    clear hB
    by_cases hlt : k < l
    · have hd : decide ((k : Int) < (l : Int)) = true := by simpa using hlt
      have hM1 := H1.out.keeps HB.out
      have hM2 := H2.out.keeps HB.out
      obtain ⟨e1, s1, d1, _⟩ := hM1.out k (by rw [HL.out]; exact hlt)
      obtain ⟨e2, s2, d2, _⟩ := hM2.out k (by rw [HL.out]; exact hlt)
      subst e1 e2
      have r1 := (hM1.rows k (by rw [HL.out]; exact hlt)).2.ints
      have r2 := (hM2.rows k (by rw [HL.out]; exact hlt)).2.ints
      have hw := HW.out k hlt
      have hoff := HOFF.out
      have HCL := Lib.hid (fun W (hW : Below wr.heap.size wr W) => sameInt_any (some ⟨blk R1 k, 0, none⟩) (some ⟨blk R2 k, 0, none⟩) (room R1 k) (room R2 k) (Lin.row M k) (by omega) W (r1.keeps hW) (r2.keeps hW))
      obtain ⟨B1, hB1⟩ : ∃ b, blk R1 k = b := ⟨_, rfl⟩
      obtain ⟨B2, hB2⟩ : ∃ b, blk R2 k = b := ⟨_, rfl⟩
      obtain ⟨n, hn⟩ : ∃ n, (Lin.row M k).length = n := ⟨_, rfl⟩
      obtain ⟨C1, hC1⟩ : ∃ b, room R1 k = b := ⟨_, rfl⟩
      obtain ⟨C2, hC2⟩ : ∃ b, room R2 k = b := ⟨_, rfl⟩
      rw [hB1, hn, hC1] at d1
      rw [hB2, hn, hC2] at d2
      rw [hB1, hB2, hC1, hC2, hn] at HCL
      have hc1 : ∀ w', Below wr.heap.size wr w' → w'.cell? ⟨g1, k, none⟩ = some (.slice (some ⟨B1, 0, none⟩) n C1) := fun w' hw => by rw [hw.cell (p := ⟨g1, k, none⟩) s1]; exact d1
      have hc2 : ∀ w', Below wr.heap.size wr w' → w'.cell? ⟨g2, k, none⟩ = some (.slice (some ⟨B2, 0, none⟩) n C2) := fun w' hw => by rw [hw.cell (p := ⟨g2, k, none⟩) s2]; exact d2
      have HC1 := Lib.hid hc1
      have HC2 := Lib.hid hc2
      have HBC := Lib.hid (bdrew1 wr)
      have hsize := HB.out.size
      have hkz : (k : Int) < (l : Int) := by omega
      have hk0 : (0 : Int) ≤ (k : Int) := by omega
      clear hc1 hc2 hM1 hM2 r1 r2 d1 d2 hB1 hB2 hC1 hC2 hn s1 s2 hw hoff
      go_wp2_with fail
      refine wp_region_noPanic ?_
      refine wp_region_held_drew (S := (fun w' => w'.cell? ⟨g1, k, none⟩ = some (.slice (some ⟨B1, 0, none⟩) n C1) ∧ w'.cell? ⟨g2, k, none⟩ = some (.slice (some ⟨B2, 0, none⟩) n C2) ∧ Below wr.heap.size wr w')) (by kernel_rfl) ?_ (fun hHeld => ?_)
      · exact ⟨HC1.out _ HBC.out, HC2.out _ HBC.out, HBC.out⟩
      refine wpAnyH_take (i := 0) (oi := ⟨_, _, _, _, _, _⟩) (v := ?vv10) rfl (by kernel_rfl) (by kernel_rfl) (by kernel_rfl) (fun _ _ _ h => h) (Or.inl ⟨by rfl, ?hy10⟩) (by assumption) ?_
      case hy10 => (intro w hSw; (try dsimp only at hSw); go_simp; try (with_reducible rfl))
      try simp only [Act.put, List.setIfInBounds_toArray, List.set_cons_zero, List.set_cons_succ]
      refine wpAnyH_take (i := 1) (oi := ⟨_, _, _, _, _, _⟩) (v := ?vv11) rfl (by kernel_rfl) (by kernel_rfl) (by kernel_rfl) (fun _ _ _ h => h) (Or.inl ⟨by rfl, ?hy11⟩) (by assumption) ?_
      case hy11 => (intro w hSw; (try dsimp only at hSw); go_simp; try (with_reducible rfl))
      try simp only [Act.put, List.setIfInBounds_toArray, List.set_cons_zero, List.set_cons_succ]
      refine wpAnyH_take (i := 2) (oi := ⟨_, _, _, _, _, _⟩) (v := ?vv12) rfl (by kernel_rfl) (by kernel_rfl) (by kernel_rfl) (fun _ _ _ h => h) (Or.inl ⟨by rfl, ?hy12⟩) (by assumption) ?_
      case hy12 => (intro w hSw; (try dsimp only at hSw); go_simp; try (with_reducible rfl))
      try simp only [Act.put, List.setIfInBounds_toArray, List.set_cons_zero, List.set_cons_succ]
      refine wpAnyH_take (i := 3) (oi := ⟨_, _, _, _, _, _⟩) (v := ?vv13) rfl (by kernel_rfl) (by kernel_rfl) (by kernel_rfl) (fun _ _ _ h => h) (Or.inl ⟨by rfl, ?hy13⟩) (by assumption) ?_
      case hy13 => (intro w hSw; (try dsimp only at hSw); go_simp; try (with_reducible rfl))
      try simp only [Act.put, List.setIfInBounds_toArray, List.set_cons_zero, List.set_cons_succ]
      refine wpAnyH_take (i := 4) (oi := ⟨_, _, _, _, _, _⟩) (v := ?vv14) rfl (by kernel_rfl) (by kernel_rfl) (by kernel_rfl) (fun _ _ _ h => h) (Or.inl ⟨by rfl, ?hy14⟩) (by assumption) ?_
      case hy14 => (intro w hSw; (try dsimp only at hSw); go_simp; try (with_reducible rfl))
      try simp only [Act.put, List.setIfInBounds_toArray, List.set_cons_zero, List.set_cons_succ]
      refine wpAnyH_take (i := 5) (oi := ⟨_, _, _, _, _, _⟩) (v := ?vv15) rfl (by kernel_rfl) (by kernel_rfl) (by kernel_rfl) (fun _ _ _ h => h) (Or.inl ⟨by rfl, ?hy15⟩) (by assumption) ?_
      case hy15 => (intro w hSw; (try dsimp only at hSw); go_simp; try (with_reducible rfl))
      try simp only [Act.put, List.setIfInBounds_toArray, List.set_cons_zero, List.set_cons_succ]
      refine wpAnyH_take (i := 6) (oi := ⟨_, _, _, _, _, _⟩) (v := ?vv16) rfl (by kernel_rfl) (by kernel_rfl) (by kernel_rfl) (fun _ _ _ h => h) (Or.inl ⟨by rfl, ?hy16⟩) (by assumption) ?_
      case hy16 => (intro w hSw; (try dsimp only at hSw); go_simp; try (with_reducible rfl))
      try simp only [Act.put, List.setIfInBounds_toArray, List.set_cons_zero, List.set_cons_succ]
      refine wpAnyH_take (i := 7) (oi := ⟨_, _, _, _, _, _⟩) (v := ?vv17) rfl (by kernel_rfl) (by kernel_rfl) (by kernel_rfl) (fun _ _ _ h => h) (Or.inl ⟨by rfl, ?hy17⟩) (by assumption) ?_
      case hy17 => (intro w hSw; (try dsimp only at hSw); go_simp; try (with_reducible rfl))
      try simp only [Act.put, List.setIfInBounds_toArray, List.set_cons_zero, List.set_cons_succ]
      refine wpAnyH_ready (rs := [8]) (by kernel_rfl) (by simp) (AllReadyH.cons (o := ⟨_, _, _, _, _, _⟩) rfl (fun K9 hK9 => ?_) AllReadyH.nil)
      go_simp
      go_at_call 37; with_reducible refine (HCL.out _ HBC.out).mono ?_; rintro e w5 ⟨rfl, hb5⟩; have HBC := Lib.hid (HBC.out.trans (hb5.mono HBC.out.size)); clear hb5
      refine hK9.out _ _ ?_ (fun hHeld => ?_)
      · exact ⟨HC1.out _ HBC.out, HC2.out _ HBC.out, HBC.out⟩
      clear hK9 K9
      try simp only [Act.put, List.setIfInBounds_toArray, List.set_cons_zero, List.set_cons_succ]
      refine wpAnyH_take (i := 9) (oi := ⟨_, _, _, _, _, _⟩) (v := ?vv18) rfl (by kernel_rfl) (by kernel_rfl) (by kernel_rfl) (fun _ _ _ h => h) (Or.inl ⟨by rfl, ?hy18⟩) (by assumption) ?_
      case hy18 => (intro w hSw; (try dsimp only at hSw); go_simp; try (with_reducible rfl))
      try simp only [Act.put, List.setIfInBounds_toArray, List.set_cons_zero, List.set_cons_succ]
      refine wpAnyH_done (by kernel_rfl) ?_ _
      refine NoPanic.normal ?_
      have hB5 : Below w.heap.size w w5 := HB.out.trans (HBC.out.mono hsize)
      have HB5 := Lib.hid hB5
      clear hHeld
      go_wp2
      go_roundw
      case rel => exact ⟨k + 1, by omega, by go_num, HB5.out⟩
      case measure => simp [intOf]; omega
    · have hd : decide ((k : Int) < (l : Int)) = false := by simpa using hlt
      go_wp2
      go_ret
      exact ⟨rfl, HB.out⟩

set_option maxRecDepth 100000 in
set_option maxHeartbeats 2000000 in
theorem markMx_any (go : Nat) (ao : Option Addr) (c : Nat) (R : List (Nat × Nat)) (M : Lin.Mat) (s : Nat) (z : Int) (hz : z = (s : Int)) (hlen : M.length ≤ 1099511627776) (hoff : s + offM M M.length ≤ 1099511627776) (w : World) (h : Mx w go ao R M) :
    Calls Try.prog 45 #[.slice ao M.length c, .int .i64 z] w fun e w' => e = .returned (.int .i64 ((s + offM M M.length : Nat) : Int)) ∧ Mx w' go ao R (markM s M) ∧ Only (blks R) w w' := by
  subst hz
  have H := Lib.hid h
  have HNX := Lib.hid (offM_next M)
  have HLE := Lib.hid (offM_le M)
  have HRW := Lib.hid (offM_row M)
  have HMR := Lib.hid (markM_row s M)
  have hml := markM_length s M
  have HZ : Hid (Mx w go ao R (mixM (markM s M) M 0)) := by
    have : Mx w go ao R (mixM (markM s M) M 0) := by rw [mixM_zero]; exact h
    exact this
  obtain ⟨T, hT⟩ : ∃ T, markM s M = T := ⟨_, rfl⟩
  rw [hT] at HZ HMR hml ⊢
  have HST := Lib.hid (fun j (hj : j < M.length) => mixM_step hml hj)
  have HMX := Lib.hid (fun j (hj : j < M.length) => mixM_row hml hj)
  have HME := Lib.hid (mixM_end hml (Nat.le_refl _))
  have HML := Lib.hid (mixM_length hml)
  obtain ⟨l, hl⟩ : ∃ l, M.length = l := ⟨_, rfl⟩
  have HL := Lib.hid hl
  rw [hl] at HNX HLE HRW HMR HST HMX HME HML hlen hoff ⊢
  obtain ⟨F, hF⟩ : ∃ F : Nat → Nat, offM M = F := ⟨_, rfl⟩
  rw [hF] at HNX HLE HRW HMR hoff ⊢
  have hF0 : F 0 = 0 := by rw [← hF]; exact offM_zero M
  have HF0 := Lib.hid hF0
  clear h hl hT hF hF0 hml
  go_enter Try.func45, Try.ntmps45
  go_wp2
  go_loopw [1, 5] (fun kv i wr => ∃ j : Nat, j ≤ l ∧ i = .int .i64 (j : Int) ∧ kv = .int .i64 ((s + F j : Nat) : Int) ∧ Mx wr go ao R (mixM T M j) ∧ Only (blks R) w wr) (fun _ i _ => l - (intOf i).toNat)
  case atStart => exact ⟨0, Nat.zero_le _, rfl, by rw [HF0.out]; rfl, HZ.out, Only.refl _ _⟩
  case round =>
    obtain ⟨j, hj, rfl, rfl, hX, hO⟩ := hrel
    have HX := Lib.hid hX
    have HO := Lib.hid hO
    clear hX hO
    by_cases hlt : j < l
    · have hlm : j < (mixM T M j).length := by rw [HML.out]; exact hlt
      obtain ⟨e1, s1, d1, _⟩ := HX.out.out j hlm
      subst e1
      obtain ⟨_, hI⟩ := HX.out.rows j hlm
      rw [HMX.out j hlt] at d1 hI
      have hle := HLE.out j
      have hrw := HRW.out j hlt
      have hnx := HNX.out j hlt
      have HLM := Lib.hid hlm
      have HCL := Lib.hid (markInt_any (blk R j) (some ⟨blk R j, 0, none⟩) (room R j) (Lin.row M j) ((s + F j : Nat) : Int) (s + F j) rfl (by omega) (by omega) wr hI)
      have HEN : Hid (s + F j + (Lin.row M j).length = s + F (j + 1)) := by
        have : s + F j + (Lin.row M j).length = s + F (j + 1) := by omega
        exact this
      rw [HEN.out] at HCL
      have hle2 := HLE.out (j + 1)
      obtain ⟨u, hu⟩ : ∃ u, s + F j = u := ⟨_, rfl⟩
      obtain ⟨u2, hu2⟩ : ∃ u, s + F (j + 1) = u := ⟨_, rfl⟩
      have HU := Lib.hid hu
      have HU2 := Lib.hid hu2
      rw [hu, hu2] at HCL
      rw [hu]
      clear hI hle hrw hnx hlm hle2 hu hu2
      go_wp2_with fail
      refine HCL.out.mono ?_
      rintro e w1 ⟨rfl, hr, hg⟩
      have hX1 : Mx w1 go (some ⟨go, 0, none⟩) R (mixM T M (j + 1)) := by
        rw [← HST.out j hlt]
        refine HX.out.setRow HLM.out ?_ ?_ hg
        · rw [HMR.out j hlt, HU.out, imarks_length, HMX.out j hlt]
        · rw [HMR.out j hlt, HU.out]; exact hr
      have hO1 : Only (blks R) w w1 := HO.out.trans (by
        refine ⟨hg.os, hg.tape, hg.output, hg.size, fun k hk hn => hg.block k hk (fun e => hn ?_)⟩
        rw [Option.some.inj e]
        exact blk_mem (by rw [HX.out.len]; exact HLM.out))
      have HX1 := Lib.hid hX1
      have HO1 := Lib.hid hO1
      clear hr hg hX1 hO1 HCL
      go_wp2
      go_roundw
      case rel => exact ⟨j + 1, by omega, by go_num, by rw [HU2.out], HX1.out, HO1.out⟩
      case measure => simp [intOf]; omega
    · have hje : j = l := by omega
      subst hje
      have hX2 := HX.out
      rw [HME.out] at hX2
      have HX2 := Lib.hid hX2
      clear hX2
      obtain ⟨u, hu⟩ : ∃ u, s + F j = u := ⟨_, rfl⟩
      have HU := Lib.hid hu
      rw [hu]
      clear hu
      go_wp2
      go_ret
      exact ⟨by rw [HU.out]; rfl, HX2.out, HO.out⟩

set_option maxRecDepth 100000 in
set_option maxHeartbeats 2000000 in
theorem heldMx_any (go : Nat) (ao : Option Addr) (c : Nat) (R : List (Nat × Nat)) (M : Lin.Mat) (s : Nat) (z : Int) (hz : z = (s : Int)) (hlen : M.length ≤ 1099511627776) (hoff : s + offM M M.length ≤ 1099511627776) (w : World) (h : Mx w go ao R (markM s M)) :
    Calls Try.prog 46 #[.slice ao M.length c, .int .i64 z] w fun e w' => e = .returned (.int .i64 ((s + offM M M.length : Nat) : Int)) ∧ Below w.heap.size w w' := by
  subst hz
  have H := Lib.hid h
  have HNX := Lib.hid (offM_next M)
  have HLE := Lib.hid (offM_le M)
  have HRW := Lib.hid (offM_row M)
  have HMR := Lib.hid (markM_row s M)
  have hml := markM_length s M
  obtain ⟨T, hT⟩ : ∃ T, markM s M = T := ⟨_, rfl⟩
  rw [hT] at H HMR hml
  obtain ⟨l, hl⟩ : ∃ l, M.length = l := ⟨_, rfl⟩
  rw [hl] at HNX HLE HRW HMR hlen hoff hml ⊢
  have HTL := Lib.hid hml
  obtain ⟨F, hF⟩ : ∃ F : Nat → Nat, offM M = F := ⟨_, rfl⟩
  rw [hF] at HNX HLE HRW HMR hoff ⊢
  have hF0 : F 0 = 0 := by rw [← hF]; exact offM_zero M
  have HF0 := Lib.hid hF0
  clear h hl hT hF hF0 hml
  go_enter Try.func46, Try.ntmps46
  go_wp2
  go_loopw [1, 5] (fun kv i wr => ∃ j : Nat, j ≤ l ∧ i = .int .i64 (j : Int) ∧ kv = .int .i64 ((s + F j : Nat) : Int) ∧ Below w.heap.size w wr) (fun _ i _ => l - (intOf i).toNat)
  case atStart => exact ⟨0, Nat.zero_le _, rfl, by rw [HF0.out]; rfl, Below.refl _ _⟩
  case round =>
    obtain ⟨j, hj, rfl, rfl, hB⟩ := hrel
    have HB := Lib.hid hB
    clear hB
    by_cases hlt : j < l
    · have hX := H.out.keeps HB.out
      obtain ⟨e1, s1, d1, _⟩ := hX.out j (by rw [HTL.out]; exact hlt)
      subst e1
      obtain ⟨_, hI⟩ := hX.rows j (by rw [HTL.out]; exact hlt)
      rw [HMR.out j hlt] at d1 hI
      rw [imarks_length] at d1
      have hle := HLE.out j
      have hrw := HRW.out j hlt
      have hnx := HNX.out j hlt
      have HCL := Lib.hid (heldInt_any (blk R j) (some ⟨blk R j, 0, none⟩) (room R j) (Lin.row M j).length ((s + F j : Nat) : Int) (s + F j) rfl (by omega) (by omega) wr hI)
      have HEN : Hid (s + F j + (Lin.row M j).length = s + F (j + 1)) := by
        have : s + F j + (Lin.row M j).length = s + F (j + 1) := by omega
        exact this
      rw [HEN.out] at HCL
      have hsz := HB.out.size
      obtain ⟨u, hu⟩ : ∃ u, s + F j = u := ⟨_, rfl⟩
      obtain ⟨u2, hu2⟩ : ∃ u, s + F (j + 1) = u := ⟨_, rfl⟩
      have HU2 := Lib.hid hu2
      rw [hu, hu2] at HCL
      rw [hu]
      have hneg : decide ((u2 : Int) < 0) = false := by simp
      clear hI hle hrw hnx hX hu hu2
      go_wp2_with fail
      refine HCL.out.mono ?_
      rintro e w1 ⟨rfl, hb1⟩
      have HB1 : Hid (Below w.heap.size w w1) := HB.out.trans (hb1.mono hsz)
      clear hb1 HCL
      go_wp2
      go_roundw
      case rel => exact ⟨j + 1, by omega, by go_num, by rw [HU2.out], HB1.out⟩
      case measure => simp [intOf]; omega
    · have hje : j = l := by omega
      subst hje
      obtain ⟨u, hu⟩ : ∃ u, s + F j = u := ⟨_, rfl⟩
      have HU := Lib.hid hu
      rw [hu]
      clear hu
      go_wp2
      go_ret
      exact ⟨by rw [HU.out]; rfl, HB.out⟩

end Go.Proofs.Ythjgpbcdcgagfaa
