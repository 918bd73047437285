/-
  WALKS of chapter 6 (spec): two complexes that fit, their join.
-/
import Derived.Test.YthobncbggaggjaaJoin1
import Derived.Test.YthobncbggaggjaaWCx6
import Derived.Test.YthobncbggaggjaaHas
import Derived.Test.YthobncbggaggjaaWCnt1
import Derived.Deep.RegionHeld3
import Derived.Deep.AppendLies
namespace Go.Proofs.Ythobncbggaggjaa
open Go.RowKit
open Sets Join

set_option maxRecDepth 100000 in
set_option maxHeartbeats 4000000 in
theorem l6Fit_b (n m : Int) (pa pb : Option Addr) (ca cb : Nat) (xs ys : List Int) (hlx : xs.length ≤ 1099511627776) (hly : ys.length ≤ 1099511627776) (b : Bool) (hb : joinOk n m xs ys = b) (w : World) (hx : Ints w pa xs) (hy : Ints w pb ys) :
    Calls Try.prog 41 #[cx n (.slice pa xs.length ca), cx m (.slice pb ys.length cb)] w fun e w' => e = .returned (.bool b) ∧ Below w.heap.size w w' := by
  have hb0 : Below w.heap.size w ((w.alloc (.cells #[.int .i64 n, .slice pa xs.length ca] 26)).alloc (.cells #[.int .i64 m, .slice pb ys.length cb] 26)) := ((Below.refl _ _).alloc (Nat.le_refl _) _).alloc (by simp) _
  have hta := (Two.new w (.int .i64 n) (.slice pa xs.length ca) 26).alloc (.cells #[.int .i64 m, .slice pb ys.length cb] 26)
  have htb := Two.new (w.alloc (.cells #[.int .i64 n, .slice pa xs.length ca] 26)) (.int .i64 m) (.slice pb ys.length cb) 26
  simp only [World.size_alloc] at htb
  obtain ⟨bb, hbb⟩ : ∃ bb, w.heap.size + 1 = bb := ⟨_, rfl⟩
  rw [hbb] at htb
  have TA := Lib.hid hta
  have TB := Lib.hid htb
  have HX := Lib.hid (hx.keeps hb0)
  have HY := Lib.hid (hy.keeps hb0)
  have HBV := Lib.hid hb0
  have HBB := Lib.hid hbb
  have HR := Lib.hid hb
  clear hx hy hta htb hb0 hbb hb
  obtain ⟨k0, k1, k2, k3, k4⟩ := TA.out
  obtain ⟨l0, l1, l2, l3, l4⟩ := TB.out
  cases hcx : isC n xs with
  | false =>
    have HCX := Lib.hid hcx
    have HE : Hid (b = false) := by show b = false; rw [← HR.out]; unfold joinOk; rw [hcx]; rfl
    clear hcx
    go_enter Try.func41, Try.ntmps41
    go_wp2_with fail
    try rw [HBB.out]
    refine (specIsC_b n _ _ xs false HCX.out hlx _ HX.out).mono ?_
    rintro e w1 ⟨rfl, hb1⟩
    have HB1 : Hid (Below w.heap.size w w1) := HBV.out.trans (hb1.mono HBV.out.size)
    clear hb1
    go_wp2
    go_ret
    exact ⟨by rw [HE.out]; rfl, HB1.out⟩
  | true =>
    have HCX := Lib.hid hcx
    cases hcy : isC m ys with
    | false =>
      have HCY := Lib.hid hcy
      have HE : Hid (b = false) := by show b = false; rw [← HR.out]; unfold joinOk; rw [hcx, hcy]; rfl
      clear hcx hcy
      go_enter Try.func41, Try.ntmps41
      go_wp2_with fail
      try rw [HBB.out]
      refine (specIsC_b n _ _ xs true HCX.out hlx _ HX.out).mono ?_
      rintro e w1 ⟨rfl, hb1⟩
      have HB1 : Hid (Below w.heap.size w w1) := HBV.out.trans (hb1.mono HBV.out.size)
      obtain ⟨d0, d1, d2, d3, d4⟩ := TB.out.keeps hb1
      have HY1 := Lib.hid (HY.out.keeps hb1)
      clear hb1
      go_wp2_with fail
      refine (specIsC_b m _ _ ys false HCY.out hly _ HY1.out).mono ?_
      rintro e w2 ⟨rfl, hb2⟩
      have HB2 : Hid (Below w.heap.size w w2) := HB1.out.trans (hb2.mono HB1.out.size)
      clear hb2
      go_wp2
      go_ret
      exact ⟨by rw [HE.out]; rfl, HB2.out⟩
    | true =>
      have HCY := Lib.hid hcy
      have HE : Hid (b = decide (n + m ≤ 6)) := by show b = _; rw [← HR.out]; unfold joinOk; rw [hcx, hcy]; rfl
      have hn := isC_n hcx
      have hm := isC_n hcy
      clear hcx hcy
      go_enter Try.func41, Try.ntmps41
      go_wp2_with fail
      try rw [HBB.out]
      refine (specIsC_b n _ _ xs true HCX.out hlx _ HX.out).mono ?_
      rintro e w1 ⟨rfl, hb1⟩
      have HB1 : Hid (Below w.heap.size w w1) := HBV.out.trans (hb1.mono HBV.out.size)
      have TA1 := Lib.hid (TA.out.keeps hb1)
      have TB1 := Lib.hid (TB.out.keeps hb1)
      have HY1 := Lib.hid (HY.out.keeps hb1)
      obtain ⟨d0, d1, d2, d3, d4⟩ := TB.out.keeps hb1
      clear hb1
      go_wp2_with fail
      refine (specIsC_b m _ _ ys true HCY.out hly _ HY1.out).mono ?_
      rintro e w2 ⟨rfl, hb2⟩
      have HB2 : Hid (Below w.heap.size w w2) := HB1.out.trans (hb2.mono HB1.out.size)
      obtain ⟨e0, e1, e2, e3, e4⟩ := TA1.out.keeps hb2
      obtain ⟨f0, f1, f2, f3, f4⟩ := TB1.out.keeps hb2
      clear hb2
      go_wp2
      go_ret
      exact ⟨by rw [HE.out]; rfl, HB2.out⟩

/-- The sets of a join so far: i facets of the one done, k of the other one's in this row. -/
def joinL (nn : Nat) (xs ys : List Int) (i k : Nat) : List Int := pairs nn (xs.take i) ys ++ (ys.take k).map fun y => xs.getD i 0 + 2 ^ nn * y
theorem joinL_zero (nn : Nat) (xs ys : List Int) : joinL nn xs ys 0 0 = [] := rfl
theorem joinL_next (nn : Nat) (xs ys : List Int) (i k : Nat) (h : k < ys.length) : joinL nn xs ys i (k + 1) = joinL nn xs ys i k ++ [xs.getD i 0 + 2 ^ nn * ys.getD k 0] := by
  unfold joinL
  rw [List.take_add_one, List.map_append, ← List.append_assoc]
  simp [List.getD, List.getElem?_eq_getElem h]
theorem joinL_line (nn : Nat) (xs ys : List Int) (i : Nat) (h : i < xs.length) : joinL nn xs ys i ys.length = joinL nn xs ys (i + 1) 0 := by
  unfold joinL pairs
  rw [List.take_length, List.take_zero, List.map_nil, List.append_nil, List.take_add_one, List.flatMap_append]
  simp [List.getD, List.getElem?_eq_getElem h]
theorem joinL_end (nn : Nat) (xs ys : List Int) : joinL nn xs ys xs.length 0 = pairs nn xs ys := by
  unfold joinL; rw [List.take_length, List.take_zero, List.map_nil, List.append_nil]
theorem pairs_length (nn : Nat) (xs ys : List Int) : (pairs nn xs ys).length = xs.length * ys.length := by
  unfold pairs
  induction xs with
  | nil => simp
  | cons x xs ih => rw [List.flatMap_cons, List.length_append, ih, List.length_map, List.length_cons, Nat.add_mul, Nat.one_mul, Nat.add_comm]
theorem joinL_le (nn : Nat) (xs ys : List Int) (i k : Nat) (hx : xs.length ≤ 64) (hy : ys.length ≤ 64) (hi : i ≤ xs.length) : (joinL nn xs ys i k).length ≤ 4160 := by
  unfold joinL
  rw [List.length_append, pairs_length, List.length_map, List.length_take, List.length_take]
  have : min i xs.length * ys.length ≤ 64 * 64 := Nat.mul_le_mul (by omega) hy
  omega

end Go.Proofs.Ythobncbggaggjaa
