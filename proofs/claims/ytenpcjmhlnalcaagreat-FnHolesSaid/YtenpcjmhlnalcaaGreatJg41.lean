/-
  TEXTS of one claim, put together: WHlD2, WHlD3, WJoinS, WJoinS2.
-/
import Derived.Test.YtenpcjmhlnalcaaGreatJg12
import Derived.Test.YtenpcjmhlnalcaaGreatJg20
import Derived.Test.YtenpcjmhlnalcaaGreatJg21
import Derived.Test.YtenpcjmhlnalcaaGreatJg27
import Derived.Test.YtenpcjmhlnalcaaGreatJg11
import Derived.Test.YtenpcjmhlnalcaaGreatJg2
import Derived.Test.YtenpcjmhlnalcaaGreatJg7
import Derived.Deep.RegionHeld3
import Derived.Deep.AppendLies
/-! WALKS: the draws of chapter 14 (but that with a cone). -/

namespace Go.Proofs.YtenpcjmhlnalcaaGreat
open Go.RowKit
open Sets

set_option maxRecDepth 100000 in
set_option maxHeartbeats 2000000 in
theorem l14Case_any (a : Option Addr) (n c : Nat) (hn : n ≤ 140737488355328) (w : World) (hc : Code w a n) :
    Calls Tryz.prog 24 #[.slice a n c] w fun e w' => Drawn2 w e w' := by
  have hb0 : Below w.heap.size w (w.alloc (.cells #[.int .i64 0, .slice none 0 0] 26)) := (Below.refl _ _).alloc (Nat.le_refl _) _
  have HC0 := Lib.hid (hc.keeps hb0)
  have HB0 := Lib.hid hb0
  have HT0 := Lib.hid (Two.new w (.int .i64 0) (.slice none 0 0) 26)
  clear hc hb0
  go_enter Tryz.func24, Tryz.ntmps24
  go_wp2_with fail
  refine (new_any a n c hn _ HC0.out).mono ?_
  rintro e w1 ⟨rfl, hcur, hz1, hb1⟩
  simp only [World.size_alloc] at hcur hz1
  have K1 := Lib.hid hcur
  have B1 : Hid (Below w.heap.size w w1) := HB0.out.trans (hb1.mono (by simp))
  have T1 := Lib.hid (Two.keeps HT0.out hb1)
  clear hcur hb1 HC0 HB0 HT0
  go_wp2_with fail
  refine (l3Bent_any a n c hn (w.heap.size + 1) w1 hz1 K1.out).mono ?_
  rintro e w2 ⟨N, v, xs, rfl, hl, hO, hK, hG⟩
  obtain ⟨a5, c5, g5, rfl, hc5, hg5, hr5, _⟩ := OwnInts.ata hO hG.size
  have hs2 := hG.size
  have hba : Below w2.heap.size w2 (w2.alloc (.cells #[.int .i64 N, .slice a5 xs.length c5] 26)) := (Below.refl _ _).alloc (Nat.le_refl _) _
  have ho := OwnInts.lower (hO.alloc (.cells #[.int .i64 N, .slice a5 xs.length c5] 26)) (show w.heap.size + 2 ≤ w1.heap.size by omega)
  have hb : Below w.heap.size w (w2.alloc (.cells #[.int .i64 N, .slice a5 xs.length c5] 26)) := (B1.out.trans (Mem.below_of_but hG (by omega) (by omega))).trans (hba.mono (by omega))
  have ht := Two.keeps (Two.far T1.out hG (by omega)) hba
  have hx := Two.new w2 (.int .i64 N) (.slice a5 xs.length c5) 26
  have hk := hK.keeps (by omega) hba
  have hs3 : (w2.alloc (.cells #[.int .i64 N, .slice a5 xs.length c5] 26)).heap.size = w2.heap.size + 1 := by simp
  go_wp2_with fail
  generalize w2.alloc (.cells #[.int .i64 N, .slice a5 xs.length c5] 26) = w3 at *
  have hbl : Below w3.heap.size w3 (w3.alloc (.cells #[.int .i64 2, .int .i64 3, .int .i64 5, .int .i64 2, .int .i64 3, .int .i64 2, .int .i64 3, .int .i64 4] 3)) := (Below.refl _ _).alloc (Nat.le_refl _) _
  have HO : Hid (OwnInts (w3.alloc (.cells #[.int .i64 2, .int .i64 3, .int .i64 5, .int .i64 2, .int .i64 3, .int .i64 2, .int .i64 3, .int .i64 4] 3)).drew (w.heap.size + 2) (.slice a5 xs.length c5) xs) := OwnInts.keeps ho hbl.drew
  have HB : Hid (Below w.heap.size w (w3.alloc (.cells #[.int .i64 2, .int .i64 3, .int .i64 5, .int .i64 2, .int .i64 3, .int .i64 2, .int .i64 3, .int .i64 4] 3)).drew) := (hb.trans (hbl.mono hb.size)).drew
  have HT : Hid (Two (w3.alloc (.cells #[.int .i64 2, .int .i64 3, .int .i64 5, .int .i64 2, .int .i64 3, .int .i64 2, .int .i64 3, .int .i64 4] 3)).drew w.heap.size (.int .i64 0) (.slice none 0 0)) := Two.keeps ht hbl.drew
  have HX : Hid (Two (w3.alloc (.cells #[.int .i64 2, .int .i64 3, .int .i64 5, .int .i64 2, .int .i64 3, .int .i64 2, .int .i64 3, .int .i64 4] 3)).drew w2.heap.size (.int .i64 N) (.slice a5 xs.length c5)) := Two.keeps hx hbl.drew
  have HK : Hid (Cur (w3.alloc (.cells #[.int .i64 2, .int .i64 3, .int .i64 5, .int .i64 2, .int .i64 3, .int .i64 2, .int .i64 3, .int .i64 4] 3)).drew (w.heap.size + 1) a n c) := (Cur.keeps hk (by omega) hbl).drw
  have HROW : Hid (IntRow (w3.alloc (.cells #[.int .i64 2, .int .i64 3, .int .i64 5, .int .i64 2, .int .i64 3, .int .i64 2, .int .i64 3, .int .i64 4] 3)).drew (w2.heap.size + 1) 0 [2, 3, 5, 2, 3, 2, 3, 4]) := by
    have := row_ints w3 [2, 3, 5, 2, 3, 2, 3, 4] 3
    rw [hs3] at this
    exact this
  have hz3 : (w3.alloc (.cells #[.int .i64 2, .int .i64 3, .int .i64 5, .int .i64 2, .int .i64 3, .int .i64 2, .int .i64 3, .int .i64 4] 3)).drew.heap.size = w2.heap.size + 2 := by show (w3.alloc _).heap.size = _; rw [World.size_alloc, hs3]
  obtain ⟨t0, t1, t2, t3, t4⟩ := ht
  obtain ⟨x0, x1, x2, x3, x4⟩ := hx
  clear hO hK hG hr5 K1 T1 B1 hba ho hb hk hbl
  have hwb : w.heap.size ≠ w2.heap.size := by omega
  have hbw : w2.heap.size ≠ w.heap.size := by omega
  go_region_law (first
    | (go_simp; go_at_call 43; refine (pick_some (w.heap.size + 1) a n c hn (w2.heap.size + 1) 0 8 [2, 3, 5, 2, 3, 2, 3, 4] (by decide) (by decide) _ HK.out (by omega) (by exact HROW.out)).mono ?_; rintro e w5 ⟨p, rfl, hd⟩; have O5 := Lib.hid (OwnInts.away HO.out hd.2 (by omega)); have hT5 := Two.far HT.out hd.2 (by omega); have hX5 := Two.far HX.out hd.2 (by omega); have B5 : Hid (Below w.heap.size w w5) := HB.out.trans (Mem.below_of_but hd.2 (by omega) HB.out.size); obtain ⟨s0, s1, s2, s3, s4⟩ := hT5; obtain ⟨y0, y1, y2, y3, y4⟩ := hX5; clear hd)
    | fail "arm")
  all_goals
    go_wp2
    refine ret_cx2 w.heap.size rfl rfl rfl (x := .int .i64 N) (y := .slice a5 xs.length c5) (by go_simp) (by go_simp) rfl ?_
    exact ⟨N, _, xs, p, rfl, hl, (OwnInts.set (OwnInts.set O5.out _ _ _ (by omega)) _ _ _ (by omega)).lower (by omega), (B5.out.setCell (by simp) _).setCell (by simp) _⟩

end Go.Proofs.YtenpcjmhlnalcaaGreat

/-! WALKS: the draws of chapter 14: a complex and a prime. -/

namespace Go.Proofs.YtenpcjmhlnalcaaGreat
open Go.RowKit
open Sets

set_option maxRecDepth 100000 in
set_option maxHeartbeats 2000000 in
theorem drawHolesM_any (a : Option Addr) (n c : Nat) (hn : n ≤ 140737488355328) (w : World) (hc : Code w a n) :
    Calls Tryz.prog 5 #[.slice a n c] w fun e w' => Drawn2 w e w' := by
  have hb0 : Below w.heap.size w (w.alloc (.cells #[.int .i64 0, .slice none 0 0] 26)) := (Below.refl _ _).alloc (Nat.le_refl _) _
  have HC0 := Lib.hid (hc.keeps hb0)
  have HB0 := Lib.hid hb0
  have HT0 := Lib.hid (Two.new w (.int .i64 0) (.slice none 0 0) 26)
  clear hc hb0
  go_enter Tryz.func5, Tryz.ntmps5
  go_wp2_with fail
  refine (l14Case_any a n c hn _ HC0.out).mono ?_
  rintro e w1 ⟨N, v, xs, k, rfl, hl, hO, hb1⟩
  obtain ⟨a5, c5, g5, rfl, hc5, hg5, hr5, _⟩ := OwnInts.ata hO hb1.size
  simp only [World.size_alloc] at hO hg5
  have hs1 := hb1.size
  simp only [World.size_alloc] at hs1
  have hba : Below w1.heap.size w1 (w1.alloc (.cells #[.int .i64 N, .slice a5 xs.length c5] 26)) := (Below.refl _ _).alloc (Nat.le_refl _) _
  have HO := Lib.hid (hO.alloc (.cells #[.int .i64 N, .slice a5 xs.length c5] 26))
  have HB : Hid (Below w.heap.size w (w1.alloc (.cells #[.int .i64 N, .slice a5 xs.length c5] 26))) := (HB0.out.trans (hb1.mono (by simp))).trans (hba.mono (by omega))
  obtain ⟨t0, t1, t2, t3, t4⟩ := Two.keeps (Two.keeps HT0.out hb1) hba
  obtain ⟨x0, x1, x2, x3, x4⟩ := Two.new w1 (.int .i64 N) (.slice a5 xs.length c5) 26
  have hwb : w.heap.size ≠ w1.heap.size := by omega
  have hbw : w1.heap.size ≠ w.heap.size := by omega
  clear hO hb1 hr5 hba HC0 HB0 HT0
  go_wp2
  refine ret_cx2 w.heap.size rfl rfl rfl (x := .int .i64 N) (y := .slice a5 xs.length c5) (by go_simp) (by go_simp) rfl ?_
  exact ⟨N, _, xs, k, rfl, hl, (OwnInts.set (OwnInts.set HO.out _ _ _ (by omega)) _ _ _ (by omega)).lower (by omega), (HB.out.setCell (by simp) _).setCell (by simp) _⟩

set_option maxRecDepth 100000 in
set_option maxHeartbeats 2000000 in
theorem drawSphere_any (a : Option Addr) (n c : Nat) (hn : n ≤ 140737488355328) (w : World) (hc : Code w a n) :
    Calls Tryz.prog 8 #[.slice a n c] w fun e w' => Drawn2 w e w' := by
  have hb0 : Below w.heap.size w (w.alloc (.cells #[.int .i64 0, .slice none 0 0] 26)) := (Below.refl _ _).alloc (Nat.le_refl _) _
  have HC0 := Lib.hid (hc.keeps hb0)
  have HB0 := Lib.hid hb0
  have HT0 := Lib.hid (Two.new w (.int .i64 0) (.slice none 0 0) 26)
  clear hc hb0
  go_enter Tryz.func8, Tryz.ntmps8
  go_wp2_with fail
  refine (l14Case_any a n c hn _ HC0.out).mono ?_
  rintro e w1 ⟨N, v, xs, k, rfl, hl, hO, hb1⟩
  obtain ⟨a5, c5, g5, rfl, hc5, hg5, hr5, _⟩ := OwnInts.ata hO hb1.size
  simp only [World.size_alloc] at hO hg5
  have hs1 := hb1.size
  simp only [World.size_alloc] at hs1
  have hba : Below w1.heap.size w1 (w1.alloc (.cells #[.int .i64 N, .slice a5 xs.length c5] 26)) := (Below.refl _ _).alloc (Nat.le_refl _) _
  have HO := Lib.hid (hO.alloc (.cells #[.int .i64 N, .slice a5 xs.length c5] 26))
  have HB : Hid (Below w.heap.size w (w1.alloc (.cells #[.int .i64 N, .slice a5 xs.length c5] 26))) := (HB0.out.trans (hb1.mono (by simp))).trans (hba.mono (by omega))
  obtain ⟨t0, t1, t2, t3, t4⟩ := Two.keeps (Two.keeps HT0.out hb1) hba
  obtain ⟨x0, x1, x2, x3, x4⟩ := Two.new w1 (.int .i64 N) (.slice a5 xs.length c5) 26
  have hwb : w.heap.size ≠ w1.heap.size := by omega
  have hbw : w1.heap.size ≠ w.heap.size := by omega
  clear hO hb1 hr5 hba HC0 HB0 HT0
  go_wp2
  refine ret_cx2 w.heap.size rfl rfl rfl (x := .int .i64 N) (y := .slice a5 xs.length c5) (by go_simp) (by go_simp) rfl ?_
  exact ⟨N, _, xs, k, rfl, hl, (OwnInts.set (OwnInts.set HO.out _ _ _ (by omega)) _ _ _ (by omega)).lower (by omega), (HB.out.setCell (by simp) _).setCell (by simp) _⟩

end Go.Proofs.YtenpcjmhlnalcaaGreat

/-! WALKS of chapter 6 (spec): two complexes that fit, their join. -/

namespace Go.Proofs.YtenpcjmhlnalcaaGreat
open Go.RowKit
open Sets Join

set_option maxRecDepth 100000 in
set_option maxHeartbeats 4000000 in
theorem l6Fit_b (n m : Int) (pa pb : Option Addr) (ca cb : Nat) (xs ys : List Int) (hlx : xs.length ≤ 1099511627776) (hly : ys.length ≤ 1099511627776) (b : Bool) (hb : joinOk n m xs ys = b) (w : World) (hx : Ints w pa xs) (hy : Ints w pb ys) :
    Calls Tryz.prog 75 #[cx n (.slice pa xs.length ca), cx m (.slice pb ys.length cb)] w fun e w' => e = .returned (.bool b) ∧ Below w.heap.size w w' := by
  have hb0 : Below w.heap.size w ((w.alloc (.cells #[.int .i64 n, .slice pa xs.length ca] 26)).alloc (.cells #[.int .i64 m, .slice pb ys.length cb] 26)) := ((Below.refl _ _).alloc (Nat.le_refl _) _).alloc (by simp) _
  have hta := (Two.new w (.int .i64 n) (.slice pa xs.length ca) 26).alloc (.cells #[.int .i64 m, .slice pb ys.length cb] 26)
  have htb := Two.new (w.alloc (.cells #[.int .i64 n, .slice pa xs.length ca] 26)) (.int .i64 m) (.slice pb ys.length cb) 26
  simp only [World.size_alloc] at htb
  obtain ⟨bb, hbb⟩ : ∃ bb, w.heap.size + 1 = bb := ⟨_, rfl⟩
  rw [hbb] at htb
  have TA := Lib.hid hta
  have TB := Lib.hid htb
  have HX := Lib.hid (hx.keeps hb0)
  have HY := Lib.hid (hy.keeps hb0)
  have HBV := Lib.hid hb0
  have HBB := Lib.hid hbb
  have HR := Lib.hid hb
  clear hx hy hta htb hb0 hbb hb
  obtain ⟨k0, k1, k2, k3, k4⟩ := TA.out
  obtain ⟨l0, l1, l2, l3, l4⟩ := TB.out
  cases hcx : isC n xs with
  | false =>
    have HCX := Lib.hid hcx
    have HE : Hid (b = false) := by show b = false; rw [← HR.out]; unfold joinOk; rw [hcx]; rfl
    clear hcx
    go_enter Tryz.func75, Tryz.ntmps75
    go_wp2_with fail
    try rw [HBB.out]
    refine (specIsC_b n _ _ xs false HCX.out hlx _ HX.out).mono ?_
    rintro e w1 ⟨rfl, hb1⟩
    have HB1 : Hid (Below w.heap.size w w1) := HBV.out.trans (hb1.mono HBV.out.size)
    clear hb1
    go_wp2
    go_ret
    exact ⟨by rw [HE.out]; rfl, HB1.out⟩
  | true =>
    have HCX := Lib.hid hcx
    cases hcy : isC m ys with
    | false =>
      have HCY := Lib.hid hcy
      have HE : Hid (b = false) := by show b = false; rw [← HR.out]; unfold joinOk; rw [hcx, hcy]; rfl
      clear hcx hcy
      go_enter Tryz.func75, Tryz.ntmps75
      go_wp2_with fail
      try rw [HBB.out]
      refine (specIsC_b n _ _ xs true HCX.out hlx _ HX.out).mono ?_
      rintro e w1 ⟨rfl, hb1⟩
      have HB1 : Hid (Below w.heap.size w w1) := HBV.out.trans (hb1.mono HBV.out.size)
      obtain ⟨d0, d1, d2, d3, d4⟩ := TB.out.keeps hb1
      have HY1 := Lib.hid (HY.out.keeps hb1)
      clear hb1
      go_wp2_with fail
      refine (specIsC_b m _ _ ys false HCY.out hly _ HY1.out).mono ?_
      rintro e w2 ⟨rfl, hb2⟩
      have HB2 : Hid (Below w.heap.size w w2) := HB1.out.trans (hb2.mono HB1.out.size)
      clear hb2
      go_wp2
      go_ret
      exact ⟨by rw [HE.out]; rfl, HB2.out⟩
    | true =>
      have HCY := Lib.hid hcy
      have HE : Hid (b = decide (n + m ≤ 6)) := by show b = _; rw [← HR.out]; unfold joinOk; rw [hcx, hcy]; rfl
      have hn := isC_n hcx
      have hm := isC_n hcy
      clear hcx hcy
      go_enter Tryz.func75, Tryz.ntmps75
      go_wp2_with fail
      try rw [HBB.out]
      refine (specIsC_b n _ _ xs true HCX.out hlx _ HX.out).mono ?_
      rintro e w1 ⟨rfl, hb1⟩
      have HB1 : Hid (Below w.heap.size w w1) := HBV.out.trans (hb1.mono HBV.out.size)
      have TA1 := Lib.hid (TA.out.keeps hb1)
      have TB1 := Lib.hid (TB.out.keeps hb1)
      have HY1 := Lib.hid (HY.out.keeps hb1)
      obtain ⟨d0, d1, d2, d3, d4⟩ := TB.out.keeps hb1
      clear hb1
      go_wp2_with fail
      refine (specIsC_b m _ _ ys true HCY.out hly _ HY1.out).mono ?_
      rintro e w2 ⟨rfl, hb2⟩
      have HB2 : Hid (Below w.heap.size w w2) := HB1.out.trans (hb2.mono HB1.out.size)
      obtain ⟨e0, e1, e2, e3, e4⟩ := TA1.out.keeps hb2
      obtain ⟨f0, f1, f2, f3, f4⟩ := TB1.out.keeps hb2
      clear hb2
      go_wp2
      go_ret
      exact ⟨by rw [HE.out]; rfl, HB2.out⟩

/-- The sets of a join so far: i facets of the one done, k of the other one's in this row. -/
def joinL (nn : Nat) (xs ys : List Int) (i k : Nat) : List Int := pairs nn (xs.take i) ys ++ (ys.take k).map fun y => xs.getD i 0 + 2 ^ nn * y
theorem joinL_zero (nn : Nat) (xs ys : List Int) : joinL nn xs ys 0 0 = [] := rfl
theorem joinL_next (nn : Nat) (xs ys : List Int) (i k : Nat) (h : k < ys.length) : joinL nn xs ys i (k + 1) = joinL nn xs ys i k ++ [xs.getD i 0 + 2 ^ nn * ys.getD k 0] := by
  unfold joinL
  rw [List.take_add_one, List.map_append, ← List.append_assoc]
  simp [List.getD, List.getElem?_eq_getElem h]
theorem joinL_line (nn : Nat) (xs ys : List Int) (i : Nat) (h : i < xs.length) : joinL nn xs ys i ys.length = joinL nn xs ys (i + 1) 0 := by
  unfold joinL pairs
  rw [List.take_length, List.take_zero, List.map_nil, List.append_nil, List.take_add_one, List.flatMap_append]
  simp [List.getD, List.getElem?_eq_getElem h]
theorem joinL_end (nn : Nat) (xs ys : List Int) : joinL nn xs ys xs.length 0 = pairs nn xs ys := by
  unfold joinL; rw [List.take_length, List.take_zero, List.map_nil, List.append_nil]
theorem pairs_length (nn : Nat) (xs ys : List Int) : (pairs nn xs ys).length = xs.length * ys.length := by
  unfold pairs
  induction xs with
  | nil => simp
  | cons x xs ih => rw [List.flatMap_cons, List.length_append, ih, List.length_map, List.length_cons, Nat.add_mul, Nat.one_mul, Nat.add_comm]
theorem joinL_le (nn : Nat) (xs ys : List Int) (i k : Nat) (hx : xs.length ≤ 64) (hy : ys.length ≤ 64) (hi : i ≤ xs.length) : (joinL nn xs ys i k).length ≤ 4160 := by
  unfold joinL
  rw [List.length_append, pairs_length, List.length_map, List.length_take, List.length_take]
  have : min i xs.length * ys.length ≤ 64 * 64 := Nat.mul_le_mul (by omega) hy
  omega

end Go.Proofs.YtenpcjmhlnalcaaGreat

/-! WALK of chapter 6 (spec): the join of two complexes. -/

namespace Go.Proofs.YtenpcjmhlnalcaaGreat
open Go.RowKit
open Sets Join Lin Hom

theorem shl_small (t nn : Nat) (hn : nn ≤ 6) (h : 2 ^ nn * t < 64) : IntKind.i64.wrap ((t : Int) * 2 ^ min (IntKind.u64.wrap (nn : Int)).toNat 64) = ((2 ^ nn * t : Nat) : Int) := by
  have e : (IntKind.u64.wrap (nn : Int)).toNat = nn := by rw [IntKind.wrap_u64]; omega
  rw [e, Nat.min_eq_left (by omega), show (t : Int) * 2 ^ nn = ((2 ^ nn * t : Nat) : Int) by push_cast; rw [Int.mul_comm]]
  exact IntWalk.i64_in _ (by omega)
theorem partJ_no {ok : Bool} {n : Int} {q : Nat → Bool} (h : ok = false) : partO ok n q = none := by unfold partO; rw [if_neg (by rw [h]; simp)]
theorem partJ_yes {ok : Bool} {n : Int} {q : Nat → Bool} (h : ok = true) : partO ok n q = some (n, maxQ q) := by unfold partO; rw [if_pos h]
theorem isC_at3 {xs : List Int} (h : allOk xs = true) (j : Nat) (hj : j < xs.length) : ∃ s : Nat, xs.getD j 0 = (s : Int) ∧ s < 64 :=
  ok_nat h (by simp only [List.getD, List.getElem?_eq_getElem hj, Option.getD_some]; exact List.getElem_mem hj)
theorem isC_nat {n : Int} {xs : List Int} (h : isC n xs = true) : ∀ x, x ∈ xs → ∃ f : Nat, x = (f : Int) ∧ f < 2 ^ n.toNat := fun x hx => by
  have := isC_set h x hx
  unfold setB at this
  rw [decide_eq_true_eq] at this
  obtain ⟨_, _, h3, h4⟩ := this
  rw [show (2 : Int) ^ n.toNat = ((2 ^ n.toNat : Nat) : Int) by push_cast; rfl] at h4
  exact ⟨x.toNat, by omega, by omega⟩
theorem joinOk_iff (n m : Int) (xs ys : List Int) : joinOk n m xs ys = true ↔ isC n xs = true ∧ isC m ys = true ∧ n + m ≤ 6 := by
  unfold joinOk; rw [Bool.and_eq_true, Bool.and_eq_true, decide_eq_true_eq]; exact and_assoc
theorem pairs_ok {n m : Int} {xs ys : List Int} (h : joinOk n m xs ys = true) : allOk (pairs n.toNat xs ys) = true := by
  obtain ⟨hx, hy, hnm⟩ := (joinOk_iff n m xs ys).1 h
  have hn := isC_n hx
  have hm := isC_n hy
  unfold allOk
  rw [List.all_eq_true]
  intro z hz
  unfold pairs at hz
  obtain ⟨x, hx', hz⟩ := List.mem_flatMap.1 hz
  obtain ⟨y, hy', rfl⟩ := List.mem_map.1 hz
  obtain ⟨f, rfl, hf⟩ := isC_nat hx x hx'
  obtain ⟨g, rfl, hg⟩ := isC_nat hy y hy'
  have h1 : 2 ^ n.toNat * (g + 1) ≤ 2 ^ n.toNat * 2 ^ m.toNat := Nat.mul_le_mul_left _ (by omega)
  rw [← Nat.pow_add, Nat.mul_add] at h1
  have h2 := Nat.pow_le_pow_right (n := 2) (by decide) (show n.toNat + m.toNat ≤ 6 by omega)
  rw [show (f : Int) + 2 ^ n.toNat * (g : Int) = ((f + 2 ^ n.toNat * g : Nat) : Int) by push_cast; rfl, okZ_nat]
  omega
theorem pairs_max {n m : Int} {xs ys : List Int} (h : joinOk n m xs ys = true) : maximal (pairs n.toNat xs ys) = maxQ (joinQ n.toNat (inF xs) (inF ys)) := by
  obtain ⟨hx, hy, hnm⟩ := (joinOk_iff n m xs ys).1 h
  rw [maximal_maxQ _ (pairs_ok h)]
  exact maxQ_congr fun s _ => inF_pairs (isC_nat hx) (fun y hy' => by obtain ⟨g, e, _⟩ := isC_nat hy y hy'; exact ⟨g, e⟩) s

set_option maxRecDepth 100000 in
set_option maxHeartbeats 4000000 in
theorem specJoin_any (n m : Int) (pa pb : Option Addr) (ca cb : Nat) (xs ys : List Int) (hlx : xs.length ≤ 1099511627776) (hly : ys.length ≤ 1099511627776) (w : World) (hx : Ints w pa xs) (hy : Ints w pb ys) :
    Calls Tryz.prog 50 #[cx n (.slice pa xs.length ca), cx m (.slice pb ys.length cb)] w fun e w' => ∃ v, e = .returned (.tuple #[cx (oN (joinO n m xs ys)) v, .bool (joinO n m xs ys).isSome]) ∧ OwnInts w' w.heap.size v (oL (joinO n m xs ys)) ∧ Below w.heap.size w w' := by
  obtain ⟨i0, hi, hz0, hz1, hz2⟩ := info_parts info_int
  have hb0 : Below w.heap.size w (((w.alloc (.cells #[.int .i64 n, .slice pa xs.length ca] 26)).alloc (.cells #[.int .i64 m, .slice pb ys.length cb] 26)).alloc (.cells #[.int .i64 0, .slice none 0 0] 26)) := (((Below.refl _ _).alloc (Nat.le_refl _) _).alloc (by simp) _).alloc (by simp; omega) _
  have hta := ((Two.new w (.int .i64 n) (.slice pa xs.length ca) 26).alloc (.cells #[.int .i64 m, .slice pb ys.length cb] 26)).alloc (.cells #[.int .i64 0, .slice none 0 0] 26)
  have htb := (Two.new (w.alloc (.cells #[.int .i64 n, .slice pa xs.length ca] 26)) (.int .i64 m) (.slice pb ys.length cb) 26).alloc (.cells #[.int .i64 0, .slice none 0 0] 26)
  have htr := Two.new ((w.alloc (.cells #[.int .i64 n, .slice pa xs.length ca] 26)).alloc (.cells #[.int .i64 m, .slice pb ys.length cb] 26)) (.int .i64 0) (.slice none 0 0) 26
  simp only [World.size_alloc] at htb htr
  have hX := hx.keeps hb0
  have hY := hy.keeps hb0
  obtain ⟨bb, hbb⟩ : ∃ bb, w.heap.size + 1 = bb := ⟨_, rfl⟩
  obtain ⟨br, hbr⟩ : ∃ br, bb + 1 = br := ⟨_, rfl⟩
  rw [hbb] at htb htr
  rw [hbr] at htr
  have hwb : w.heap.size < bb := by omega
  have hwr : bb < br := by omega
  have TA := Lib.hid hta
  have TB := Lib.hid htb
  have TR := Lib.hid htr
  have HX := Lib.hid hX
  have HY := Lib.hid hY
  have HBV := Lib.hid hb0
  have HBB := Lib.hid hbb
  have HBR := Lib.hid hbr
  obtain ⟨k0, k1, k2, k3, k4⟩ := hta
  obtain ⟨l0, l1, l2, l3, l4⟩ := htb
  clear hx hy htr hX hY hb0 hbb hbr
  cases hok : joinOk n m xs ys with
  | false =>
    have HOK := Lib.hid hok
    rw [show joinO n m xs ys = none from partJ_no hok]
    clear hok
    go_enter Tryz.func50, Tryz.ntmps50
    go_wp2_with fail
    try rw [HBB.out]
    try rw [HBR.out]
    refine (l6Fit_b n m _ _ _ _ xs ys hlx hly false HOK.out _ HX.out HY.out).mono ?_
    rintro e w1 ⟨rfl, hb1⟩
    obtain ⟨r0, r1, r2, r3, r4⟩ := TR.out.keeps hb1
    have HB1 : Hid (Below w.heap.size w w1) := HBV.out.trans (hb1.mono HBV.out.size)
    clear hb1
    go_wp2
    refine ret_cx2 br rfl rfl rfl (x := .int .i64 0) (y := .slice none 0 0) (by go_simp) (by go_simp) rfl ?_
    exact ⟨_, rfl, OwnInts.nil _ _, by first | exact (HB1.out.setCell (by dsimp only; omega) _).setCell (by dsimp only; omega) _ | exact HB1.out⟩
  | true =>
    have HOK := Lib.hid hok
    rw [show joinO n m xs ys = some (n + m, maxQ (joinQ n.toNat (inF xs) (inF ys))) from partJ_yes hok]
    obtain ⟨hcx, hcy, hnm⟩ := (joinOk_iff n m xs ys).1 hok
    have hn := isC_n hcx
    have hm := isC_n hcy
    have HCX := Lib.hid hcx
    have HCY := Lib.hid hcy
    have hxl := isC_le hcx
    have hyl := isC_le hcy
    have HPO := Lib.hid (pairs_ok hok)
    have HPM := Lib.hid (pairs_max hok)
    have HNX := Lib.hid (isC_nat hcx)
    have HNY := Lib.hid (isC_nat hcy)
    have hprod : xs.length * ys.length ≤ 64 * 64 := Nat.mul_le_mul hxl hyl
    obtain ⟨nn, hnn⟩ : ∃ nn : Nat, (nn : Int) = n := ⟨n.toNat, by omega⟩
    subst hnn
    rw [show ((nn : Int)).toNat = nn from rfl] at HPO HPM HNX ⊢
    have hn6 : nn ≤ 5 := by omega
    clear hok hcx hcy
    go_enter Tryz.func50, Tryz.ntmps50
    go_wp2_with fail
    try rw [HBB.out]
    try rw [HBR.out]
    refine (l6Fit_b (nn : Int) m _ _ _ _ xs ys hlx hly true HOK.out _ HX.out HY.out).mono ?_
    rintro e w1 ⟨rfl, hb1⟩
    obtain ⟨V, rfl⟩ : ∃ V : World, V = w1 := ⟨_, rfl⟩
    have TA2 := Lib.hid (TA.out.keeps hb1)
    have TB2 := Lib.hid (TB.out.keeps hb1)
    have TR2 := Lib.hid (TR.out.keeps hb1)
    have HX2 := Lib.hid (HX.out.keeps hb1)
    have HY2 := Lib.hid (HY.out.keeps hb1)
    have HBV2 : Hid (Below w.heap.size w V) := HBV.out.trans (hb1.mono HBV.out.size)
    have hvs := HBV2.out.size
    have hbv := TR2.out.1
    clear hb1 k0 k1 k2 k3 k4 l0 l1 l2 l3 l4 TA TB TR HX HY HBV
    obtain ⟨e0, e1, e2, e3, e4⟩ := TA2.out
    obtain ⟨f0, f1, f2, f3, f4⟩ := TB2.out
    go_wp2
    go_loopw [6, 7] (fun v i wr => ∃ i1 : Nat, i1 ≤ xs.length ∧ i = .int .i64 (i1 : Int) ∧ OwnInts wr V.heap.size v (joinL nn xs ys i1 0) ∧ Below V.heap.size V wr) (fun _ i _ => xs.length - (intOf i).toNat)
    case atStart => exact ⟨0, Nat.zero_le _, rfl, OwnInts.lit V V.heap.size [] (Nat.le_refl _) (by simp), (Below.refl _ _).alloc (Nat.le_refl _) _⟩
    case round =>
      clear e0 e1 e2 e3 e4 f0 f1 f2 f3 f4
      obtain ⟨i1, hi1, rfl, hO, hB⟩ := hrel
      have HO := Lib.hid hO
      have HBO := Lib.hid hB
      have hszo := hB.size
      obtain ⟨wo, rfl⟩ : ∃ wo : World, wo = wr := ⟨_, rfl⟩
      clear hO
      obtain ⟨e0, e1, e2, e3, e4⟩ := TA2.out.keeps hB
      by_cases hlt : i1 < xs.length
      · obtain ⟨f, hf, hf64⟩ : ∃ f : Nat, xs.getD i1 0 = (f : Int) ∧ f < 2 ^ nn := HNX.out _ (by simp only [List.getD, List.getElem?_eq_getElem hlt, Option.getD_some]; exact List.getElem_mem hlt)
        have HF := Lib.hid hf
        have hlti : decide ((i1 : Int) < (xs.length : Int)) = true := by simpa using hlt
        clear hf hB
        go_wp2
        go_loopw [6, 8] (fun v i wr => ∃ k : Nat, k ≤ ys.length ∧ i = .int .i64 (k : Int) ∧ OwnInts wr V.heap.size v (joinL nn xs ys i1 k) ∧ Below V.heap.size V wr) (fun _ i _ => ys.length - (intOf i).toNat)
        case atStart => exact ⟨0, Nat.zero_le _, rfl, HO.out, HBO.out⟩
        case round =>
          clear HO e0 e1 e2 e3 e4
          obtain ⟨k, hk, rfl, hO, hB⟩ := hrel
          have HO := Lib.hid hO
          unfold OwnInts at HO
          have hsz := hB.size
          have hl := joinL_le nn xs ys i1 k hxl hyl hi1
          clear hO
          obtain ⟨e0, e1, e2, e3, e4⟩ := TA2.out.keeps hB
          obtain ⟨f0, f1, f2, f3, f4⟩ := TB2.out.keeps hB
          by_cases hlk : k < ys.length
          · obtain ⟨b0, o0, hae, g0⟩ := (HX2.out.keeps hB) i1 hlt
            obtain ⟨b1, o1, hbe, g1⟩ := (HY2.out.keeps hB) k hlk
            have hbx : b0 < V.heap.size := by
              obtain ⟨_, _, hq1, hq2⟩ := HX2.out i1 hlt
              rw [hae] at hq1
              cases hq1
              exact World.block_lt_of_cell? V _ hq2
            have hby : b1 < V.heap.size := by
              obtain ⟨_, _, hq3, hq4⟩ := HY2.out k hlk
              rw [hbe] at hq3
              cases hq3
              exact World.block_lt_of_cell? V _ hq4
            obtain ⟨t, ht, ht64⟩ : ∃ f : Nat, ys.getD k 0 = (f : Int) ∧ f < 2 ^ m.toNat := HNY.out _ (by simp only [List.getD, List.getElem?_eq_getElem hlk, Option.getD_some]; exact List.getElem_mem hlk)
            rw [HF.out] at g0
            rw [ht] at g1
            have HN := Lib.hid ((joinL_next nn xs ys i1 k hlk).trans (by rw [HF.out, ht] : _ = joinL nn xs ys i1 k ++ [(f : Int) + 2 ^ nn * (t : Int)]))
            subst hae hbe
            have hft : f + 2 ^ nn * t < 64 := by
              have h1 : 2 ^ nn * (t + 1) ≤ 2 ^ nn * 2 ^ m.toNat := Nat.mul_le_mul_left _ (by omega)
              rw [← Nat.pow_add, Nat.mul_add] at h1
              have h2 := Nat.pow_le_pow_right (n := 2) (by decide) (show nn + m.toNat ≤ 6 by omega)
              omega
            have HZ : Hid (IntKind.i64.wrap ((f : Int) + IntKind.i64.wrap ((t : Int) * 2 ^ min (IntKind.u64.wrap (nn : Int)).toNat 64)) = (f : Int) + 2 ^ nn * (t : Int)) := by
              show _ = _
              rw [shl_small t nn (by omega) (by omega), IntWalk.i64_in _ (by omega)]; push_cast; rfl
            clear ht
            go_wp2_with fail
            have hno : ∀ g, g < V.heap.size → u6.ownBlock ≠ some g := fun g hg e => absurd (HO.out.lt g e).1 (by omega)
            have hn0 := hno _ (show w.heap.size < V.heap.size by omega)
            have hn1 := hno _ (show bb < V.heap.size by omega)
            have hn2 := hno _ hbx
            have hn3 := hno _ hby
            clear hno
            go_region_held3 (fun w' => w'.cell? ⟨w.heap.size, 0, none⟩ = some (.int .i64 (nn : Int)) ∧ w'.cell? ⟨w.heap.size, 1, none⟩ = some (.slice (some ⟨b0, o0, none⟩) xs.length ca) ∧ w'.cell? ⟨bb, 1, none⟩ = some (.slice (some ⟨b1, o1, none⟩) ys.length cb) ∧ w'.cell? ⟨b0, o0 + i1, none⟩ = some (.int .i64 (f : Int)) ∧ w'.cell? ⟨b1, o1 + k, none⟩ = some (.int .i64 (t : Int)))
              (first | go_keep | (go_split_ands; refine ⟨?_, ?_, ?_, ?_, ?_⟩ <;> (first | (rw [hgrow.cell_far _ (by simp; omega) (Ne.symm hn0)]; assumption) | (rw [hgrow.cell_far _ (by simp; omega) (Ne.symm hn1)]; assumption) | (rw [hgrow.cell_far _ (by simp; omega) (Ne.symm hn2)]; assumption) | (rw [hgrow.cell_far _ (by simp; omega) (Ne.symm hn3)]; assumption))))
              ((refine step_append_lies _ (by rfl) _ _ _ (by rfl) V.heap.size 3 i0 (.int .i64 0) 1 8 Tryz.underlying24 hi hz0 hz1 hz2 rfl (by omega) u6 (joinL nn xs ys i1 k).length (List.map (Value.int IntKind.i64) (joinL nn xs ys i1 k)) (by rfl) ((HO.out.alloc _).drew) ⟨wr.heap.size, 0, none⟩ 1 1 [.int .i64 (IntKind.i64.wrap ((f : Int) + IntKind.i64.wrap ((t : Int) * 2 ^ min (IntKind.u64.wrap (nn : Int)).toNat 64)))] (by rfl) (by rfl) (World.news_of_block (cs := #[.int .i64 (IntKind.i64.wrap ((f : Int) + IntKind.i64.wrap ((t : Int) * 2 ^ min (IntKind.u64.wrap (nn : Int)).toNat 64)))]) (t := 3) (fr := (0, 0)) (heap_alloc_new wr _)) (by simp [Value.oneCell']) (by omega) (by unfold maxLen; omega) (by omega) (by simp; omega) (wr.heap.size + 1) (by simp) ?_; intro gg cap w1 hown1 hgrow hat hlt))
            have hB5 : Below V.heap.size V w1 := ((hB.alloc hsz _).drew).grown hgrow (by simp; omega) (fun g hg => (HO.out.lt g hg).1)
            rw [HZ.out] at hown1
            have H1 := Lib.hid hown1
            clear hown1 hgrow
            go_wp2
            go_roundw
            case rel => exact ⟨k + 1, by omega, by go_num, by rw [HN.out]; exact OwnInts.next H1.out, hB5⟩
            case measure => simp [intOf]; omega
          · have E := Lib.hid (show k = ys.length by omega)
            have HL := Lib.hid (joinL_line nn xs ys i1 hlt)
            go_wp2
            go_roundw
            case rel =>
              have h2 := HO.out
              rw [E.out] at h2
              exact ⟨i1 + 1, by omega, by go_num, by rw [← HL.out]; exact h2, hB⟩
            case measure => simp [intOf]; omega
      · have E := Lib.hid (show i1 = xs.length by omega)
        have HO2 : Hid (OwnInts wo V.heap.size u6 (pairs nn xs ys)) := Lib.hid (by have h := HO.out; rw [E.out, joinL_end] at h; exact h)
        clear HO e0 e1 e2 e3 e4
        obtain ⟨a1, c1, g1x, rfl, hg1x, hr1⟩ := OwnInts.at HO2.out
        have R1 := Lib.hid hr1
        have R0 := Lib.hid (TR2.out.keeps hB)
        obtain ⟨e0, e1, e2, e3, e4⟩ := TA2.out.keeps hB
        obtain ⟨f0, f1, f2, f3, f4⟩ := TB2.out.keeps hB
        have HBO2 := Lib.hid hB
        clear hr1 HO2 hB
        go_wp2_with fail
        refine (l3Make_any ((nn : Int) + m) _ _ (pairs nn xs ys) HPO.out (by rw [pairs_length]; omega) _ R1.out.ints).mono ?_
        rw [HPM.out]
        rintro e w6 ⟨v, rfl, hO2, hb6⟩
        obtain ⟨a2, c2x, g2, rfl, hc2, hg2, hr2, _⟩ := OwnInts.ata hO2 hb6.size
        obtain ⟨r0, r1, r2, r3, r4⟩ := R0.out.keeps hb6
        have HO2 := Lib.hid (OwnInts.lower hO2 hszo)
        have HB6 : Hid (Below w.heap.size w w6) := HBV2.out.trans ((HBO2.out.trans (hb6.mono hszo)).mono hvs)
        clear hO2 hr2 hb6
        go_wp2
        refine ret_cx2 br rfl rfl rfl (x := .int .i64 ((nn : Int) + m)) (y := .slice a2 (maxQ (joinQ nn (inF xs) (inF ys))).length c2x) (by go_simp) (by go_simp) rfl ?_
        exact ⟨_, rfl, (OwnInts.set (OwnInts.set HO2.out _ _ _ (by omega)) _ _ _ (by omega)).lower (by omega), (HB6.out.setCell (by dsimp only; omega) _).setCell (by dsimp only; omega) _⟩

end Go.Proofs.YtenpcjmhlnalcaaGreat
