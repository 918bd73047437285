/-
  THE WALK of the law on holes (written by genholelaw.py).
-/
import Derived.Test.YtenpcjmhlnalcaaGreatJg21
import Derived.Test.YtenpcjmhlnalcaaGreatWHoR8
import Derived.Test.YtenpcjmhlnalcaaGreatWHoR10
import Derived.Test.YtenpcjmhlnalcaaGreatWHoR19
import Derived.Test.YtenpcjmhlnalcaaGreatWHoR21
import Derived.Deep.DeepCutAuto
namespace Go.Proofs.YtenpcjmhlnalcaaGreat
open Go.RowKit
open Sets Lin Join Hom

set_option maxRecDepth 1000000 in
set_option maxHeartbeats 16000000 in
theorem ho_walk (a : Option Addr) (n c : Nat) (hn : n ≤ 9223372036854775807) (w : World) (hc : Code w a n) :
    Calls Tryz.prog 3 #[.slice a n c] w fun e w' => e = .returned (.bool true) ∧ Below w.heap.size w w' := by
  have HC := Lib.hid hc
  clear hc
  by_cases hbig : 1048576 < (n : Int)
  · go_enter Tryz.func3, Tryz.ntmps3
    go_wp2
    go_ret
    exact ⟨rfl, Below.refl _ _⟩
  go_enter Tryz.func3, Tryz.ntmps3
  go_wp2_with (go_at_call 4; go_in)
  refine (drawHolesM_any a n c (by omega) _ HC.out).mono ?_
  rintro e w1 ⟨n3, v, x3, p1, rfl, hx3, hO, hb⟩
  obtain ⟨a3, c3, g3, rfl, s3, -, hr0, _⟩ := OwnInts.ata hO hb.size
  have hr := hr0.ints
  obtain ⟨l3, hl3⟩ : ∃ l, x3.length = l := ⟨_, rfl⟩
  have HL3 := Lib.hid hl3
  rw [hl3] at hx3 s3 ⊢
  have hba : Below w1.heap.size w1 (w1.alloc (.cells #[.int .i64 n3, .slice a3 l3 c3] 26)) := (Below.refl _ _).alloc (Nat.le_refl _) _
  have HBW : Hid (Below w.heap.size w (w1.alloc (.cells #[.int .i64 n3, .slice a3 l3 c3] 26))) := hb.trans (hba.mono hb.size)
  have I3 := Lib.hid (hr.keeps hba)
  have T3 := Lib.hid (Two.new w1 (.int .i64 n3) (.slice a3 l3 c3) 26)
  clear hO hr0 hr hb hba hl3
  obtain ⟨L, hL⟩ : ∃ z, holZ n3 x3 p1 = z := ⟨_, rfl⟩
  obtain ⟨l5, hl5⟩ : ∃ l, L.length = l := ⟨_, rfl⟩
  have q5 : l5 ≤ 7 := by rw [← hl5, ← hL]; exact holZ_le _ _ _
  have HL := Lib.hid hL
  have HL5 := Lib.hid hl5
  have GH := Lib.hid (fun w h => hoIH n3 a3 c3 l3 x3 HL3.out s3 (by omega) p1 L hL l5 hl5 w h)
  have hsm := holZ_small n3 x3 p1
  rw [hL, hl5] at hsm
  have HSM := Lib.hid hsm
  have hlw := hol_law (n := n3) (xs := x3) (p := p1)
  rw [hL] at hlw
  obtain ⟨zq, hzq⟩ : ∃ z, partsZ n3 x3 = z := ⟨_, rfl⟩
  obtain ⟨ze, hze⟩ : ∃ z, eul (faces n3 x3) = z := ⟨_, rfl⟩
  rw [hzq, hze] at hlw
  have HLW := Lib.hid hlw
  have HZQ := Lib.hid hzq
  have HZE := Lib.hid hze
  clear hL hl5 hsm hlw hzq hze
  obtain ⟨t0, t1, t2, -, -⟩ := T3.out
  go_wp2_with fail
  refine (GH.out _ I3.out).mono ?_
  rintro e w2 ⟨a5, c5, g5, rfl, hr, hb⟩
  replace T3 := Lib.hid (Two.keeps T3.out hb)
  replace I3 := Lib.hid (I3.out.keeps hb)
  replace HBW := Lib.hid (HBW.out.trans (hb.mono HBW.out.size))
  have R5 := Lib.hid hr
  clear hr hb t0 t1 t2 GH
  go_wp2_with fail
  refine (drawNone_any a n c (by omega) _ (HC.out.keeps HBW.out)).mono ?_
  rintro e w3 ⟨n6, v, x6, p2, rfl, hx6, hO, hb⟩
  obtain ⟨a6, c6, g6, rfl, s6, -, hr0, _⟩ := OwnInts.ata hO hb.size
  have hr := hr0.ints
  obtain ⟨l6, hl6⟩ : ∃ l, x6.length = l := ⟨_, rfl⟩
  have HL6 := Lib.hid hl6
  rw [hl6] at hx6 s6 ⊢
  have hba : Below w3.heap.size w3 (w3.alloc (.cells #[.int .i64 n6, .slice a6 l6 c6] 26)) := (Below.refl _ _).alloc (Nat.le_refl _) _
  replace T3 := Lib.hid (Two.keeps T3.out hb)
  replace I3 := Lib.hid (I3.out.keeps hb)
  replace R5 := Lib.hid (R5.out.keeps hb)
  replace T3 := Lib.hid (Two.keeps T3.out hba)
  replace I3 := Lib.hid (I3.out.keeps hba)
  replace R5 := Lib.hid (R5.out.keeps hba)
  replace HBW : Hid (Below w.heap.size w (w3.alloc (.cells #[.int .i64 n6, .slice a6 l6 c6] 26))) := (HBW.out.trans (hb.mono HBW.out.size)).trans (hba.mono (Nat.le_trans HBW.out.size hb.size))
  have I6 := Lib.hid (hr.keeps hba)
  have T6 := Lib.hid (Two.new w3 (.int .i64 n6) (.slice a6 l6 c6) 26)
  clear hO hr0 hr hb hba hl6
  go_wp2_with fail
  refine (drawSphere_any a n c (by omega) _ (HC.out.keeps HBW.out)).mono ?_
  rintro e w4 ⟨n8, v, x8, p3, rfl, hx8, hO, hb⟩
  obtain ⟨a8, c8, g8, rfl, s8, -, hr0, _⟩ := OwnInts.ata hO hb.size
  have hr := hr0.ints
  obtain ⟨l8, hl8⟩ : ∃ l, x8.length = l := ⟨_, rfl⟩
  have HL8 := Lib.hid hl8
  rw [hl8] at hx8 s8 ⊢
  have hba : Below w4.heap.size w4 (w4.alloc (.cells #[.int .i64 n8, .slice a8 l8 c8] 26)) := (Below.refl _ _).alloc (Nat.le_refl _) _
  replace T3 := Lib.hid (Two.keeps T3.out hb)
  replace I3 := Lib.hid (I3.out.keeps hb)
  replace R5 := Lib.hid (R5.out.keeps hb)
  replace T6 := Lib.hid (Two.keeps T6.out hb)
  replace I6 := Lib.hid (I6.out.keeps hb)
  replace T3 := Lib.hid (Two.keeps T3.out hba)
  replace I3 := Lib.hid (I3.out.keeps hba)
  replace R5 := Lib.hid (R5.out.keeps hba)
  replace T6 := Lib.hid (Two.keeps T6.out hba)
  replace I6 := Lib.hid (I6.out.keeps hba)
  replace HBW : Hid (Below w.heap.size w (w4.alloc (.cells #[.int .i64 n8, .slice a8 l8 c8] 26))) := (HBW.out.trans (hb.mono HBW.out.size)).trans (hba.mono (Nat.le_trans HBW.out.size hb.size))
  have I8 := Lib.hid (hr.keeps hba)
  have T8 := Lib.hid (Two.new w4 (.int .i64 n8) (.slice a8 l8 c8) 26)
  clear hO hr0 hr hb hba hl8
  go_wp2_with fail
  refine (drawParts_any a n c (by omega) _ (HC.out.keeps HBW.out)).mono ?_
  rintro e w5 ⟨n10, v, x10, rfl, hx10, hO, hb⟩
  obtain ⟨a10, c10, g10, rfl, s10, -, hr0, _⟩ := OwnInts.ata hO hb.size
  have hr := hr0.ints
  obtain ⟨l10, hl10⟩ : ∃ l, x10.length = l := ⟨_, rfl⟩
  have HL10 := Lib.hid hl10
  rw [hl10] at hx10 s10 ⊢
  have hba : Below w5.heap.size w5 (w5.alloc (.cells #[.int .i64 n10, .slice a10 l10 c10] 26)) := (Below.refl _ _).alloc (Nat.le_refl _) _
  replace T3 := Lib.hid (Two.keeps T3.out hb)
  replace I3 := Lib.hid (I3.out.keeps hb)
  replace R5 := Lib.hid (R5.out.keeps hb)
  replace T6 := Lib.hid (Two.keeps T6.out hb)
  replace I6 := Lib.hid (I6.out.keeps hb)
  replace T8 := Lib.hid (Two.keeps T8.out hb)
  replace I8 := Lib.hid (I8.out.keeps hb)
  replace T3 := Lib.hid (Two.keeps T3.out hba)
  replace I3 := Lib.hid (I3.out.keeps hba)
  replace R5 := Lib.hid (R5.out.keeps hba)
  replace T6 := Lib.hid (Two.keeps T6.out hba)
  replace I6 := Lib.hid (I6.out.keeps hba)
  replace T8 := Lib.hid (Two.keeps T8.out hba)
  replace I8 := Lib.hid (I8.out.keeps hba)
  replace HBW : Hid (Below w.heap.size w (w5.alloc (.cells #[.int .i64 n10, .slice a10 l10 c10] 26))) := (HBW.out.trans (hb.mono HBW.out.size)).trans (hba.mono (Nat.le_trans HBW.out.size hb.size))
  have I10 := Lib.hid (hr.keeps hba)
  have T10 := Lib.hid (Two.new w5 (.int .i64 n10) (.slice a10 l10 c10) 26)
  clear hO hr0 hr hb hba hl10
  go_upto_region 8 with fail
  refine ho_r8 T3.out I3.out HL3.out (by omega) s3 T6.out I6.out HL6.out (by omega) s6 T8.out I8.out HL8.out (by omega) s8 T10.out I10.out HL10.out (by omega) s10 R5.out.ints HL5.out q5 HL.out ?_
  intro v34 v35 v36 v37 v38 v39 v40 v41 v42 v43 v44 v45 v46 v47 v48 v49 v50 v51 v52 v53 v54 v55 v56 v57 v58 v59 v60 v61 v62 v63 v64 v65 v66 v67 v68 v69 v70 v71 w6 hb
  replace T3 := Lib.hid (Two.keeps T3.out hb)
  replace I3 := Lib.hid (I3.out.keeps hb)
  replace R5 := Lib.hid (R5.out.keeps hb)
  replace T6 := Lib.hid (Two.keeps T6.out hb)
  replace I6 := Lib.hid (I6.out.keeps hb)
  replace T8 := Lib.hid (Two.keeps T8.out hb)
  replace I8 := Lib.hid (I8.out.keeps hb)
  replace T10 := Lib.hid (Two.keeps T10.out hb)
  replace I10 := Lib.hid (I10.out.keeps hb)
  replace HBW := Lib.hid (HBW.out.trans (hb.mono HBW.out.size))
  clear hb
  clear T8 I8 T10 I10 HL8 HL10 s8 s10 hx8 hx10
  go_upto_region 10 with fail
  refine ho_r10 T6.out I6.out HL6.out (by omega) s6 ?_
  intro v73 v74 v75 v76 v77 v78 v79 v80 v81 v82 v83 v84 w7 hb
  replace T3 := Lib.hid (Two.keeps T3.out hb)
  replace I3 := Lib.hid (I3.out.keeps hb)
  replace R5 := Lib.hid (R5.out.keeps hb)
  replace T6 := Lib.hid (Two.keeps T6.out hb)
  replace I6 := Lib.hid (I6.out.keeps hb)
  replace HBW := Lib.hid (HBW.out.trans (hb.mono HBW.out.size))
  clear hb
  clear T6 I6 HL6 s6 hx6
  by_cases h0 : l5 = 0
  · have hz : ((l5 : Int) == 0) = true := by subst h0; rfl
    have hzt : tot (holZ n3 x3 p1) = 0 := by rw [HL.out, List.eq_nil_of_length_eq_zero (HL5.out.trans h0)]; rfl
    have GC := Lib.hid (fun w h => hoCI n3 a3 c3 l3 x3 HL3.out s3 (by omega) p1 0 hzt w h)
    clear hzt
    obtain ⟨t0, t1, t2, -, -⟩ := T3.out
    go_wp2_with fail
    refine (GC.out _ I3.out).mono ?_
    rintro e wT ⟨rfl, hb⟩
    replace HBW := Lib.hid (HBW.out.trans (hb.mono HBW.out.size))
    clear hb t0 t1 t2
    go_wp2
    go_ret
    exact ⟨rfl, HBW.out⟩
  · have hz : ((l5 : Int) == 0) = false := by rw [beq_eq_false_iff_ne]; omega
    obtain ⟨e1, e2, e3⟩ := HLW.out (by rw [HL5.out]; omega)
    rw [HL5.out] at e2 e3
    obtain ⟨ea, hg5, hk0, -⟩ := R5.out 0 (by rw [HL5.out]; omega)
    have E1 := Lib.hid e1
    have E2 := Lib.hid e2
    have E3 := Lib.hid e3
    clear e1 e2 e3 hk0
    subst ea
    go_wp2
    go_loop [11] (fun i => ∃ k : Nat, k ≤ l5 ∧ i = .int .i64 (k : Int)) (fun i => l5 - (intOf i).toNat)
    case atStart => exact ⟨0, Nat.zero_le _, rfl⟩
    case round =>
      obtain ⟨k, hk, rfl⟩ := hrel
      by_cases hlt : k < l5
      · have hd : decide ((k : Int) < (l5 : Int)) = true := decide_eq_true (by omega)
        obtain ⟨_, _, hck, _⟩ := R5.out k (by rw [HL5.out]; exact hlt)
        have hx0 := (HSM.out k hlt).1
        obtain ⟨x, hx⟩ : ∃ x, L.getD k 0 = x := ⟨_, rfl⟩
        rw [hx] at hck hx0
        have hxd : decide (x < 0) = false := decide_eq_false (by omega)
        clear hx
        go_wp2
        go_round
        case rel => exact ⟨k + 1, by omega, by go_num⟩
        case measure => simp [intOf]; omega
      have hd : decide ((k : Int) < (l5 : Int)) = false := decide_eq_false (by omega)
      obtain ⟨t0, t1, t2, -, -⟩ := T3.out
      obtain ⟨_, _, hk0, _⟩ := R5.out 0 (by rw [HL5.out]; omega)
      by_cases h1 : 1 < l5
      · obtain ⟨f1, f2⟩ := E2.out h1
        obtain ⟨_, _, hk1, _⟩ := R5.out 1 (by rw [HL5.out]; omega)
        rw [f1] at hk0
        rw [f2] at hk1
        clear f1 f2
        go_upto_region 19 with fail
        refine ho_r19m T3.out I3.out HL3.out (by omega) s3 h1 q5 rfl hg5 hk0 hk1 HZQ.out ?_
        intro v104 v105 v106 v107 v108 v109 v110 v111 v112 v113 v114 v115 v116 v117 v118 v119 v120 wA hb
        replace T3 := Lib.hid (Two.keeps T3.out hb)
        replace I3 := Lib.hid (I3.out.keeps hb)
        replace R5 := Lib.hid (R5.out.keeps hb)
        replace HBW := Lib.hid (HBW.out.trans (hb.mono HBW.out.size))
        have hg5 := Nat.lt_of_lt_of_le hg5 hb.size
        clear hb t0 t1 t2 hk0 hk1
        go_upto_region 21 with fail
        refine ho_r21m T3.out I3.out HL3.out (by omega) s3 R5.out.ints HL5.out q5 HSM.out E1.out HZE.out h1 ?_
        intro v122 v123 v124 v125 v126 v127 v128 v129 v130 v131 v132 v133 v134 v135 v136 wB hb
        replace HBW := Lib.hid (HBW.out.trans (hb.mono HBW.out.size))
        clear hb
        go_wp2
        go_ret
        exact ⟨rfl, HBW.out⟩
      · clear hk0
        have hk0 := h1
        go_upto_region 19 with fail
        refine ho_r19o h1 ?_
        intro v104 v105 v106 v107 v108 v109 v110 v111 v112 v113 v114 v115 v116 v117 v118 v119 v120 wA hb
        replace T3 := Lib.hid (Two.keeps T3.out hb)
        replace I3 := Lib.hid (I3.out.keeps hb)
        replace R5 := Lib.hid (R5.out.keeps hb)
        replace HBW := Lib.hid (HBW.out.trans (hb.mono HBW.out.size))
        have hg5 := Nat.lt_of_lt_of_le hg5 hb.size
        clear hb t0 t1 t2 hk0
        go_upto_region 21 with fail
        obtain ⟨_, _, hk0, _⟩ := R5.out 0 (by rw [HL5.out]; omega)
        rw [E3.out (by omega)] at hk0
        refine ho_r21o T3.out I3.out HL3.out (by omega) s3 R5.out.ints HL5.out q5 HSM.out E1.out HZE.out (by omega) rfl hg5 hk0 ?_
        intro v122 v123 v124 v125 v126 v127 v128 v129 v130 v131 v132 v133 v134 v135 v136 wB hb
        replace HBW := Lib.hid (HBW.out.trans (hb.mono HBW.out.size))
        clear hb
        go_wp2
        go_ret
        exact ⟨rfl, HBW.out⟩

end Go.Proofs.YtenpcjmhlnalcaaGreat
