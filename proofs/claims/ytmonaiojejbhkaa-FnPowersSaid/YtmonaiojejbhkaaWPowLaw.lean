/-
  THE WALK of the law on counts of monomials (written by genpowlaw.py).
-/
import Derived.Test.YtmonaiojejbhkaaWPowH
import Derived.Deep.DeepCutAuto
namespace Go.Proofs.Ytmonaiojejbhkaa
open Go.RowKit
open Sets Hn Kk Sh Mon

set_option maxRecDepth 1000000 in
set_option maxHeartbeats 16000000 in
theorem pow_walk (a : Option Addr) (n c : Nat) (hn : n ≤ 9223372036854775807) (w : World) (hc : Code w a n) :
    Calls Try.prog 3 #[.slice a n c] w fun e w' => e = .returned (.bool true) ∧ Below w.heap.size w w' := by
  have HC := Lib.hid hc
  clear hc
  by_cases hbig : 1048576 < (n : Int)
  · go_enter Try.func3, Try.ntmps3
    go_wp2
    go_ret
    exact ⟨rfl, Below.refl _ _⟩
  go_enter Try.func3, Try.ntmps3
  go_wp2_with (go_at_call 9; go_in)
  refine (drawPower_any a n c (by omega) _ HC.out).mono ?_
  rintro e w1 ⟨z3, z4, rfl, hb⟩
  have HBW := Lib.hid hb
  clear hb
  go_wp2_with fail
  refine (drawAMC_any a n c (by omega) _ (HC.out.keeps HBW.out)).mono ?_
  rintro e w2 ⟨v, x5, rfl, hx5, hO, hb⟩
  obtain ⟨a5, c5, rfl, hc5, hz5, hr⟩ := OwnInts.atn hO hb.size
  replace HBW := Lib.hid (HBW.out.trans (hb.mono HBW.out.size))
  have I5 := Lib.hid hr
  clear hO hr hb hc5 hz5
  go_wp2_with fail
  refine (drawMons_any a n c (by omega) _ (HC.out.keeps HBW.out)).mono ?_
  rintro e w3 ⟨n6, d7, rfl, hb⟩
  replace I5 := Lib.hid (I5.out.keeps hb)
  replace HBW := Lib.hid (HBW.out.trans (hb.mono HBW.out.size))
  clear hb
  obtain ⟨M, hM⟩ : ∃ M : Lin.Mat, monsZ n6 d7 = M := ⟨_, rfl⟩
  have GI := Lib.hid (monsI_b n6 d7 M hM)
  have GS := Lib.hid (monsS_b n6 d7 M hM)
  have HROW := Lib.hid (monsZ_row n6 d7)
  have HSIX := Lib.hid (mons_six n6 d7)
  have HCNT := Lib.hid (mons_count n6 d7)
  have hm252 := monsZ_le n6 d7
  have HOFF := Lib.hid (monsZ_off n6 d7)
  rw [hM] at HROW HSIX HCNT hm252 HOFF
  obtain ⟨m, hm⟩ : ∃ m, M.length = m := ⟨_, rfl⟩
  have HM := Lib.hid hm
  rw [hm] at hm252 HOFF
  clear hM hm
  go_wp2_with fail
  refine (GI.out _).mono ?_
  rintro e w4 ⟨v, rfl, ⟨a8, c8, g8, R8, rfl, _, _, hX⟩, hb⟩
  replace I5 := Lib.hid (I5.out.keeps hb)
  replace HBW := Lib.hid (HBW.out.trans (hb.mono HBW.out.size))
  have X8 := Lib.hid hX
  rw [HM.out]
  clear hX hb GI
  go_wp2_with fail
  refine (drawFirstM_any a n c (by omega) _ (HC.out.keeps HBW.out)).mono ?_
  rintro e w5 ⟨q9, q10, q11, rfl, hb⟩
  replace I5 := Lib.hid (I5.out.keeps hb)
  replace X8 := Lib.hid (X8.out.keeps hb)
  replace HBW := Lib.hid (HBW.out.trans (hb.mono HBW.out.size))
  clear hb
  go_wp2_with fail
  refine (drawCountM_any a n c (by omega) _ (HC.out.keeps HBW.out)).mono ?_
  rintro e w6 ⟨q12, q13, rfl, hb⟩
  replace I5 := Lib.hid (I5.out.keeps hb)
  replace X8 := Lib.hid (X8.out.keeps hb)
  replace HBW := Lib.hid (HBW.out.trans (hb.mono HBW.out.size))
  clear hb
  go_wp2_with fail
  refine (drawShell_any a n c (by omega) _ (HC.out.keeps HBW.out)).mono ?_
  rintro e w7 ⟨N1, v, x1, rfl, hx1, hO, hb⟩
  obtain ⟨a1, c1, rfl, hc1, hz1, hr⟩ := OwnInts.atn hO hb.size
  obtain ⟨l1, hl1⟩ : ∃ l, x1.length = l := ⟨_, rfl⟩
  have HL1 := Lib.hid hl1
  rw [hl1] at hx1 ⊢
  have hba : Below w7.heap.size w7 (w7.alloc (.cells #[.int .i64 N1, .slice a1 l1 c1] 33)) := (Below.refl _ _).alloc (Nat.le_refl _) _
  replace I5 := Lib.hid ((I5.out.keeps hb).keeps hba)
  replace X8 := Lib.hid ((X8.out.keeps hb).keeps hba)
  replace HBW := Lib.hid ((HBW.out.trans (hb.mono HBW.out.size)).trans (hba.mono (Nat.le_trans HBW.out.size hb.size)))
  have T1 := Lib.hid (Two.new w7 (.int .i64 N1) (.slice a1 l1 c1) 33)
  have I1 := Lib.hid (hr.keeps hba)
  obtain ⟨b1, hb1⟩ : ∃ b1, w7.heap.size = b1 := ⟨_, rfl⟩
  rw [hb1] at T1
  clear hO hr hb hba hc1 hz1 hl1
  obtain ⟨P3, hP3⟩ : ∃ z, boundZ 1 z3 z4 = z := ⟨_, rfl⟩
  have GP := Lib.hid (powerI_b z3 z4 P3 hP3)
  have GQ := Lib.hid (pwS z3 z4 P3 hP3)
  obtain ⟨B5, hB5⟩ : ∃ z, monoB x5 = z := ⟨_, rfl⟩
  have GA := Lib.hid (fun W h => amcI_b a5 c5 x5 B5 hB5 (by omega) W h)
  have GB := Lib.hid (fun W h => amcS_b a5 c5 x5 B5 hB5 (by omega) W h)
  obtain ⟨F, hF⟩ : ∃ M : Lin.Mat, firstM q9 q10 q11 = M := ⟨_, rfl⟩
  have GF := Lib.hid (firstI_b q9 q10 q11 F hF)
  have GG := Lib.hid (firstS_b q9 q10 q11 F hF)
  have hf252 := firstM_le q9 q10 q11
  have HOFF2 := Lib.hid (firstM_off q9 q10 q11)
  rw [hF] at hf252 HOFF2
  obtain ⟨Z12, hZ12⟩ : ∃ z, countZ q12 q13 = z := ⟨_, rfl⟩
  have GC := Lib.hid (cntI_b q12 q13 Z12 hZ12)
  have GD := Lib.hid (cntS_b q12 q13 Z12 hZ12)
  clear hP3 hB5 hF hZ12
  go_wp2_with fail
  refine (GP.out _).mono ?_
  rintro e w10 ⟨rfl, hb⟩
  replace I5 := Lib.hid (I5.out.keeps hb)
  replace X8 := Lib.hid (X8.out.keeps hb)
  replace T1 := Lib.hid (T1.out.keeps hb)
  replace I1 := Lib.hid (I1.out.keeps hb)
  replace HBW := Lib.hid (HBW.out.trans (hb.mono HBW.out.size))
  clear hb
  clear hb1
  go_wp2_with fail
  refine (GQ.out _).mono ?_
  rintro e w11 ⟨rfl, hb⟩
  replace I5 := Lib.hid (I5.out.keeps hb)
  replace X8 := Lib.hid (X8.out.keeps hb)
  replace T1 := Lib.hid (T1.out.keeps hb)
  replace I1 := Lib.hid (I1.out.keeps hb)
  replace HBW := Lib.hid (HBW.out.trans (hb.mono HBW.out.size))
  clear hb
  go_wp2_with fail
  refine (GA.out _ I5.out).mono ?_
  rintro e w12 ⟨rfl, hb⟩
  replace I5 := Lib.hid (I5.out.keeps hb)
  replace X8 := Lib.hid (X8.out.keeps hb)
  replace T1 := Lib.hid (T1.out.keeps hb)
  replace I1 := Lib.hid (I1.out.keeps hb)
  replace HBW := Lib.hid (HBW.out.trans (hb.mono HBW.out.size))
  clear hb
  go_wp2_with fail
  refine (GB.out _ I5.out).mono ?_
  rintro e w13 ⟨rfl, hb⟩
  replace I5 := Lib.hid (I5.out.keeps hb)
  replace X8 := Lib.hid (X8.out.keeps hb)
  replace T1 := Lib.hid (T1.out.keeps hb)
  replace I1 := Lib.hid (I1.out.keeps hb)
  replace HBW := Lib.hid (HBW.out.trans (hb.mono HBW.out.size))
  clear hb
  go_wp2_with fail
  refine (GS.out _).mono ?_
  rintro e w14 ⟨v, rfl, ⟨a9, c9, g9, R9, rfl, _, _, hX⟩, hb⟩
  replace I5 := Lib.hid (I5.out.keeps hb)
  replace X8 := Lib.hid (X8.out.keeps hb)
  replace T1 := Lib.hid (T1.out.keeps hb)
  replace I1 := Lib.hid (I1.out.keeps hb)
  replace HBW := Lib.hid (HBW.out.trans (hb.mono HBW.out.size))
  have X9 := Lib.hid hX
  rw [HM.out]
  clear hX hb
  go_wp2_with fail
  refine (sameMx_l _ _ _ _ _ _ m _ _ M HM.out (by omega) (by have := HOFF.out; omega) _ X8.out X9.out).mono ?_
  rintro e w15 ⟨rfl, hb⟩
  replace I5 := Lib.hid (I5.out.keeps hb)
  replace X8 := Lib.hid (X8.out.keeps hb)
  replace T1 := Lib.hid (T1.out.keeps hb)
  replace I1 := Lib.hid (I1.out.keeps hb)
  replace HBW := Lib.hid (HBW.out.trans (hb.mono HBW.out.size))
  clear hb
  go_wp2_with fail
  refine (GF.out _).mono ?_
  rintro e w16 ⟨v, rfl, ⟨aA, cA, gA, RA, rfl, _, _, hX⟩, hb⟩
  replace I5 := Lib.hid (I5.out.keeps hb)
  replace X8 := Lib.hid (X8.out.keeps hb)
  replace T1 := Lib.hid (T1.out.keeps hb)
  replace I1 := Lib.hid (I1.out.keeps hb)
  replace HBW := Lib.hid (HBW.out.trans (hb.mono HBW.out.size))
  have XA := Lib.hid hX
  clear hX hb
  go_wp2_with fail
  refine (GG.out _).mono ?_
  rintro e w17 ⟨v, rfl, ⟨aB, cB, gB, RB, rfl, _, _, hX⟩, hb⟩
  replace I5 := Lib.hid (I5.out.keeps hb)
  replace X8 := Lib.hid (X8.out.keeps hb)
  replace T1 := Lib.hid (T1.out.keeps hb)
  replace I1 := Lib.hid (I1.out.keeps hb)
  replace HBW := Lib.hid (HBW.out.trans (hb.mono HBW.out.size))
  replace XA := Lib.hid (XA.out.keeps hb)
  have XB := Lib.hid hX
  clear hX hb
  go_wp2_with fail
  refine (sameMx_any _ _ _ _ _ _ _ _ F (by omega) (by have := HOFF2.out; omega) _ XA.out XB.out).mono ?_
  rintro e w18 ⟨rfl, hb⟩
  replace I5 := Lib.hid (I5.out.keeps hb)
  replace X8 := Lib.hid (X8.out.keeps hb)
  replace T1 := Lib.hid (T1.out.keeps hb)
  replace I1 := Lib.hid (I1.out.keeps hb)
  replace HBW := Lib.hid (HBW.out.trans (hb.mono HBW.out.size))
  clear hb
  go_wp2_with fail
  refine (GC.out _).mono ?_
  rintro e w19 ⟨rfl, hb⟩
  replace I5 := Lib.hid (I5.out.keeps hb)
  replace X8 := Lib.hid (X8.out.keeps hb)
  replace T1 := Lib.hid (T1.out.keeps hb)
  replace I1 := Lib.hid (I1.out.keeps hb)
  replace HBW := Lib.hid (HBW.out.trans (hb.mono HBW.out.size))
  clear hb
  go_wp2_with fail
  refine (GD.out _).mono ?_
  rintro e w20 ⟨rfl, hb⟩
  replace I5 := Lib.hid (I5.out.keeps hb)
  replace X8 := Lib.hid (X8.out.keeps hb)
  replace T1 := Lib.hid (T1.out.keeps hb)
  replace I1 := Lib.hid (I1.out.keeps hb)
  replace HBW := Lib.hid (HBW.out.trans (hb.mono HBW.out.size))
  clear hb
  clear GP GQ GA GB GF GG GC GD GS X9 XA XB
  have HBA := Lib.hid (Below.refl w20.heap.size w20)
  go_upto_region 12 with fail
  go_cut [99] (fun s wx => s = .bool false ∧ Below w20.heap.size w20 wx)
  case first =>
    rcases Nat.eq_zero_or_pos m with hm0 | hm0
    · subst hm0
      go_wp2_with fail
      go_meet
      exact ⟨rfl, Below.refl _ _⟩
    · have hd1 : decide (0 < m) = true := by simpa using hm0
      have hd2 : decide (0 < (m : Int)) = true := by simpa using hm0
      have hcn := HCNT.out (by rw [HM.out]; exact hm0)
      rw [HM.out] at hcn
      have GC := Lib.hid (cntI_b n6 d7 (m : Int) hcn.symm)
      clear hcn
      go_wp2_with fail
      refine (GC.out _).mono ?_
      rintro e w21 ⟨rfl, hb⟩
      have HB := Lib.hid hb
      clear hb
      go_wp2_with fail
      go_meet
      exact ⟨rfl, HB.out⟩
  case rest =>
    obtain ⟨w21, rfl⟩ : ∃ z : World, z = wc := ⟨_, rfl⟩
    obtain ⟨rfl, hb⟩ := hcut
    replace I5 := Lib.hid (I5.out.keeps hb)
    replace X8 := Lib.hid (X8.out.keeps hb)
    replace T1 := Lib.hid (T1.out.keeps hb)
    replace I1 := Lib.hid (I1.out.keeps hb)
    replace HBW := Lib.hid (HBW.out.trans (hb.mono HBW.out.size))
    clear hb HBA
    go_wp2
    go_loopw [15] (fun iv wr => ∃ k : Nat, k ≤ m ∧ iv = .int .i64 (k : Int) ∧ Below w21.heap.size w21 wr) (fun iv _ => m - (intOf iv).toNat)
    case atStart => exact ⟨0, Nat.zero_le _, rfl, Below.refl _ _⟩
    case round =>
      obtain ⟨k, hk, rfl, hB⟩ := hrel
      have HBR := Lib.hid hB
      clear hB
      by_cases hlt : k < m
      · have hd : decide ((k : Int) < (m : Int)) = true := by simpa using hlt
        have hX := X8.out.keeps HBR.out
        have hkM : k < M.length := by rw [HM.out]; exact hlt
        obtain ⟨e8, s8, d8, -⟩ := hX.out k hkM
        subst e8
        have hr8 := (hX.rows k hkM).2.ints
        have hmem := row_mem M k hkM
        have hrow := HROW.out _ hmem
        have hsix := HSIX.out _ hmem
        have HTOT := Lib.hid (fun W (hW : Below wr.heap.size wr W) => total_l (some ⟨blk R8 k, 0, none⟩) (room R8 k) (Lin.row M k).length (Lin.row M k) rfl d7 hrow.2.1 (by omega) hrow.2.2 W (hr8.keeps hW))
        have hlen := hrow.1
        obtain ⟨B8, hB8⟩ : ∃ b, blk R8 k = b := ⟨_, rfl⟩
        obtain ⟨C8, hC8⟩ : ∃ b, room R8 k = b := ⟨_, rfl⟩
        obtain ⟨r8, hr8e⟩ : ∃ r, (Lin.row M k).length = r := ⟨_, rfl⟩
        rw [hB8, hC8, hr8e] at HTOT d8
        rw [hr8e] at hlen
        have hne : ((r8 : Int) == n6) = true := by rw [beq_iff_eq]; exact hlen
        have hne2 : ((r8 : Int) != n6) = false := by rw [bne_eq_false_iff_eq]; exact hlen
        have hne3 : decide ((r8 : Int) = n6) = true := by simpa using hlen
        have hszr := HBR.out.size
        clear hX hr8 hmem hrow hsix hB8 hC8 hr8e hlen hkM
        go_wp2_with fail
        refine (HTOT.out _ (Below.refl _ _)).mono ?_
        rintro e w30 ⟨rfl, hb⟩
        have HB30 := Lib.hid (HBR.out.trans (hb.mono hszr))
        clear hb
        go_wp2
        go_roundw
        case rel => exact ⟨k + 1, by omega, by go_num, HB30.out⟩
        case measure => simp [intOf]; omega
      · have hd : decide ((k : Int) < (m : Int)) = false := by simpa using hlt
        replace HBW := Lib.hid (HBW.out.trans (HBR.out.mono HBW.out.size))
        replace T1 := Lib.hid (T1.out.keeps HBR.out)
        replace I1 := Lib.hid (I1.out.keeps HBR.out)
        clear HBR X8 HROW HSIX HCNT HOFF HOFF2 I5
        go_upto_region 19 with fail
        go_cut [147] (fun s wx => s = .bool false ∧ Below wr.heap.size wr wx)
        case first =>
          by_cases h1 : 1 ≤ d7
          case neg =>
            have hd1 : decide (1 ≤ d7) = false := by simpa using h1
            go_wp2_with fail
            go_meet
            exact ⟨rfl, Below.refl _ _⟩
          have hd1 : decide (1 ≤ d7) = true := by simpa using h1
          by_cases h2 : d7 ≤ 4
          case neg =>
            have hd2 : decide (d7 ≤ 4) = false := by simpa using h2
            clear h1
            go_wp2_with fail
            go_meet
            exact ⟨rfl, Below.refl _ _⟩
          have hd2 : decide (d7 ≤ 4) = true := by simpa using h2
          by_cases h3 : 1 ≤ n6
          case neg =>
            have hd3 : decide (1 ≤ n6) = false := by simpa using h3
            clear h1 h2
            go_wp2_with fail
            go_meet
            exact ⟨rfl, Below.refl _ _⟩
          have hd3 : decide (1 ≤ n6) = true := by simpa using h3
          by_cases h4 : n6 ≤ 6
          case neg =>
            have hd4 : decide (n6 ≤ 6) = false := by simpa using h4
            clear h1 h2 h3
            go_wp2_with fail
            go_meet
            exact ⟨rfl, Below.refl _ _⟩
          have hd4 : decide (n6 ≤ 6) = true := by simpa using h4
          have hpn := power_next n6 d7 h1 h2 h3 h4
          obtain ⟨Y, hY⟩ : ∃ y, countZ n6 d7 = y := ⟨_, rfl⟩
          obtain ⟨Y2, hY2⟩ : ∃ y, countZ n6 (d7 + 1) = y := ⟨_, rfl⟩
          rw [hY, hY2] at hpn
          have G1 := Lib.hid (cntI_b n6 d7 Y hY)
          have G2 := Lib.hid (powerI_b Y d7 Y2 hpn)
          have G3 := Lib.hid (cntI_b n6 (d7 + 1) Y2 hY2)
          clear hpn hY hY2
          go_wp2_with fail
          refine (G1.out _).mono ?_
          rintro e w31 ⟨rfl, hb⟩
          have HB := Lib.hid hb
          clear hb
          go_wp2_with fail
          refine (G2.out _).mono ?_
          rintro e w32 ⟨rfl, hb⟩
          replace HB := Lib.hid (HB.out.trans (hb.mono HB.out.size))
          clear hb
          go_wp2_with fail
          refine (G3.out _).mono ?_
          rintro e w33 ⟨rfl, hb⟩
          replace HB := Lib.hid (HB.out.trans (hb.mono HB.out.size))
          clear hb
          go_wp2_with fail
          go_meet
          exact ⟨rfl, HB.out⟩
        case rest =>
          obtain ⟨w34, rfl⟩ : ∃ z : World, z = wc := ⟨_, rfl⟩
          obtain ⟨rfl, hb⟩ := hcut
          replace T1 := Lib.hid (T1.out.keeps hb)
          replace I1 := Lib.hid (I1.out.keeps hb)
          replace HBW := Lib.hid (HBW.out.trans (hb.mono HBW.out.size))
          clear hb
          obtain ⟨p1, hp1⟩ : ∃ p, pureB N1 x1 = p := ⟨_, rfl⟩
          have HP1 := Lib.hid hp1
          have GPU := Lib.hid (fun W h => pureS_l N1 a1 c1 x1 l1 HL1.out p1 hp1 (by omega) W h)
          clear hp1
          obtain ⟨t0, t1, t2, -, -⟩ := T1.out
          go_wp2_with fail
          refine (GPU.out _ I1.out).mono ?_
          rintro e w35 ⟨rfl, hb⟩
          replace T1 := Lib.hid (T1.out.keeps hb)
          replace I1 := Lib.hid (I1.out.keeps hb)
          replace HBW := Lib.hid (HBW.out.trans (hb.mono HBW.out.size))
          clear hb t0 t1 t2 GPU
          cases p1 with
          | false =>
            go_wp2
            go_ret
            exact ⟨rfl, HBW.out⟩
          | true =>
            have GSH := Lib.hid (fun W h => shS_l N1 a1 c1 x1 l1 HL1.out (by omega) W h)
            obtain ⟨t0, t1, t2, -, -⟩ := T1.out
            go_wp2_with fail
            refine (GSH.out _ I1.out).mono ?_
            rintro e w36 ⟨s1, rfl, hsh, hb⟩
            have HSH := Lib.hid hsh
            replace T1 := Lib.hid (T1.out.keeps hb)
            replace I1 := Lib.hid (I1.out.keeps hb)
            replace HBW := Lib.hid (HBW.out.trans (hb.mono HBW.out.size))
            clear hb hsh t0 t1 t2 GSH
            cases s1 with
            | false =>
              go_wp2
              go_ret
              exact ⟨rfl, HBW.out⟩
            | true =>
              obtain ⟨t0, t1, t2, -, -⟩ := T1.out
              rcases Nat.eq_zero_or_pos l1 with hl0 | hl0
              · subst hl0
                go_wp2
                go_ret
                exact ⟨rfl, HBW.out⟩
              · have hz1 : ((l1 : Int) == 0) = false := by rw [beq_eq_false_iff_ne]; omega
                obtain ⟨L, hL⟩ : ∃ L, hnum N1 x1 = L := ⟨_, rfl⟩
                have hl7 := hnum_le7 N1 x1
                have hmo := promise12 HP1.out HSH.out (by rw [HL1.out]; exact hl0)
                rw [hL] at hl7 hmo
                have GH := Lib.hid (fun W h => hnS_l N1 a1 c1 x1 l1 HL1.out L hL (by omega) W h)
                have GM := Lib.hid (fun (aa : Option Addr) (cc : Nat) W h => amcI_b aa cc L true hmo (by omega) W h)
                clear hL hmo hl0
                go_wp2_with fail
                refine (GH.out _ I1.out).mono ?_
                rintro e w37 ⟨v, rfl, hO, hb⟩
                obtain ⟨a2, c2, rfl, -, -, hr⟩ := OwnInts.atn hO hb.size
                replace HBW := Lib.hid (HBW.out.trans (hb.mono HBW.out.size))
                have I2 := Lib.hid hr
                clear hO hr hb t0 t1 t2
                go_wp2_with fail
                refine (GM.out a2 c2 _ I2.out).mono ?_
                rintro e w38 ⟨rfl, hb⟩
                replace HBW := Lib.hid (HBW.out.trans (hb.mono HBW.out.size))
                clear hb
                go_wp2
                go_ret
                exact ⟨rfl, HBW.out⟩

end Go.Proofs.Ytmonaiojejbhkaa
