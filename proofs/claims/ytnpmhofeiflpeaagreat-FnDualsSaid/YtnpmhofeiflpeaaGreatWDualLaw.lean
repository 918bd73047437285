/-
  THE WALK of the law on duals (written by genduallaw.py).
-/
import Derived.Test.YtnpmhofeiflpeaaGreatWDualR10
import Derived.Test.YtnpmhofeiflpeaaGreatWDualR31
import Derived.Test.YtnpmhofeiflpeaaGreatJg42
import Derived.Deep.DeepCutAuto
namespace Go.Proofs.YtnpmhofeiflpeaaGreat
open Go.RowKit
open Sets Hom

set_option maxRecDepth 1000000 in
set_option maxHeartbeats 16000000 in
theorem duals_walk (JDual : ∀ (n : Int) (a : Option Addr) (c : Nat) (xs : List Int), xs.length ≤ c → xs.length ≤ 1099511627776 → ∀ W : World, Ints W a xs → Calls Tryz.prog 6 #[cx n (.slice a xs.length c)] W fun e w' => ∃ v, e = .returned (.tuple #[cx (oN (dualO n xs)) v, .bool (dualO n xs).isSome]) ∧ HasInts w' W.heap.size v (oL (dualO n xs)) ∧ Below W.heap.size W w')
    (JComp : ∀ (n s : Int) (W : World), Calls Tryz.prog 13 #[.int .i64 n, .int .i64 s] W fun e w' => e = .returned (.int .i64 (compZ n s)) ∧ Below W.heap.size W w')
    (JSelf : ∀ (n : Int) (a : Option Addr) (c : Nat) (xs : List Int), xs.length ≤ c → xs.length ≤ 1099511627776 → ∀ W : World, Ints W a xs → Calls Tryz.prog 15 #[cx n (.slice a xs.length c)] W fun e w' => e = .returned (.bool (selfB n xs)) ∧ Below W.heap.size W w')
    (JCov : ∀ (n : Int) (a : Option Addr) (c : Nat) (xs : List Int), xs.length ≤ 1099511627776 → ∀ W : World, Ints W a xs → Calls Tryz.prog 11 #[.int .i64 n, .slice a xs.length c] W fun e w' => ∃ v, e = .returned v ∧ HasInts w' W.heap.size v (coversL n xs) ∧ Below W.heap.size W w')
    (a : Option Addr) (n c : Nat) (hn : n ≤ 9223372036854775807) (w : World) (hc : Code w a n) :
    Calls Tryz.prog 3 #[.slice a n c] w fun e w' => e = .returned (.bool true) ∧ Below w.heap.size w w' := by
  obtain ⟨i0, hi, hq0, hq1, hq2⟩ := info_parts info_int
  have HC := Lib.hid hc
  clear hc
  by_cases hbig : 1048576 < (n : Int)
  · go_enter Tryz.func3, Tryz.ntmps3
    go_wp2
    go_ret
    exact ⟨rfl, Below.refl _ _⟩
  have KDual := Lib.hid JDual
  have KComp := Lib.hid JComp
  have KSelf := Lib.hid JSelf
  have KCov := Lib.hid JCov
  clear JDual JComp JSelf JCov
  go_enter Tryz.func3, Tryz.ntmps3
  go_wp2_with (go_at_call 4; go_in)
  refine (drawDual_any a n c (by omega) _ HC.out).mono ?_
  rintro e w1 ⟨N1, v, x1, rfl, hx1, hO, hb⟩
  obtain ⟨a1, c1, rfl, hc1, hz1, hr⟩ := OwnInts.atn hO hb.size
  have hl1 : x1.length ≤ 1099511627776 := Nat.le_trans hx1 (by decide)
  have hba : Below w1.heap.size w1 (w1.alloc (.cells #[.int .i64 N1, .slice a1 x1.length c1] 26)) := (Below.refl _ _).alloc (Nat.le_refl _) _
  have HBW : Hid (Below w.heap.size w (w1.alloc (.cells #[.int .i64 N1, .slice a1 x1.length c1] 26))) := hb.trans (hba.mono hb.size)
  have BX1 := Lib.hid (Bx.new (n := N1) (c := c1) hr 26)
  clear hO hr hb hba
  obtain ⟨ND, hN⟩ : ∃ z, oN (dualO N1 x1) = z := ⟨_, rfl⟩
  obtain ⟨LD, hL⟩ : ∃ z, oL (dualO N1 x1) = z := ⟨_, rfl⟩
  obtain ⟨BD, hB⟩ : ∃ z, (dualO N1 x1).isSome = z := ⟨_, rfl⟩
  have hlD : LD.length ≤ 1099511627776 := by rw [← hL]; exact Nat.le_trans (partL_le _ _ _) (by decide)
  have hG := fun W h => KDual.out N1 a1 c1 x1 hc1 hl1 W h
  have hS := fun W h => specDual_any N1 a1 c1 x1 hl1 W h
  simp only [hN, hL, hB] at hS hG
  have SD := Lib.hid hS
  have GD := Lib.hid hG
  have END := Lib.hid hN
  have ELD := Lib.hid hL
  have EBD := Lib.hid hB
  clear hS hG hN hL hB
  obtain ⟨t0, t1, t2, t3, t4⟩ := BX1.out.1
  go_wp2_with fail
  refine (GD.out _ BX1.out.2).mono ?_
  rintro e w2 ⟨v, rfl, hO, hb⟩
  obtain ⟨a2, c2, _, rfl, hc2, _, hr0, _⟩ := hO
  have hr := hr0.ints
  have hba : Below w2.heap.size w2 (w2.alloc (.cells #[.int .i64 ND, .slice a2 LD.length c2] 26)) := (Below.refl _ _).alloc (Nat.le_refl _) _
  replace BX1 := Lib.hid ((BX1.out.keeps hb).keeps hba)
  replace HBW : Hid (Below w.heap.size w (w2.alloc (.cells #[.int .i64 ND, .slice a2 LD.length c2] 26))) := (HBW.out.trans (hb.mono HBW.out.size)).trans (hba.mono (Nat.le_trans HBW.out.size hb.size))
  have BX2 := Lib.hid (Bx.new (n := ND) (c := c2) hr 26)
  clear hr0 hr hb hba t0 t1 t2 t3 t4
  obtain ⟨t0, t1, t2, t3, t4⟩ := BX1.out.1
  go_wp2_with fail
  refine (SD.out _ BX1.out.2).mono ?_
  rintro e w3 ⟨v, rfl, hO, hb⟩
  obtain ⟨a3, c3, rfl, hc3, hz3, hr⟩ := OwnInts.atn hO hb.size
  have hba : Below w3.heap.size w3 (w3.alloc (.cells #[.int .i64 ND, .slice a3 LD.length c3] 26)) := (Below.refl _ _).alloc (Nat.le_refl _) _
  replace BX1 := Lib.hid ((BX1.out.keeps hb).keeps hba)
  replace BX2 := Lib.hid ((BX2.out.keeps hb).keeps hba)
  replace HBW : Hid (Below w.heap.size w (w3.alloc (.cells #[.int .i64 ND, .slice a3 LD.length c3] 26))) := (HBW.out.trans (hb.mono HBW.out.size)).trans (hba.mono (Nat.le_trans HBW.out.size hb.size))
  have BX3 := Lib.hid (Bx.new (n := ND) (c := c3) hr 26)
  clear hO hr hb hba t0 t1 t2 t3 t4
  clear SD GD
  go_wp2_with fail
  refine (drawComp_any a n c (by omega) _ (HC.out.keeps HBW.out)).mono ?_
  rintro e wN ⟨Nq, sq, rfl, hb⟩
  replace BX1 := Lib.hid (BX1.out.keeps hb)
  replace BX2 := Lib.hid (BX2.out.keeps hb)
  replace BX3 := Lib.hid (BX3.out.keeps hb)
  replace HBW := Lib.hid (HBW.out.trans (hb.mono HBW.out.size))
  clear hb
  go_wp2_with fail
  refine (drawSelf_any a n c (by omega) _ (HC.out.keeps HBW.out)).mono ?_
  rintro e w4 ⟨N4, v, x4, rfl, hx4, hO, hb⟩
  obtain ⟨a4, c4, rfl, hc4, hz4, hr⟩ := OwnInts.atn hO hb.size
  have hl4 : x4.length ≤ 1099511627776 := Nat.le_trans hx4 (by decide)
  have hba : Below w4.heap.size w4 (w4.alloc (.cells #[.int .i64 N4, .slice a4 x4.length c4] 26)) := (Below.refl _ _).alloc (Nat.le_refl _) _
  replace BX1 := Lib.hid ((BX1.out.keeps hb).keeps hba)
  replace BX2 := Lib.hid ((BX2.out.keeps hb).keeps hba)
  replace BX3 := Lib.hid ((BX3.out.keeps hb).keeps hba)
  replace HBW : Hid (Below w.heap.size w (w4.alloc (.cells #[.int .i64 N4, .slice a4 x4.length c4] 26))) := (HBW.out.trans (hb.mono HBW.out.size)).trans (hba.mono (Nat.le_trans HBW.out.size hb.size))
  have BX4 := Lib.hid (Bx.new (n := N4) (c := c4) hr 26)
  clear hO hr hb hba
  go_wp2_with fail
  refine (drawCovers_any a n c (by omega) _ (HC.out.keeps HBW.out)).mono ?_
  rintro e wS ⟨M, v, xS, rfl, hxS, hO, hb⟩
  obtain ⟨aS, cS, rfl, hcS, _, hr⟩ := OwnInts.atn hO hb.size
  have hlS : xS.length ≤ 1099511627776 := Nat.le_trans hxS (by decide)
  replace BX1 := Lib.hid (BX1.out.keeps hb)
  replace BX2 := Lib.hid (BX2.out.keeps hb)
  replace BX3 := Lib.hid (BX3.out.keeps hb)
  replace BX4 := Lib.hid (BX4.out.keeps hb)
  replace HBW := Lib.hid (HBW.out.trans (hb.mono HBW.out.size))
  have HIS := Lib.hid hr
  clear hO hr hb
  obtain ⟨C, hCV⟩ : ∃ C, coversL M xS = C := ⟨_, rfl⟩
  have hC64 : C.length ≤ 1099511627776 := by rw [← hCV]; exact Nat.le_trans (covers_le _ _) (by decide)
  have hcv := KCov.out M aS cS xS hlS
  simp only [hCV] at hcv
  have HCV := Lib.hid hCV
  have HKC := Lib.hid hcv
  clear hCV hcv
  go_wp2_with fail
  refine (HKC.out _ HIS.out).mono ?_
  rintro e wC ⟨v, rfl, hO, hb⟩
  obtain ⟨aC, cC, _, rfl, hcC, _, hr0, _⟩ := hO
  have hr := hr0.ints
  replace BX1 := Lib.hid (BX1.out.keeps hb)
  replace BX2 := Lib.hid (BX2.out.keeps hb)
  replace BX3 := Lib.hid (BX3.out.keeps hb)
  replace BX4 := Lib.hid (BX4.out.keeps hb)
  replace HIS := Lib.hid (HIS.out.keeps hb)
  replace HBW := Lib.hid (HBW.out.trans (hb.mono HBW.out.size))
  have HIC := Lib.hid hr
  clear hr0 hr hb HKC
  go_upto_region 10 with fail
  refine dual_r10 BX2.out BX3.out BX4.out hl4 hlD HIS.out hlS HIC.out hC64 HCV.out hc4 KComp.out KSelf.out ?_
  intro v52 v53 v54 v55 v56 v57 v58 v59 v60 v61 v62 v63 v64 v65 v66 v67 v68 v69 v70 v71 v72 v73 v74 v75 v76 v77 v78 v79 v80 v81 v82 v83 w10 hb
  clear BX3 BX4
  replace BX1 := Lib.hid (BX1.out.keeps hb)
  replace BX2 := Lib.hid (BX2.out.keeps hb)
  replace HIS := Lib.hid (HIS.out.keeps hb)
  replace HIC := Lib.hid (HIC.out.keeps hb)
  replace HBW := Lib.hid (HBW.out.trans (hb.mono HBW.out.size))
  clear hb
  obtain ⟨NF, hN⟩ : ∃ z, oN (fromO M xS) = z := ⟨_, rfl⟩
  obtain ⟨LF, hL⟩ : ∃ z, oL (fromO M xS) = z := ⟨_, rfl⟩
  obtain ⟨BF, hB⟩ : ∃ z, (fromO M xS).isSome = z := ⟨_, rfl⟩
  have hlF : LF.length ≤ 64 := by rw [← hL]; exact partL_le _ _ _
  have hS := fun W h => specFrom_any M aS cS xS hlS W h
  simp only [hN, hL, hB] at hS
  have SF := Lib.hid hS
  have ELF := Lib.hid hL
  have EBF := Lib.hid hB
  clear hS hN hL hB
  go_wp2_with fail
  refine (SF.out _ HIS.out).mono ?_
  rintro e w5 ⟨v, rfl, hO, hb⟩
  obtain ⟨a5, c5, rfl, hc5, hz5, hr⟩ := OwnInts.atn hO hb.size
  have hba : Below w5.heap.size w5 (w5.alloc (.cells #[.int .i64 NF, .slice a5 LF.length c5] 26)) := (Below.refl _ _).alloc (Nat.le_refl _) _
  replace BX1 := Lib.hid ((BX1.out.keeps hb).keeps hba)
  replace BX2 := Lib.hid ((BX2.out.keeps hb).keeps hba)
  replace HIS := Lib.hid ((HIS.out.keeps hb).keeps hba)
  replace HIC := Lib.hid ((HIC.out.keeps hb).keeps hba)
  replace HBW : Hid (Below w.heap.size w (w5.alloc (.cells #[.int .i64 NF, .slice a5 LF.length c5] 26))) := (HBW.out.trans (hb.mono HBW.out.size)).trans (hba.mono (Nat.le_trans HBW.out.size hb.size))
  have BX5 := Lib.hid (Bx.new (n := NF) (c := c5) hr 26)
  clear hO hr hb hba
  clear SF
  have KD := KDual
  clear KComp KSelf KCov
  obtain ⟨W, hW⟩ : ∃ W, (w5.alloc (.cells #[.int .i64 NF, .slice a5 LF.length c5] 26)) = W := ⟨_, rfl⟩
  rw [hW] at BX1 BX2 BX5 HIS HIC HBW
  cases hF : BF with
  | false =>
    go_upto_region 21 with fail
    try rw [hW]
    clear hW
    have BY1 := Lib.hid (BX1.out.keeps (Below.refl W.heap.size W))
    have BY2 := Lib.hid (BX2.out.keeps (Below.refl W.heap.size W))
    have HBY := Lib.hid (HBW.out.trans ((Below.refl W.heap.size W).mono HBW.out.size))
    cases hD : BD with
    | false =>
      go_wp2
      go_ret
      exact ⟨rfl, HBY.out⟩
    | true =>
      have hC : isC N1 x1 = true := by have h := EBD.out; rw [hD] at h; unfold dualO at h; rwa [parts_someD] at h
      have hNN : N1 = ND := by rw [← END.out, dualO_yes hC]; rfl
      have hLL : LD = maxQ (dualQ N1.toNat (inF x1)) := by rw [← ELD.out, dualO_yes hC]; rfl
      have hback : dualO N1 LD = some (N1, x1) := by rw [hLL, dualO_yes (dual_isC hC), dual_dual hC]
      have hsz := fun (k : Nat) (hk : (k : Int) ≤ N1) => dual_sized hC hLL k hk
      have hat := fun (k : Nat) (hk : (k : Int) ≤ N1) => dual_at hC hLL k hk
      have hn16 := isC_n hC
      have hlx64 := isC_le hC
      subst hNN
      have HSZ := Lib.hid hsz
      have HBK := Lib.hid hback
      obtain ⟨A, hA⟩ : ∃ A, holF 2 (faces N1 x1) (top (faces N1 x1)) = A := ⟨_, rfl⟩
      obtain ⟨B, hB⟩ : ∃ B, holF 2 (faces N1 LD) (top (faces N1 LD)) = B := ⟨_, rfl⟩
      simp only [hA, hB] at hat
      have hSA := fun W h => holesMod_any 2 (.inl rfl) N1 a1 c1 x1 hl1 W h
      have hSB := fun W h => holesMod_any 2 (.inl rfl) N1 a2 c2 LD hlD W h
      simp only [hA] at hSA
      simp only [hB] at hSB
      have HSA := Lib.hid hSA
      have HSB := Lib.hid hSB
      have HAT := Lib.hid hat
      obtain ⟨m, hm⟩ : ∃ m : Nat, N1 = (m : Int) := ⟨N1.toNat, by omega⟩
      have hm6 : m ≤ 6 := by omega
      have HM := Lib.hid hm
      clear hm
      clear hD hC hLL hback hsz hat hA hB hSA hSB
      obtain ⟨t0, t1, t2, t3, t4⟩ := BY2.out.1
      go_wp2_with fail
      refine (KD.out N1 a2 c2 LD hc2 hlD _ BY2.out.2).mono ?_
      rintro e w6 ⟨v, he, hO, hb⟩
      rw [HBK.out] at he hO
      replace he : e = .returned (.tuple #[cx N1 v, .bool true]) := he
      replace hO : HasInts w6 W.heap.size v x1 := hO
      subst he
      obtain ⟨a6, c6, _, rfl, hc6, _, hr0, _⟩ := hO
      have hr := hr0.ints
      have hba : Below w6.heap.size w6 (w6.alloc (.cells #[.int .i64 N1, .slice a6 x1.length c6] 26)) := (Below.refl _ _).alloc (Nat.le_refl _) _
      replace BY1 := Lib.hid ((BY1.out.keeps hb).keeps hba)
      replace BY2 := Lib.hid ((BY2.out.keeps hb).keeps hba)
      replace HBY : Hid (Below w.heap.size w (w6.alloc (.cells #[.int .i64 N1, .slice a6 x1.length c6] 26))) := (HBY.out.trans (hb.mono HBY.out.size)).trans (hba.mono (Nat.le_trans HBY.out.size hb.size))
      have BY6 := Lib.hid (Bx.new (n := N1) (c := c6) hr 26)
      clear hr0 hr hb hba t0 t1 t2 t3 t4
      obtain ⟨t0, t1, t2, t3, t4⟩ := BY1.out.1
      obtain ⟨s0, s1, s2, s3, s4⟩ := BY6.out.1
      go_wp2_with fail
      refine (sameCx_any N1 a6 a1 c6 c1 x1 hl1 _ BY6.out.2 BY1.out.2).mono ?_
      rintro e w7 ⟨rfl, hb⟩
      replace BY1 := Lib.hid (BY1.out.keeps hb)
      replace BY2 := Lib.hid (BY2.out.keeps hb)
      replace HBY := Lib.hid (HBY.out.trans (hb.mono HBY.out.size))
      clear hb BY6 t0 t1 t2 t3 t4 s0 s1 s2 s3 s4
      obtain ⟨t0, t1, t2, t3, t4⟩ := BY1.out.1
      go_wp2_with fail
      refine (HSA.out _ BY1.out.2).mono ?_
      rintro e wA ⟨v, rfl, hO, hb⟩
      obtain ⟨aA, cA, rfl, hcA, hzA, hr⟩ := OwnInts.atn hO hb.size
      replace BY1 := Lib.hid (BY1.out.keeps hb)
      replace BY2 := Lib.hid (BY2.out.keeps hb)
      replace HBY := Lib.hid (HBY.out.trans (hb.mono HBY.out.size))
      have HIA := Lib.hid hr
      clear hO hr hb t0 t1 t2 t3 t4
      obtain ⟨t0, t1, t2, t3, t4⟩ := BY2.out.1
      go_wp2_with fail
      refine (HSB.out _ BY2.out.2).mono ?_
      rintro e wB ⟨v, rfl, hO, hb⟩
      obtain ⟨aB, cB, rfl, hcB, hzB, hr⟩ := OwnInts.atn hO hb.size
      replace BY1 := Lib.hid (BY1.out.keeps hb)
      replace BY2 := Lib.hid (BY2.out.keeps hb)
      replace HIA := Lib.hid (HIA.out.keeps hb)
      replace HBY := Lib.hid (HBY.out.trans (hb.mono HBY.out.size))
      have HIB := Lib.hid hr
      clear hO hr hb t0 t1 t2 t3 t4
      go_wp2
      go_loopw [22] (fun i wr => ∃ k : Nat, k ≤ m + 1 ∧ i = .int .i64 (k : Int) ∧ Below wB.heap.size wB wr) (fun i _ => m + 1 - (intOf i).toNat)
      case atStart => exact ⟨0, Nat.zero_le _, rfl, Below.refl _ _⟩
      case round =>
        obtain ⟨k, hk, rfl, hB⟩ := hrel
        have HB := Lib.hid hB
        clear hB
        obtain ⟨t0, t1, t2, t3, t4⟩ := (BY1.out.keeps HB.out).1
        by_cases hlt : k ≤ m
        · have hle : decide ((k : Int) ≤ N1) = true := decide_eq_true (by rw [HM.out]; omega)
          have h1 := HSZ.out k (by rw [HM.out]; omega)
          have h2 := HAT.out k (by rw [HM.out]; omega)
          obtain ⟨y1, hy1⟩ : ∃ y, (sized (k : Int) (faces N1 x1)).length = y := ⟨_, rfl⟩
          obtain ⟨y2, hy2⟩ : ∃ y, (sized (N1 - (k : Int)) (faces N1 LD)).length = y := ⟨_, rfl⟩
          obtain ⟨z, hz⟩ : ∃ z, at0 A (k : Int) = z := ⟨_, rfl⟩
          rw [hy1, hy2, show N1.toNat = m by rw [HM.out]; simp] at h1
          rw [hz] at h2
          have hy4 : y1 + y2 ≤ 20 := by rw [h1]; exact choose_le ⟨m, by omega⟩ ⟨k, by omega⟩
          have HY1 := Lib.hid hy1
          have HY2 := Lib.hid hy2
          have HZ1 := Lib.hid hz
          have H1 := Lib.hid h1.symm
          have H2 := Lib.hid h2.symm
          have HY4 := Lib.hid hy4
          clear hy1 hy2 hz h1 h2 hy4
          go_upto_region 31 with fail
          refine dual_r31 (BY1.out.keeps HB.out) (BY2.out.keeps HB.out) hl1 hlD (HIA.out.keeps HB.out) (HIB.out.keeps HB.out) HM.out hm6 hlt HY1.out HY2.out H1.out HY4.out HZ1.out H2.out ?_
          intro z140 z141 z142 z143 z144 z145 z146 z147 z148 z149 z150 z151 z152 z153 z154 z155 z156 z157 z158 z159 z160 z161 z162 z163 z164 z165 z166 z167 z168 z169 z170 z171 z172 z173 z174 z175 z176 z177 z178 w31 hb
          have HB2 := Lib.hid (HB.out.trans (hb.mono HB.out.size))
          clear hb hle
          go_wp2
          go_roundw
          case rel => exact ⟨k + 1, by omega, by go_num, HB2.out⟩
          case measure => simp [intOf]; omega
        · have hle : decide ((k : Int) ≤ N1) = false := decide_eq_false (by rw [HM.out]; omega)
          go_wp2
          go_ret
          exact ⟨rfl, HBY.out.trans (HB.out.mono HBY.out.size)⟩
  | true =>
    have hso : setsOf M xS = true := by have h := EBF.out; rw [hF] at h; unfold fromO at h; rwa [parts_someD] at h
    have hord : order (LF.map (compZ M)) = C := by rw [← ELF.out, fromS_yes hso, ← HCV.out, ← covers_comp hso]; rfl
    have hokF : allOk LF = true := by rw [← ELF.out, fromS_yes hso]; exact maxQ_ok _
    have HORD := Lib.hid hord
    have HOKF := Lib.hid hokF
    clear hso hord hokF hF EBF
    obtain ⟨t0, t1, t2, t3, t4⟩ := BX5.out.1
    go_wp2
    try rw [hW]
    clear hW t0 t1 t2 t3 t4
    go_loopw [16, 17] (fun v i wr => ∃ k : Nat, k ≤ LF.length ∧ i = .int .i64 (k : Int) ∧ OwnInts wr W.heap.size v (mapL (compZ M) LF k) ∧ Below W.heap.size W wr) (fun _ i _ => LF.length - (intOf i).toNat)
    case atStart => exact ⟨0, Nat.zero_le _, rfl, OwnInts.lit W W.heap.size [] (by simp) (by simp), (Below.refl _ _).alloc (Nat.le_refl _) _⟩
    case round =>
      obtain ⟨k, hk, rfl, hO, hB⟩ := hrel
      have HB := Lib.hid hB
      have hsz := hB.size
      have hml : (mapL (compZ M) LF k).length ≤ k := mapL_le _ _ _
      obtain ⟨t0, t1, t2, t3, t4⟩ := (BX5.out.keeps hB).1
      by_cases hlt : k < LF.length
      · obtain ⟨b1, o1, rfl, g1⟩ := (BX5.out.2.keeps hB) k hlt
        obtain ⟨t, ht, ht6⟩ := okD_at HOKF.out k hlt
        obtain ⟨z, hz⟩ : ∃ z, compZ M (t : Int) = z := ⟨_, rfl⟩
        have hnx : mapL (compZ M) LF (k + 1) = mapL (compZ M) LF k ++ [z] := by rw [mapL_next _ _ _ hlt, ht, hz]
        rw [ht] at g1
        have HZ := Lib.hid hz
        have HNX := Lib.hid hnx
        unfold OwnInts at hO
        have HO := Lib.hid hO
        clear hO hB ht hz hnx
        go_wp2_with fail
        refine (specComp_b M (t : Int) z HZ.out _).mono ?_
        rintro e w' ⟨rfl, rfl⟩
        go_wp2_with (at_builtin; refine wpList_append_own _ rfl _ _ 24 rfl W.heap.size 3 i0 (.int .i64 0) 1 8 Tryz.underlying24 hi hq0 hq1 hq2 rfl (by decide) _ _ _ rfl (HO.out.alloc _) ⟨wr.heap.size, 0, none⟩ 1 1 [.int .i64 z] rfl rfl ?c1 ?c2 ?c3 ?c4 ?c5 ?_)
        case c1 => intro j u hj; exact Mem.cell_new wr _ _ j u hj
        case c2 => first | rfl | (intro u hu; simp at hu; subst hu; rfl)
        case c3 => unfold maxLen; omega
        case c4 => omega
        case c5 => first | omega | (simp; omega)
        intro v' w3 hown1 hgrow _
        have hB3 : Below W.heap.size W w3 := (HB.out.alloc hsz _).grown hgrow (by simp; omega) (fun g hg => (HO.out.lt g hg).1)
        have H1 := Lib.hid hown1
        clear hown1 hgrow
        go_wp2
        go_roundw
        case rel => exact ⟨k + 1, by omega, by go_num, by rw [HNX.out]; exact OwnInts.next H1.out, hB3⟩
        case measure => simp [intOf]; omega
      · have E := Lib.hid (show k = LF.length by omega)
        rw [E.out, mapL_all] at hO
        have hmm : (LF.map (compZ M)).length = LF.length := List.length_map ..
        obtain ⟨a8, c8, g8, hv8, _, hI8⟩ := OwnInts.at hO
        rw [hmm] at hv8
        have HI8 := Lib.hid hI8.ints
        have HMM := Lib.hid hmm
        subst hv8
        clear hO hI8 hB hmm
        go_wp2_with fail
        have hcall := specOrder_any a8 c8 (LF.map (compZ M)) (by rw [HMM.out]; omega) wr HI8.out
        rw [HMM.out] at hcall
        refine hcall.mono ?_
        rintro e w9 ⟨v, rfl, hO, hb⟩
        rw [HORD.out] at hO
        obtain ⟨a9, c9, rfl, hc9, hz9, hr⟩ := OwnInts.atn hO hb.size
        have HI9 := Lib.hid hr
        have HB9 := Lib.hid (HB.out.trans (hb.mono HB.out.size))
        have HCC := Lib.hid ((HIC.out.keeps HB.out).keeps hb)
        clear hO hr hb t0 t1 t2 t3 t4
        go_wp2_with fail
        refine (sameInt_any _ _ _ _ C hC64 _ HI9.out HCC.out).mono ?_
        rintro e wT ⟨rfl, hb⟩
        have HBT := Lib.hid (HB9.out.trans (hb.mono HB9.out.size))
        clear hb
        go_upto_region 21 with fail
        have BY1 := Lib.hid (BX1.out.keeps HBT.out)
        have BY2 := Lib.hid (BX2.out.keeps HBT.out)
        have HBY := Lib.hid (HBW.out.trans (HBT.out.mono HBW.out.size))
        cases hD : BD with
        | false =>
          go_wp2
          go_ret
          exact ⟨rfl, HBY.out⟩
        | true =>
          have hC : isC N1 x1 = true := by have h := EBD.out; rw [hD] at h; unfold dualO at h; rwa [parts_someD] at h
          have hNN : N1 = ND := by rw [← END.out, dualO_yes hC]; rfl
          have hLL : LD = maxQ (dualQ N1.toNat (inF x1)) := by rw [← ELD.out, dualO_yes hC]; rfl
          have hback : dualO N1 LD = some (N1, x1) := by rw [hLL, dualO_yes (dual_isC hC), dual_dual hC]
          have hsz := fun (k : Nat) (hk : (k : Int) ≤ N1) => dual_sized hC hLL k hk
          have hat := fun (k : Nat) (hk : (k : Int) ≤ N1) => dual_at hC hLL k hk
          have hn16 := isC_n hC
          have hlx64 := isC_le hC
          subst hNN
          have HSZ := Lib.hid hsz
          have HBK := Lib.hid hback
          obtain ⟨A, hA⟩ : ∃ A, holF 2 (faces N1 x1) (top (faces N1 x1)) = A := ⟨_, rfl⟩
          obtain ⟨B, hB⟩ : ∃ B, holF 2 (faces N1 LD) (top (faces N1 LD)) = B := ⟨_, rfl⟩
          simp only [hA, hB] at hat
          have hSA := fun W h => holesMod_any 2 (.inl rfl) N1 a1 c1 x1 hl1 W h
          have hSB := fun W h => holesMod_any 2 (.inl rfl) N1 a2 c2 LD hlD W h
          simp only [hA] at hSA
          simp only [hB] at hSB
          have HSA := Lib.hid hSA
          have HSB := Lib.hid hSB
          have HAT := Lib.hid hat
          obtain ⟨m, hm⟩ : ∃ m : Nat, N1 = (m : Int) := ⟨N1.toNat, by omega⟩
          have hm6 : m ≤ 6 := by omega
          have HM := Lib.hid hm
          clear hm
          clear hD hC hLL hback hsz hat hA hB hSA hSB
          obtain ⟨t0, t1, t2, t3, t4⟩ := BY2.out.1
          go_wp2_with fail
          refine (KD.out N1 a2 c2 LD hc2 hlD _ BY2.out.2).mono ?_
          rintro e w6 ⟨v, he, hO, hb⟩
          rw [HBK.out] at he hO
          replace he : e = .returned (.tuple #[cx N1 v, .bool true]) := he
          replace hO : HasInts w6 wT.heap.size v x1 := hO
          subst he
          obtain ⟨a6, c6, _, rfl, hc6, _, hr0, _⟩ := hO
          have hr := hr0.ints
          have hba : Below w6.heap.size w6 (w6.alloc (.cells #[.int .i64 N1, .slice a6 x1.length c6] 26)) := (Below.refl _ _).alloc (Nat.le_refl _) _
          replace BY1 := Lib.hid ((BY1.out.keeps hb).keeps hba)
          replace BY2 := Lib.hid ((BY2.out.keeps hb).keeps hba)
          replace HBY : Hid (Below w.heap.size w (w6.alloc (.cells #[.int .i64 N1, .slice a6 x1.length c6] 26))) := (HBY.out.trans (hb.mono HBY.out.size)).trans (hba.mono (Nat.le_trans HBY.out.size hb.size))
          have BY6 := Lib.hid (Bx.new (n := N1) (c := c6) hr 26)
          clear hr0 hr hb hba t0 t1 t2 t3 t4
          obtain ⟨t0, t1, t2, t3, t4⟩ := BY1.out.1
          obtain ⟨s0, s1, s2, s3, s4⟩ := BY6.out.1
          go_wp2_with fail
          refine (sameCx_any N1 a6 a1 c6 c1 x1 hl1 _ BY6.out.2 BY1.out.2).mono ?_
          rintro e w7 ⟨rfl, hb⟩
          replace BY1 := Lib.hid (BY1.out.keeps hb)
          replace BY2 := Lib.hid (BY2.out.keeps hb)
          replace HBY := Lib.hid (HBY.out.trans (hb.mono HBY.out.size))
          clear hb BY6 t0 t1 t2 t3 t4 s0 s1 s2 s3 s4
          obtain ⟨t0, t1, t2, t3, t4⟩ := BY1.out.1
          go_wp2_with fail
          refine (HSA.out _ BY1.out.2).mono ?_
          rintro e wA ⟨v, rfl, hO, hb⟩
          obtain ⟨aA, cA, rfl, hcA, hzA, hr⟩ := OwnInts.atn hO hb.size
          replace BY1 := Lib.hid (BY1.out.keeps hb)
          replace BY2 := Lib.hid (BY2.out.keeps hb)
          replace HBY := Lib.hid (HBY.out.trans (hb.mono HBY.out.size))
          have HIA := Lib.hid hr
          clear hO hr hb t0 t1 t2 t3 t4
          obtain ⟨t0, t1, t2, t3, t4⟩ := BY2.out.1
          go_wp2_with fail
          refine (HSB.out _ BY2.out.2).mono ?_
          rintro e wB ⟨v, rfl, hO, hb⟩
          obtain ⟨aB, cB, rfl, hcB, hzB, hr⟩ := OwnInts.atn hO hb.size
          replace BY1 := Lib.hid (BY1.out.keeps hb)
          replace BY2 := Lib.hid (BY2.out.keeps hb)
          replace HIA := Lib.hid (HIA.out.keeps hb)
          replace HBY := Lib.hid (HBY.out.trans (hb.mono HBY.out.size))
          have HIB := Lib.hid hr
          clear hO hr hb t0 t1 t2 t3 t4
          go_wp2
          go_loopw [22] (fun i wr => ∃ k : Nat, k ≤ m + 1 ∧ i = .int .i64 (k : Int) ∧ Below wB.heap.size wB wr) (fun i _ => m + 1 - (intOf i).toNat)
          case atStart => exact ⟨0, Nat.zero_le _, rfl, Below.refl _ _⟩
          case round =>
            obtain ⟨k, hk, rfl, hB⟩ := hrel
            have HB := Lib.hid hB
            clear hB
            obtain ⟨t0, t1, t2, t3, t4⟩ := (BY1.out.keeps HB.out).1
            by_cases hlt : k ≤ m
            · have hle : decide ((k : Int) ≤ N1) = true := decide_eq_true (by rw [HM.out]; omega)
              have h1 := HSZ.out k (by rw [HM.out]; omega)
              have h2 := HAT.out k (by rw [HM.out]; omega)
              obtain ⟨y1, hy1⟩ : ∃ y, (sized (k : Int) (faces N1 x1)).length = y := ⟨_, rfl⟩
              obtain ⟨y2, hy2⟩ : ∃ y, (sized (N1 - (k : Int)) (faces N1 LD)).length = y := ⟨_, rfl⟩
              obtain ⟨z, hz⟩ : ∃ z, at0 A (k : Int) = z := ⟨_, rfl⟩
              rw [hy1, hy2, show N1.toNat = m by rw [HM.out]; simp] at h1
              rw [hz] at h2
              have hy4 : y1 + y2 ≤ 20 := by rw [h1]; exact choose_le ⟨m, by omega⟩ ⟨k, by omega⟩
              have HY1 := Lib.hid hy1
              have HY2 := Lib.hid hy2
              have HZ1 := Lib.hid hz
              have H1 := Lib.hid h1.symm
              have H2 := Lib.hid h2.symm
              have HY4 := Lib.hid hy4
              clear hy1 hy2 hz h1 h2 hy4
              go_upto_region 31 with fail
              refine dual_r31 (BY1.out.keeps HB.out) (BY2.out.keeps HB.out) hl1 hlD (HIA.out.keeps HB.out) (HIB.out.keeps HB.out) HM.out hm6 hlt HY1.out HY2.out H1.out HY4.out HZ1.out H2.out ?_
              intro z140 z141 z142 z143 z144 z145 z146 z147 z148 z149 z150 z151 z152 z153 z154 z155 z156 z157 z158 z159 z160 z161 z162 z163 z164 z165 z166 z167 z168 z169 z170 z171 z172 z173 z174 z175 z176 z177 z178 w31 hb
              have HB2 := Lib.hid (HB.out.trans (hb.mono HB.out.size))
              clear hb hle
              go_wp2
              go_roundw
              case rel => exact ⟨k + 1, by omega, by go_num, HB2.out⟩
              case measure => simp [intOf]; omega
            · have hle : decide ((k : Int) ≤ N1) = false := decide_eq_false (by rw [HM.out]; omega)
              go_wp2
              go_ret
              exact ⟨rfl, HBY.out.trans (HB.out.mono HBY.out.size)⟩

end Go.Proofs.YtnpmhofeiflpeaaGreat
