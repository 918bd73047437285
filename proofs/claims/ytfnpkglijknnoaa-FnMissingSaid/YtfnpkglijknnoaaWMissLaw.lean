/-
  THE WALK of the law on missing sets (written by genmisslaw.py).
-/
import Derived.Test.YtfnpkglijknnoaaWMissR11
import Derived.Test.YtfnpkglijknnoaaWMissR13
import Derived.Test.YtfnpkglijknnoaaWMissR18
import Derived.Test.YtfnpkglijknnoaaWMissR23
import Derived.Test.YtfnpkglijknnoaaWDrawMiss
import Derived.Test.YtfnpkglijknnoaaWMissI5
import Derived.Deep.DeepCutAuto
namespace Go.Proofs.Ytfnpkglijknnoaa
open Go.RowKit
open Sets

set_option maxRecDepth 1000000 in
set_option maxHeartbeats 16000000 in
theorem miss_walk (a : Option Addr) (n c : Nat) (hn : n ≤ 9223372036854775807) (w : World) (hc : Code w a n) :
    Calls Try.prog 3 #[.slice a n c] w fun e w' => e = .returned (.bool true) ∧ Below w.heap.size w w' := by
  have HC := Lib.hid hc
  clear hc
  by_cases hbig : 1048576 < (n : Int)
  · go_enter Try.func3, Try.ntmps3
    go_wp2
    go_ret
    exact ⟨rfl, Below.refl _ _⟩
  go_enter Try.func3, Try.ntmps3
  go_wp2_with (go_at_call 10; go_in)
  refine (drawMissing_any a n c (by omega) _ HC.out).mono ?_
  rintro e w1 ⟨N1, v, x1, rfl, hx1, hO, hb⟩
  obtain ⟨a1, c1, rfl, hc1, hz1, hr⟩ := OwnInts.atn hO hb.size
  have hl1 : x1.length ≤ 1099511627776 := Nat.le_trans hx1 (by decide)
  have hba : Below w1.heap.size w1 (w1.alloc (.cells #[.int .i64 N1, .slice a1 x1.length c1] 26)) := (Below.refl _ _).alloc (Nat.le_refl _) _
  have HBW : Hid (Below w.heap.size w (w1.alloc (.cells #[.int .i64 N1, .slice a1 x1.length c1] 26))) := hb.trans (hba.mono hb.size)
  have BX1 := Lib.hid (Bx.new (n := N1) (c := c1) hr 26)
  clear hO hr hb hba
  obtain ⟨M, hMM⟩ : ∃ M, missing N1 x1 = M := ⟨_, rfl⟩
  have hM64 : M.length ≤ 64 := by rw [← hMM]; exact missing_le _ _
  have HOKM := Lib.hid (missing_ok N1 x1)
  rw [hMM] at HOKM
  have HMM := Lib.hid hMM
  clear hMM
  obtain ⟨s0, s1, s2, s3, s4⟩ := BX1.out.1
  go_wp2_with fail
  refine (implMissing_b N1 _ _ x1 M HMM.out hc1 hl1 _ BX1.out.2).mono ?_
  rintro e wM ⟨v, rfl, hO, hb⟩
  obtain ⟨aM, cM, rfl, hcM, _, hr⟩ := OwnInts.atn hO hb.size
  replace BX1 := Lib.hid (BX1.out.keeps hb)
  replace HBW := Lib.hid (HBW.out.trans (hb.mono HBW.out.size))
  have HIM := Lib.hid hr
  clear hO hr hb s0 s1 s2 s3 s4
  go_wp2_with fail
  refine (drawFrom_any a n c (by omega) _ (HC.out.keeps HBW.out)).mono ?_
  rintro e wS ⟨N2, v, xS, rfl, hxS, hO, hb⟩
  obtain ⟨aS, cS, rfl, hcS, _, hr⟩ := OwnInts.atn hO hb.size
  have hlS : xS.length ≤ 1099511627776 := Nat.le_trans hxS (by decide)
  replace BX1 := Lib.hid (BX1.out.keeps hb)
  replace HIM := Lib.hid (HIM.out.keeps hb)
  replace HBW := Lib.hid (HBW.out.trans (hb.mono HBW.out.size))
  have HIS := Lib.hid hr
  clear hO hr hb
  obtain ⟨NF, hN⟩ : ∃ z, oN (fromO N2 xS) = z := ⟨_, rfl⟩
  obtain ⟨LF, hL⟩ : ∃ z, oL (fromO N2 xS) = z := ⟨_, rfl⟩
  obtain ⟨BF, hB⟩ : ∃ z, (fromO N2 xS).isSome = z := ⟨_, rfl⟩
  have hlF : LF.length ≤ 1099511627776 := by rw [← hL]; exact Nat.le_trans (partL_le _ _ _) (by decide)
  have hS := fun W h => specFrom_any N2 aS cS xS hlS W h
  have hG := fun W h => implFrom_any N2 aS cS xS hlS W h
  simp only [hN, hL, hB] at hS hG
  have SF := Lib.hid hS
  have GF := Lib.hid hG
  have ENF := Lib.hid hN
  have ELF := Lib.hid hL
  have EBF := Lib.hid hB
  clear hS hG hN hL hB
  go_wp2_with fail
  refine (GF.out _ HIS.out).mono ?_
  rintro e w2 ⟨v, rfl, hO, hb⟩
  obtain ⟨a2, c2, rfl, hc2, hz2, hr⟩ := OwnInts.atn hO hb.size
  have hba : Below w2.heap.size w2 (w2.alloc (.cells #[.int .i64 NF, .slice a2 LF.length c2] 26)) := (Below.refl _ _).alloc (Nat.le_refl _) _
  replace BX1 := Lib.hid ((BX1.out.keeps hb).keeps hba)
  replace HIM := Lib.hid ((HIM.out.keeps hb).keeps hba)
  replace HIS := Lib.hid ((HIS.out.keeps hb).keeps hba)
  replace HBW : Hid (Below w.heap.size w (w2.alloc (.cells #[.int .i64 NF, .slice a2 LF.length c2] 26))) := (HBW.out.trans (hb.mono HBW.out.size)).trans (hba.mono (Nat.le_trans HBW.out.size hb.size))
  have BX2 := Lib.hid (Bx.new (n := NF) (c := c2) hr 26)
  clear hO hr hb hba
  go_wp2_with fail
  refine (SF.out _ HIS.out).mono ?_
  rintro e w3 ⟨v, rfl, hO, hb⟩
  obtain ⟨a3, c3, rfl, hc3, hz3, hr⟩ := OwnInts.atn hO hb.size
  have hba : Below w3.heap.size w3 (w3.alloc (.cells #[.int .i64 NF, .slice a3 LF.length c3] 26)) := (Below.refl _ _).alloc (Nat.le_refl _) _
  replace BX1 := Lib.hid ((BX1.out.keeps hb).keeps hba)
  replace BX2 := Lib.hid ((BX2.out.keeps hb).keeps hba)
  replace HIM := Lib.hid ((HIM.out.keeps hb).keeps hba)
  replace HIS := Lib.hid ((HIS.out.keeps hb).keeps hba)
  replace HBW : Hid (Below w.heap.size w (w3.alloc (.cells #[.int .i64 NF, .slice a3 LF.length c3] 26))) := (HBW.out.trans (hb.mono HBW.out.size)).trans (hba.mono (Nat.le_trans HBW.out.size hb.size))
  have BX3 := Lib.hid (Bx.new (n := NF) (c := c3) hr 26)
  clear hO hr hb hba
  clear SF GF
  go_wp2_with fail
  refine (drawFlag_any a n c (by omega) _ (HC.out.keeps HBW.out)).mono ?_
  rintro e w4 ⟨N4, v, x4, rfl, hx4, hO, hb⟩
  obtain ⟨a4, c4, rfl, hc4, hz4, hr⟩ := OwnInts.atn hO hb.size
  have hl4 : x4.length ≤ 1099511627776 := Nat.le_trans hx4 (by decide)
  have hba : Below w4.heap.size w4 (w4.alloc (.cells #[.int .i64 N4, .slice a4 x4.length c4] 26)) := (Below.refl _ _).alloc (Nat.le_refl _) _
  replace BX1 := Lib.hid ((BX1.out.keeps hb).keeps hba)
  replace BX2 := Lib.hid ((BX2.out.keeps hb).keeps hba)
  replace BX3 := Lib.hid ((BX3.out.keeps hb).keeps hba)
  replace HIM := Lib.hid ((HIM.out.keeps hb).keeps hba)
  replace HIS := Lib.hid ((HIS.out.keeps hb).keeps hba)
  replace HBW : Hid (Below w.heap.size w (w4.alloc (.cells #[.int .i64 N4, .slice a4 x4.length c4] 26))) := (HBW.out.trans (hb.mono HBW.out.size)).trans (hba.mono (Nat.le_trans HBW.out.size hb.size))
  have BX4 := Lib.hid (Bx.new (n := N4) (c := c4) hr 26)
  clear hO hr hb hba
  obtain ⟨NG, hN⟩ : ∃ z, oN (flagO N1 x1) = z := ⟨_, rfl⟩
  obtain ⟨LG, hL⟩ : ∃ z, oL (flagO N1 x1) = z := ⟨_, rfl⟩
  obtain ⟨BG, hB⟩ : ∃ z, (flagO N1 x1).isSome = z := ⟨_, rfl⟩
  have hlG : LG.length ≤ 1099511627776 := by rw [← hL]; exact Nat.le_trans (partL_le _ _ _) (by decide)
  have hS := fun W h => specFlagOf_any N1 a1 c1 x1 hl1 W h
  have hG := fun W h => implFlagOf_any N1 a1 c1 x1 hc1 hl1 W h
  simp only [hN, hL, hB] at hS hG
  have SG := Lib.hid hS
  have GG := Lib.hid hG
  have ENG := Lib.hid hN
  have ELG := Lib.hid hL
  have EBG := Lib.hid hB
  clear hS hG hN hL hB
  obtain ⟨t0, t1, t2, t3, t4⟩ := BX1.out.1
  go_wp2_with fail
  refine (GG.out _ BX1.out.2).mono ?_
  rintro e w5 ⟨v, rfl, hO, hb⟩
  obtain ⟨a5, c5, rfl, hc5, hz5, hr⟩ := OwnInts.atn hO hb.size
  have hba : Below w5.heap.size w5 (w5.alloc (.cells #[.int .i64 NG, .slice a5 LG.length c5] 26)) := (Below.refl _ _).alloc (Nat.le_refl _) _
  replace BX1 := Lib.hid ((BX1.out.keeps hb).keeps hba)
  replace BX2 := Lib.hid ((BX2.out.keeps hb).keeps hba)
  replace BX3 := Lib.hid ((BX3.out.keeps hb).keeps hba)
  replace BX4 := Lib.hid ((BX4.out.keeps hb).keeps hba)
  replace HIM := Lib.hid ((HIM.out.keeps hb).keeps hba)
  replace HIS := Lib.hid ((HIS.out.keeps hb).keeps hba)
  replace HBW : Hid (Below w.heap.size w (w5.alloc (.cells #[.int .i64 NG, .slice a5 LG.length c5] 26))) := (HBW.out.trans (hb.mono HBW.out.size)).trans (hba.mono (Nat.le_trans HBW.out.size hb.size))
  have BX5 := Lib.hid (Bx.new (n := NG) (c := c5) hr 26)
  clear hO hr hb hba t0 t1 t2 t3 t4
  obtain ⟨t0, t1, t2, t3, t4⟩ := BX1.out.1
  go_wp2_with fail
  refine (SG.out _ BX1.out.2).mono ?_
  rintro e w6 ⟨v, rfl, hO, hb⟩
  obtain ⟨a6, c6, rfl, hc6, hz6, hr⟩ := OwnInts.atn hO hb.size
  have hba : Below w6.heap.size w6 (w6.alloc (.cells #[.int .i64 NG, .slice a6 LG.length c6] 26)) := (Below.refl _ _).alloc (Nat.le_refl _) _
  replace BX1 := Lib.hid ((BX1.out.keeps hb).keeps hba)
  replace BX2 := Lib.hid ((BX2.out.keeps hb).keeps hba)
  replace BX3 := Lib.hid ((BX3.out.keeps hb).keeps hba)
  replace BX4 := Lib.hid ((BX4.out.keeps hb).keeps hba)
  replace BX5 := Lib.hid ((BX5.out.keeps hb).keeps hba)
  replace HIM := Lib.hid ((HIM.out.keeps hb).keeps hba)
  replace HIS := Lib.hid ((HIS.out.keeps hb).keeps hba)
  replace HBW : Hid (Below w.heap.size w (w6.alloc (.cells #[.int .i64 NG, .slice a6 LG.length c6] 26))) := (HBW.out.trans (hb.mono HBW.out.size)).trans (hba.mono (Nat.le_trans HBW.out.size hb.size))
  have BX6 := Lib.hid (Bx.new (n := NG) (c := c6) hr 26)
  clear hO hr hb hba t0 t1 t2 t3 t4
  clear SG GG
  obtain ⟨W, hW⟩ : ∃ W, (w6.alloc (.cells #[.int .i64 NG, .slice a6 LG.length c6] 26)) = W := ⟨_, rfl⟩
  rw [hW] at BX1 BX2 BX3 BX4 BX5 BX6 HIM HIS HBW
  obtain ⟨G, hG⟩ : ∃ G, great N1 x1 = G := ⟨_, rfl⟩
  obtain ⟨U, hU⟩ : ∃ U, fullTo N1 x1 = U := ⟨_, rfl⟩
  have HG := Lib.hid hG
  have HU := Lib.hid hU
  clear hG hU
  go_upto_region 11 with fail
  try rw [hW]
  clear hW
  refine miss_r11 BX1.out BX2.out BX3.out BX4.out BX5.out BX6.out hl1 hl4 hlF hlG HIM.out (Nat.le_trans hM64 (by decide)) HMM.out hc1 hc4 rfl HG.out HU.out ?_
  intro v54 v55 v56 v57 v58 v59 v60 v61 v62 v63 v64 v65 v66 v67 v68 v69 v70 v71 v72 v73 v74 v75 v76 v77 v78 v79 v80 v81 v82 v83 v84 v85 v86 v87 v88 v89 v90 v91 v92 v93 v94 v95 v96 v97 v98 v99 v100 w11 hb
  clear BX3 BX4 BX6
  replace BX1 := Lib.hid (BX1.out.keeps hb)
  replace BX2 := Lib.hid (BX2.out.keeps hb)
  replace BX5 := Lib.hid (BX5.out.keeps hb)
  replace HIM := Lib.hid (HIM.out.keeps hb)
  replace HIS := Lib.hid (HIS.out.keeps hb)
  replace HBW := Lib.hid (HBW.out.trans (hb.mono HBW.out.size))
  clear hb
  go_upto_region 13 with fail
  refine miss_r13 BX2.out hlF HIS.out hlS hc2 ENF.out ELF.out EBF.out ?_
  intro v102 v103 v104 v105 v106 v107 v108 v109 w13 hb
  clear BX2 HIS
  replace BX1 := Lib.hid (BX1.out.keeps hb)
  replace BX5 := Lib.hid (BX5.out.keeps hb)
  replace HIM := Lib.hid (HIM.out.keeps hb)
  replace HBW := Lib.hid (HBW.out.trans (hb.mono HBW.out.size))
  clear hb
  obtain ⟨t0, t1, t2, t3, t4⟩ := BX1.out.1
  cases hC : isC N1 x1 with
  | false =>
    have HCC := Lib.hid hC
    have hM0 : M = [] := by rw [← HMM.out]; exact missing_no hC
    have hBG : BG = false := by rw [← EBG.out]; unfold flagO; rw [parts_someM]; exact hC
    subst hM0
    subst hBG
    clear hC
    go_wp2_with fail
    refine (specIsC_b N1 _ _ x1 false HCC.out hl1 _ BX1.out.2).mono ?_
    rintro e w15 ⟨rfl, hb⟩
    have HBE := Lib.hid (HBW.out.trans (hb.mono HBW.out.size))
    clear hb t0 t1 t2 t3 t4
    go_wp2
    go_ret
    exact ⟨rfl, HBE.out⟩
  | true =>
    have HCC := Lib.hid hC
    have hfo : fromO N1 M = some (N1, x1) := by rw [← HMM.out, fromO_yes (miss_setsOf hC), from_miss hC]
    have hfl : flagO N1 x1 = some (N1, maxQ (avoidQ N1 (small (missing N1 x1)))) := by unfold flagO partO; rw [if_pos hC]
    have hNG : N1 = NG := by rw [← ENG.out, hfl]; rfl
    have hLG : LG = maxQ (avoidQ N1 (small (missing N1 x1))) := by rw [← ELG.out, hfl]; rfl
    have hFG : flagB N1 LG = true := by rw [hLG]; exact flag_flag hC
    have hFC : flagB N1 x1 = true ↔ LG = x1 := by rw [hLG]; exact flag_iff hC
    have hful : ∀ k, k < M.length → fullTo N1 x1 < (pc (M.getD k 0).toNat : Int) := by rw [← HMM.out]; exact fun k hk => full_lt hC k hk
    have hgrt : ∀ k, k < M.length → (pc (M.getD k 0).toNat : Int) ≤ great N1 x1 := by rw [← HMM.out]; exact fun k hk => great_ge k hk
    rw [HU.out] at hful
    rw [HG.out] at hgrt
    clear hfl hLG ENG ELG EBG ENF ELF EBF
    subst hNG
    have HFO := Lib.hid hfo
    have HFG := Lib.hid hFG
    have HFC := Lib.hid hFC
    have HFU := Lib.hid hful
    have HGR := Lib.hid hgrt
    clear hfo hFG hFC hful hgrt hC
    go_wp2_with fail
    refine (specIsC_b N1 _ _ x1 true HCC.out hl1 _ BX1.out.2).mono ?_
    rintro e w15 ⟨rfl, hb⟩
    replace BX1 := Lib.hid (BX1.out.keeps hb)
    replace BX5 := Lib.hid (BX5.out.keeps hb)
    replace HIM := Lib.hid (HIM.out.keeps hb)
    replace HBW := Lib.hid (HBW.out.trans (hb.mono HBW.out.size))
    clear hb t0 t1 t2 t3 t4
    obtain ⟨t0, t1, t2, t3, t4⟩ := BX1.out.1
    go_wp2_with fail
    refine (implFrom_any N1 _ _ M (Nat.le_trans hM64 (by decide)) _ HIM.out).mono ?_
    rintro e w7 ⟨v, he, hO, hb⟩
    rw [HFO.out] at he hO
    replace he : e = .returned (.tuple #[cx N1 v, .bool true]) := he
    replace hO : OwnInts w7 w15.heap.size v x1 := hO
    subst he
    obtain ⟨a7, c7, rfl, hc7, hz7, hr⟩ := OwnInts.atn hO hb.size
    have hba : Below w7.heap.size w7 (w7.alloc (.cells #[.int .i64 N1, .slice a7 x1.length c7] 26)) := (Below.refl _ _).alloc (Nat.le_refl _) _
    replace BX1 := Lib.hid ((BX1.out.keeps hb).keeps hba)
    replace BX5 := Lib.hid ((BX5.out.keeps hb).keeps hba)
    replace HIM := Lib.hid ((HIM.out.keeps hb).keeps hba)
    replace HBW : Hid (Below w.heap.size w (w7.alloc (.cells #[.int .i64 N1, .slice a7 x1.length c7] 26))) := (HBW.out.trans (hb.mono HBW.out.size)).trans (hba.mono (Nat.le_trans HBW.out.size hb.size))
    have BX7 := Lib.hid (Bx.new (n := N1) (c := c7) hr 26)
    clear hO hr hb hba t0 t1 t2 t3 t4
    obtain ⟨W, hW⟩ : ∃ W, (w7.alloc (.cells #[.int .i64 N1, .slice a7 x1.length c7] 26)) = W := ⟨_, rfl⟩
    rw [hW] at BX1 BX5 BX7 HIM HBW
    go_upto_region 18 with fail
    try rw [hW]
    clear hW
    refine miss_r18 BX1.out BX5.out BX7.out hl1 hlG hc1 hc5 HFG.out rfl HFC.out ?_
    intro v128 v129 v130 v131 v132 v133 v134 v135 v136 v137 v138 v139 v140 v141 v142 v143 v144 v145 v146 v147 w18 hb
    clear BX5 BX7
    replace BX1 := Lib.hid (BX1.out.keeps hb)
    replace HIM := Lib.hid (HIM.out.keeps hb)
    replace HBW := Lib.hid (HBW.out.trans (hb.mono HBW.out.size))
    clear hb
    go_wp2
    go_loopw [18] (fun i wr => ∃ k : Nat, k ≤ M.length ∧ i = .int .i64 (k : Int) ∧ Below w18.heap.size w18 wr) (fun i _ => M.length - (intOf i).toNat)
    case atStart => exact ⟨0, Nat.zero_le _, rfl, Below.refl _ _⟩
    case round =>
      obtain ⟨k, hk, rfl, hB⟩ := hrel
      have HB := Lib.hid hB
      clear hB
      by_cases hlt : k < M.length
      · obtain ⟨bM, oM, rfl, hcell⟩ := (HIM.out.keeps HB.out) k hlt
        obtain ⟨t, ht, ht6⟩ := okN_at HOKM.out k hlt
        have hf := HFU.out k hlt
        have hg := HGR.out k hlt
        rw [ht] at hcell hf hg
        rw [Int.toNat_natCast] at hf hg
        have HBX := Lib.hid (BX1.out.keeps HB.out)
        clear ht
        have HCE := Lib.hid hcell
        have HFF := Lib.hid hf
        have HGG := Lib.hid hg
        clear hcell hf hg
        go_upto_region 23 with fail
        refine miss_r23 HBX.out hl1 HCE.out hlt ht6 hc1 HG.out HU.out HFF.out HGG.out ?_
        intro z155 z156 z157 z158 z159 z160 z161 z162 z163 z164 z165 z166 z167 z168 z169 z170 z171 w23 hb
        have HB2 := Lib.hid (HB.out.trans (hb.mono HB.out.size))
        clear hb
        go_wp2
        go_roundw
        case rel => exact ⟨k + 1, by omega, by go_num, HB2.out⟩
        case measure => simp [intOf]; omega
      · go_wp2
        go_ret
        exact ⟨rfl, HBW.out.trans (HB.out.mono HBW.out.size)⟩

end Go.Proofs.Ytfnpkglijknnoaa
