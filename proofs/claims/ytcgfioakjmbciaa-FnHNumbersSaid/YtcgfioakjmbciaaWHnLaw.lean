/-
  THE WALK of the law on h numbers (written by genhlaw.py).
-/
import Derived.Test.YtcgfioakjmbciaaWHnR8
import Derived.Test.YtcgfioakjmbciaaWHnR14
import Derived.Deep.DeepCutAuto
namespace Go.Proofs.Ytcgfioakjmbciaa
open Go.RowKit
open Sets Hn

set_option maxRecDepth 1000000 in
set_option maxHeartbeats 16000000 in
theorem hn_walk (JH : ∀ (n : Int) (a : Option Addr) (c : Nat) (xs : List Int), xs.length ≤ c → xs.length ≤ 1099511627776 → ∀ W : World, Ints W a xs → Calls Try.prog 12 #[cx n (.slice a xs.length c)] W fun e w' => ∃ v, e = .returned v ∧ OwnInts w' W.heap.size v (hnum n xs) ∧ Below W.heap.size W w')
    (JG : ∀ (n : Int) (a : Option Addr) (c : Nat) (xs : List Int), xs.length ≤ c → xs.length ≤ 1099511627776 → ∀ W : World, Ints W a xs → Calls Try.prog 15 #[cx n (.slice a xs.length c)] W fun e w' => ∃ v, e = .returned v ∧ OwnInts w' W.heap.size v (gnum (hnum n xs)) ∧ Below W.heap.size W w')
    (JT : ∀ (n : Int) (a : Option Addr) (c : Nat) (xs : List Int), xs.length ≤ c → xs.length ≤ 1099511627776 → ∀ W : World, Ints W a xs → Calls Try.prog 25 #[cx n (.slice a xs.length c)] W fun e w' => e = .returned (.int .i64 (topZ (hnum n xs))) ∧ Below W.heap.size W w')
    (JS : ∀ (n : Int) (a : Option Addr) (c : Nat) (xs : List Int), xs.length ≤ c → xs.length ≤ 1099511627776 → ∀ W : World, Ints W a xs → Calls Try.prog 23 #[cx n (.slice a xs.length c)] W fun e w' => e = .returned (.bool (symB (hnum n xs))) ∧ Below W.heap.size W w')
    (JF : ∀ (a : Option Addr) (c : Nat) (xs : List Int), xs.length ≤ 1099511627776 → ∀ W : World, Ints W a xs → Calls Try.prog 18 #[.slice a xs.length c] W fun e w' => ∃ v, e = .returned v ∧ OwnInts w' W.heap.size v (fromH xs) ∧ Below W.heap.size W w')
    (JC : ∀ (x y : Int) (W : World), Calls Try.prog 20 #[.int .i64 x, .int .i64 y] W fun e w' => e = .returned (.int .i64 (chZ x y)) ∧ Below W.heap.size W w')
    (a : Option Addr) (n c : Nat) (hn : n ≤ 9223372036854775807) (w : World) (hc : Code w a n) :
    Calls Try.prog 3 #[.slice a n c] w fun e w' => e = .returned (.bool true) ∧ Below w.heap.size w w' := by
  have HC := Lib.hid hc
  clear hc
  by_cases hbig : 1048576 < (n : Int)
  · go_enter Try.func3, Try.ntmps3
    go_wp2
    go_ret
    exact ⟨rfl, Below.refl _ _⟩
  have KH := Lib.hid JH
  have KG := Lib.hid JG
  have KT := Lib.hid JT
  have KS := Lib.hid JS
  have KF := Lib.hid JF
  have KC := Lib.hid JC
  clear JH JG JT JS JF JC
  go_enter Try.func3, Try.ntmps3
  go_wp2_with (go_at_call 10; go_in)
  refine (drawH_any a n c (by omega) _ HC.out).mono ?_
  rintro e w1 ⟨N1, v, x1, rfl, hx1, hO, hb⟩
  obtain ⟨a1, c1, rfl, hc1, hz1, hr⟩ := OwnInts.atn hO hb.size
  have hl1 : x1.length ≤ 1099511627776 := Nat.le_trans hx1 (by decide)
  have hba : Below w1.heap.size w1 (w1.alloc (.cells #[.int .i64 N1, .slice a1 x1.length c1] 26)) := (Below.refl _ _).alloc (Nat.le_refl _) _
  have HBW : Hid (Below w.heap.size w (w1.alloc (.cells #[.int .i64 N1, .slice a1 x1.length c1] 26))) := hb.trans (hba.mono hb.size)
  have BX1 := Lib.hid (Bx.new (n := N1) (c := c1) hr 26)
  clear hO hr hb hba
  obtain ⟨LH, hLH⟩ : ∃ z, hnum N1 x1 = z := ⟨_, rfl⟩
  have hlh7 : LH.length ≤ 7 := by rw [← hLH]; exact hnum_le7 _ _
  obtain ⟨LG, hLG⟩ : ∃ z, gnum LH = z := ⟨_, rfl⟩
  have hlg7 : LG.length ≤ 1048576 := by rw [← hLG, ← hLH]; exact gnum_le _ _
  have hH := fun W h => KH.out N1 a1 c1 x1 hc1 hl1 W h
  have hG := fun W h => KG.out N1 a1 c1 x1 hc1 hl1 W h
  simp only [hLH] at hH hG
  simp only [hLG] at hG
  have GH := Lib.hid hH
  have GG := Lib.hid hG
  have HLH := Lib.hid hLH
  have HLG := Lib.hid hLG
  clear hH hG hLH hLG
  obtain ⟨t0, t1, t2, t3, t4⟩ := BX1.out.1
  go_wp2_with fail
  refine (GH.out _ BX1.out.2).mono ?_
  rintro e w4 ⟨v, rfl, hO, hb⟩
  obtain ⟨a4, c4, rfl, hc4, hz4, hr⟩ := OwnInts.atn hO hb.size
  replace BX1 := Lib.hid (BX1.out.keeps hb)
  replace HBW := Lib.hid (HBW.out.trans (hb.mono HBW.out.size))
  have I4 := Lib.hid hr
  clear hO hr hb t0 t1 t2 t3 t4
  go_wp2_with fail
  refine (drawFrom_any a n c (by omega) _ (HC.out.keeps HBW.out)).mono ?_
  rintro e w5 ⟨v, x5, rfl, hx5, hO, hb⟩
  obtain ⟨a5, c5, rfl, hc5, hz5, hr⟩ := OwnInts.atn hO hb.size
  replace BX1 := Lib.hid (BX1.out.keeps hb)
  replace I4 := Lib.hid (I4.out.keeps hb)
  replace HBW := Lib.hid (HBW.out.trans (hb.mono HBW.out.size))
  have I5 := Lib.hid hr
  clear hO hr hb
  go_wp2_with fail
  refine (drawChoose_any a n c (by omega) _ (HC.out.keeps HBW.out)).mono ?_
  rintro e w6 ⟨z6, z7, rfl, hb⟩
  replace BX1 := Lib.hid (BX1.out.keeps hb)
  replace I4 := Lib.hid (I4.out.keeps hb)
  replace I5 := Lib.hid (I5.out.keeps hb)
  replace HBW := Lib.hid (HBW.out.trans (hb.mono HBW.out.size))
  clear hb
  obtain ⟨t0, t1, t2, t3, t4⟩ := BX1.out.1
  go_wp2_with fail
  refine (GG.out _ BX1.out.2).mono ?_
  rintro e w8 ⟨v, rfl, hO, hb⟩
  obtain ⟨a8, c8, rfl, hc8, hz8, hr⟩ := OwnInts.atn hO hb.size
  replace BX1 := Lib.hid (BX1.out.keeps hb)
  replace I4 := Lib.hid (I4.out.keeps hb)
  replace I5 := Lib.hid (I5.out.keeps hb)
  replace HBW := Lib.hid (HBW.out.trans (hb.mono HBW.out.size))
  have I8 := Lib.hid hr
  clear hO hr hb t0 t1 t2 t3 t4
  go_upto_region 8 with fail
  refine hn_r8 BX1.out hl1 I4.out (by omega) I5.out (by omega) I8.out (by omega) hc1 HLH.out HLG.out KT.out KS.out KF.out KC.out ?_
  intro v26 v27 v28 v29 v30 v31 v32 v33 v34 v35 v36 v37 v38 v39 v40 v41 v42 v43 v44 v45 v46 v47 v48 v49 v50 v51 v52 v53 v54 v55 v56 v57 v58 v59 v60 v61 v62 v63 v64 v65 v66 v67 wR hb
  replace BX1 := Lib.hid (BX1.out.keeps hb)
  replace I4 := Lib.hid (I4.out.keeps hb)
  replace I5 := Lib.hid (I5.out.keeps hb)
  replace I8 := Lib.hid (I8.out.keeps hb)
  replace HBW := Lib.hid (HBW.out.trans (hb.mono HBW.out.size))
  clear hb I5 GH GG
  have hjt := KT.out N1 a1 c1 x1 hc1 hl1
  rw [HLH.out] at hjt
  have GT := Lib.hid hjt
  clear hjt
  by_cases h0 : LH.length = 0
  · obtain rfl := List.eq_nil_of_length_eq_zero h0
    have hg0 : LG = [] := by rw [← HLG.out]; rfl
    subst hg0
    have hT0 : topZ [] = 0 := rfl
    rw [hT0] at GT
    simp only [List.length_nil]
    obtain ⟨t0, t1, t2, t3, t4⟩ := BX1.out.1
    clear h0 hlh7 hlg7 hT0
    go_wp2_with fail
    refine (GT.out _ BX1.out.2).mono ?_
    rintro e wT ⟨rfl, hb⟩
    replace HBW := Lib.hid (HBW.out.trans (hb.mono HBW.out.size))
    clear hb t0 t1 t2 t3 t4
    go_wp2
    go_ret
    exact ⟨rfl, HBW.out⟩
  · have hpos : 0 < LH.length := by omega
    have hz : ((LH.length : Int) == 0) = false := by rw [beq_eq_false_iff_ne]; omega
    have hlg2 : (LG.length : Int) = ((LH.length : Int) - 1) / 2 + 1 := by rw [← HLG.out, gnum_length _ hpos]; omega
    have HLG2 := Lib.hid hlg2
    clear h0 hlg2
    obtain ⟨t0, t1, t2, t3, t4⟩ := BX1.out.1
    go_upto_region 14 with fail
    refine hn_r14 BX1.out hl1 I4.out (by omega) hpos hc1 HLH.out HLG2.out rfl rfl KT.out KF.out ?_
    intro v87 v88 v89 v90 v91 v92 v93 v94 v95 v96 v97 v98 v99 v100 v101 v102 v103 v104 v105 v106 v107 v108 v109 v110 v111 v112 v113 wS hb
    replace HBW := Lib.hid (HBW.out.trans (hb.mono HBW.out.size))
    clear hb t0 t1 t2 t3 t4
    go_wp2
    go_ret
    exact ⟨rfl, HBW.out⟩

end Go.Proofs.Ytcgfioakjmbciaa
