/-
  TEXTS of one claim, put together: WDualI, WDualJ, WDualK, OpenB.
-/
import Derived.Test.YtnpmhofeiflpeaaGreatJg14
import Derived.Test.YtnpmhofeiflpeaaGreatJg18
import Derived.Laws.EntriesVeiled
import Derived.ProofKit
import Derived.SizedLaws
/-! WALKS: impl's chapter 8: the dual complex. -/

namespace Go.Proofs.YtnpmhofeiflpeaaGreat
open Go.RowKit
open Sets Hom

theorem comp_andNot : ∀ n : Fin 7, ∀ s : Fin 64, s.val < 2 ^ n.val → bits BinOp.andNot IntKind.i64 ((2 ^ n.val - 1 : Nat) : Int) (s.val : Int) = ((2 ^ n.val - 1 - s.val : Nat) : Int) := by decide +kernel
theorem comp_bits {n : Int} {s : Nat} (h : setB n (s : Int) = true) : bits BinOp.andNot IntKind.i64 (2 ^ n.toNat - 1) (s : Int) = compZ n (s : Int) := by
  rw [compZ_nat h]
  have hh := (setB_iff _ _).1 h
  have hs := okZ_nat s |>.1 (setB_ok h)
  rw [setB_lt n s hh.1 hh.2.1, decide_eq_true_iff] at h
  have := comp_andNot ⟨n.toNat, by omega⟩ ⟨s, hs⟩ h
  dsimp only at this
  rw [← this]
  have e : ((2 ^ n.toNat - 1 : Nat) : Int) = 2 ^ n.toNat - 1 := by
    have h1 : 1 ≤ 2 ^ n.toNat := Nat.one_le_two_pow
    have := two_pow_cast n.toNat
    omega
  rw [e]

set_option maxRecDepth 100000 in
set_option maxHeartbeats 2000000 in
theorem compIn_any (n : Int) (h0 : 0 ≤ n) (h6 : n ≤ 6) (w : World) :
    Calls Tryz.prog 28 #[.int .i64 n] w fun e w' => ∃ B : Nat, e = .returned (.func (.func 64) #[] #[.pointer (some ⟨B, 0, none⟩)]) ∧ w.heap.size ≤ B ∧ B < w'.heap.size ∧ w'.cell? ⟨B, 0, none⟩ = some (.int .i64 (2 ^ n.toNat - 1)) ∧ Below w.heap.size w w' := by
  rcases seven n h0 h6 with rfl | rfl | rfl | rfl | rfl | rfl | rfl <;>
  · go_enter Tryz.func28, Tryz.ntmps28
    go_wp2
    go_ret
    exact ⟨_, rfl, Nat.le_refl _, by simp, by simp, (Below.refl _ _).alloc (Nat.le_refl _) _⟩

set_option maxRecDepth 100000 in
theorem comp1_any (s : Int) (B : Nat) (M z : Int) (ha : bits BinOp.andNot IntKind.i64 M s = z) (w : World) (hk : w.cell? ⟨B, 0, none⟩ = some (.int .i64 M)) :
    Calls Tryz.prog 64 #[.int .i64 s, .pointer (some ⟨B, 0, none⟩)] w fun e w' => e = .returned (.int .i64 z) ∧ w = w' := by
  go_enter Tryz.func64, Tryz.ntmps64
  go_wp2
  go_ret
  exact ⟨rfl, rfl⟩

set_option maxRecDepth 100000 in
set_option maxHeartbeats 2000000 in
theorem implComp_any (n s : Int) (w : World) :
    Calls Tryz.prog 13 #[.int .i64 n, .int .i64 s] w fun e w' => e = .returned (.int .i64 (compZ n s)) ∧ Below w.heap.size w w' := by
  cases hS : setB n s with
  | false =>
    have HS := Lib.hid hS
    have HZ : Hid (compZ n s = -1) := by
      have : compZ n s = -1 := by unfold compZ; rw [if_neg (by rw [hS]; simp)]
      exact this
    clear hS
    rw [HZ.out]
    go_enter Tryz.func13, Tryz.ntmps13
    go_wp2_with fail
    refine (isSet_b n s false HS.out _).mono ?_
    rintro e w' ⟨rfl, rfl⟩
    go_wp2
    go_ret
    exact ⟨rfl, Below.refl _ _⟩
  | true =>
    obtain ⟨t, rfl, ht⟩ := okZ_cast s (setB_ok hS)
    have hh := (setB_iff _ _).1 hS
    have h0 := hh.1
    have h6 := hh.2.1
    have HA := Lib.hid (comp_bits hS)
    have HS := Lib.hid hS
    generalize compZ n (t : Int) = z at *
    clear hh hS
    have eg : ∀ args w, (callFunc 64 args).run Tryz.prog w = .ok (.enter 64 args) w := enters_of Tryz.func64 (by kernel_rfl) rfl
    go_enter Tryz.func13, Tryz.ntmps13
    go_wp2_with fail
    refine (isSet_b n t true HS.out _).mono ?_
    rintro e w' ⟨rfl, rfl⟩
    go_wp2_with fail
    refine (compIn_any n h0 h6 _).mono ?_
    rintro e w1 ⟨B, rfl, hB1, hB2, hk, hb⟩
    have HK := Lib.hid hk
    have HB := Lib.hid hb
    clear hk hb
    go_wp2_with (go_at_fn 64; refine (comp1_any t B _ z HA.out _ HK.out).mono ?_; rintro e w' ⟨rfl, rfl⟩)
    go_ret
    exact ⟨rfl, HB.out⟩

set_option maxRecDepth 100000 in
set_option maxHeartbeats 4000000 in
theorem dual1_pred (n : Int) (a : Option Addr) (c : Nat) (xs : List Int) (hC : isC n xs = true) (hlen : xs.length ≤ 1099511627776) (B K A : Nat) (w : World) (h2 : Two w B (.int .i64 n) (.slice a xs.length c)) (hK : K < w.heap.size) (hk : w.cell? ⟨K, 0, none⟩ = some (.func (.func 64) #[] #[.pointer (some ⟨A, 0, none⟩)])) (hA : A < w.heap.size) (ha : w.cell? ⟨A, 0, none⟩ = some (.int .i64 (2 ^ n.toNat - 1))) (h : Ints w a xs) :
    PredB 30 #[.pointer (some ⟨B, 0, none⟩), .pointer (some ⟨K, 0, none⟩)] (dualQ n.toNat (inF xs)) w := by
  intro W s hs hb
  have HH := Lib.hid (h.keeps hb)
  have hTB := h2.keeps hb
  have TB := Lib.hid hTB
  obtain ⟨t0, t1, t2, _, _⟩ := hTB
  have k1 := (hb.cell (p := ⟨K, 0, none⟩) hK).trans hk
  have hKB := Lib.hid (fun (W' : World) (hW : Below W.heap.size W W') => (hW.cell (p := ⟨K, 0, none⟩) (Nat.lt_of_lt_of_le hK hb.size)).trans k1)
  have a1 := (hb.cell (p := ⟨A, 0, none⟩) hA).trans ha
  have hAB := Lib.hid (fun (W' : World) (hW : Below W.heap.size W W') => (hW.cell (p := ⟨A, 0, none⟩) (Nat.lt_of_lt_of_le hA hb.size)).trans a1)
  show Calls Tryz.prog 30 #[.int .i64 (s : Int), .pointer (some ⟨B, 0, none⟩), .pointer (some ⟨K, 0, none⟩)] W fun e w' => e = .returned (.bool (dualQ n.toNat (inF xs) s)) ∧ Below W.heap.size W w'
  have hn := isC_n hC
  have HOK := Lib.hid (isC_ok hC)
  have hlt := setB_lt n s (by omega) (by omega)
  clear h2 hk h hb ha a1 hC
  cases hS : setB n (s : Int) with
  | false =>
    have HF : Hid (dualQ n.toNat (inF xs) s = false) := by
      have : dualQ n.toNat (inF xs) s = false := by unfold dualQ; rw [← hlt, hS]; rfl
      exact this
    have HS := Lib.hid hS
    rw [HF.out]
    clear hS hlt
    go_enter Tryz.func30, Tryz.ntmps30
    go_wp2_with fail
    first | (go_region_law (first | (go_simp; go_at_call 31; refine (isSet_b n s false HS.out _).mono ?_; rintro e w' ⟨rfl, rfl⟩) | fail "arm")) | fail "region"
    all_goals
      go_wp2_with fail
      go_ret
      exact ⟨rfl, bdrew1 _⟩
  | true =>
    have HS := Lib.hid hS
    have HA := Lib.hid (comp_bits hS)
    have hz := compZ_nat hS
    have hzl : 2 ^ n.toNat - 1 - s < 64 := by have := pow_le64 n hn.1 hn.2; omega
    obtain ⟨b, hb⟩ : ∃ b, inF xs (2 ^ n.toNat - 1 - s) = b := ⟨_, rfl⟩
    have HF : Hid (dualQ n.toNat (inF xs) s = !b) := by
      have : dualQ n.toNat (inF xs) s = !b := by unfold dualQ; rw [← hlt, hS, hb]; rfl
      exact this
    have HBV := Lib.hid ((inFZ_nat xs _ hzl).trans hb)
    rw [HF.out]
    obtain ⟨z, hzz⟩ : ∃ z, 2 ^ n.toNat - 1 - s = z := ⟨_, rfl⟩
    rw [hzz] at hz hzl HBV
    rw [hz] at HA
    clear hS hlt hz hb hzz
    have eg : ∀ args w, (callFunc 64 args).run Tryz.prog w = .ok (.enter 64 args) w := enters_of Tryz.func64 (by kernel_rfl) rfl
    go_enter Tryz.func30, Tryz.ntmps30
    go_wp2_with fail
    go_region_held3 (fun w' => w'.cell? ⟨B, 0, none⟩ = some (.int .i64 n) ∧ w'.cell? ⟨B, 1, none⟩ = some (.slice a xs.length c) ∧ w'.cell? ⟨K, 0, none⟩ = some (.func (.func 64) #[] #[.pointer (some ⟨A, 0, none⟩)]) ∧ Below W.heap.size W w') (first | (exact ⟨(TB.out.keeps (bdrew1 _)).2.1, (TB.out.keeps (bdrew1 _)).2.2.1, hKB.out _ (bdrew1 _), bdrew1 _⟩) | (exact ⟨(TB.out.keeps (below_fresh hb1)).2.1, (TB.out.keeps (below_fresh hb1)).2.2.1, hKB.out _ (below_fresh hb1), below_fresh hb1⟩) | fail "keep") (first | (go_at_call 31; refine (isSet_b n s true HS.out _).mono ?_; rintro e w' ⟨rfl, rfl⟩) | (go_at_fn 64; refine (comp1_any s A _ z HA.out _ (hAB.out _ (bdrew1 _))).mono ?_; rintro e w' ⟨rfl, rfl⟩) | (go_at_call 32; refine (inFacet_any n a c xs HOK.out hlen (z : Int) (by omega) b HBV.out _ (Ints.drew HH.out)).mono ?_; rintro e w1 ⟨rfl, hb1⟩) | fail "arm")
    all_goals
      have hb2 := below_fresh hb1
      go_wp2_with fail
      go_ret
      exact ⟨rfl, hb2⟩

end Go.Proofs.YtnpmhofeiflpeaaGreat

/-! WALKS: impl.DualOf, impl.IsSelfDual. -/

namespace Go.Proofs.YtnpmhofeiflpeaaGreat
open Go.RowKit
open Sets Hom

theorem dual_fam {n : Int} {xs : List Int} (h : isC n xs = true) : Fam n (dualQ n.toNat (inF xs)) := by
  have hn := isC_n h
  refine ⟨dualQ_down (by omega) (inF_down xs), fun t _ ht => ?_⟩
  rw [setB_lt n t (by omega) (by omega), decide_eq_true_iff]
  exact ((dualQ_iff _ _ _).1 ht).1

set_option maxRecDepth 100000 in
set_option maxHeartbeats 4000000 in
theorem implDual_any (n : Int) (a : Option Addr) (c : Nat) (xs : List Int) (hcap : xs.length ≤ c) (hlen : xs.length ≤ 1099511627776) (w : World) (h : Ints w a xs) :
    Calls Tryz.prog 6 #[cx n (.slice a xs.length c)] w fun e w' => ∃ v, e = .returned (.tuple #[cx (oN (dualO n xs)) v, .bool (dualO n xs).isSome]) ∧ OwnInts w' w.heap.size v (oL (dualO n xs)) ∧ Below w.heap.size w w' := by
  have hb0 : Below w.heap.size w ((w.alloc (Obj.cells #[Value.int IntKind.i64 n, Value.slice a xs.length c] 26)).alloc (Obj.cells #[Value.int IntKind.i64 0, Value.slice none 0 0] 26)) := ((Below.refl _ _).alloc (Nat.le_refl _) _).alloc (by simp) _
  have htc := (Two.new w (.int .i64 n) (.slice a xs.length c) 26).alloc (.cells #[.int .i64 0, .slice none 0 0] 26)
  have htr := Two.new (w.alloc (.cells #[.int .i64 n, .slice a xs.length c] 26)) (.int .i64 0) (.slice none 0 0) 26
  rw [World.size_alloc] at htr
  obtain ⟨br, hbr⟩ : ∃ br, w.heap.size + 1 = br := ⟨_, rfl⟩
  rw [hbr] at htr
  have hwb : w.heap.size < br := by omega
  have TC := Lib.hid htc
  have TR := Lib.hid htr
  have HH := Lib.hid (h.keeps hb0)
  have HB0 := Lib.hid hb0
  have HBR := Lib.hid hbr
  clear h htr hb0 htc hbr
  obtain ⟨t0, t1, t2, _, _⟩ := TC.out
  cases hC : isC n xs with
  | false =>
    have HC := Lib.hid hC
    rw [dualO_no hC]
    clear hC
    go_enter Tryz.func6, Tryz.ntmps6
    go_wp2_with fail
    refine (implIsC_b n _ _ xs hcap false HC.out hlen _ HH.out).mono ?_
    rintro e w1 ⟨rfl, hb1⟩
    try rw [HBR.out]
    obtain ⟨r0, r1, r2, r3, r4⟩ := TR.out.keeps hb1
    have HB1 : Hid (Below w.heap.size w w1) := HB0.out.trans (hb1.mono HB0.out.size)
    clear hb1 t0 t1 t2
    go_wp2
    refine ret_cx2 br rfl rfl rfl (x := .int .i64 0) (y := .slice none 0 0) (by go_simp) (by go_simp) rfl ?_
    exact ⟨_, rfl, OwnInts.nil _ _, by first | exact (HB1.out.setCell (by dsimp only; omega) _).setCell (by dsimp only; omega) _ | exact HB1.out⟩
  | true =>
    have HC := Lib.hid hC
    have hn := isC_n hC
    obtain ⟨hn1, hn2⟩ := hn
    have HN := Lib.hid ((inB_iff _ _ _).2 (isC_n hC))
    have HF := Lib.hid (dual_fam hC)
    rw [dualO_yes hC]
    clear hC
    have eg : ∀ args w, (callFunc 30 args).run Tryz.prog w = .ok (.enter 30 args) w := enters_of Tryz.func30 (by kernel_rfl) rfl
    have EG := Lib.hid eg
    clear eg
    go_enter Tryz.func6, Tryz.ntmps6
    go_wp2_with fail
    refine (implIsC_b n _ _ xs hcap true HC.out hlen _ HH.out).mono ?_
    rintro e w1 ⟨rfl, hb1⟩
    try rw [HBR.out]
    have HB1 : Hid (Below w.heap.size w w1) := HB0.out.trans (hb1.mono HB0.out.size)
    have HI1 := Lib.hid (HH.out.keeps hb1)
    have TC1 := Lib.hid (TC.out.keeps hb1)
    have TR1 := Lib.hid (TR.out.keeps hb1)
    clear t0 t1 t2 hb1 HH TC TR HB0
    obtain ⟨t0, t1, t2, _, _⟩ := TC1.out
    have hsz1 := HB1.out.size
    go_wp2_with fail
    refine (compIn_any n (by omega) hn2 _).mono ?_
    rintro e w2 ⟨A, rfl, hA1, hA2, hkA, hb2⟩
    have hba : Below w2.heap.size w2 (w2.alloc (Obj.cells #[Value.func (Fn.func 64) #[] #[Value.pointer (some ⟨A, 0, none⟩)]] 46)) := (Below.refl _ _).alloc (Nat.le_refl _) _
    have hb3 := hb2.trans (hba.mono hb2.size)
    have HB3 : Hid (Below w.heap.size w (w2.alloc (Obj.cells #[Value.func (Fn.func 64) #[] #[Value.pointer (some ⟨A, 0, none⟩)]] 46))) := HB1.out.trans (hb3.mono hsz1)
    have hI3 := HI1.out.keeps hb3
    have htc3 := TC1.out.keeps hb3
    have TC3 := Lib.hid htc3
    have TR3 := Lib.hid (TR1.out.keeps hb3)
    have hA3 := (hba.cell (p := ⟨A, 0, none⟩) hA2).trans hkA
    have hK3 : (w2.alloc (Obj.cells #[Value.func (Fn.func 64) #[] #[Value.pointer (some ⟨A, 0, none⟩)]] 46)).cell? ⟨w2.heap.size, 0, none⟩ = some (Value.func (Fn.func 64) #[] #[Value.pointer (some ⟨A, 0, none⟩)]) := by simp
    have hs3 : (w2.alloc (Obj.cells #[Value.func (Fn.func 64) #[] #[Value.pointer (some ⟨A, 0, none⟩)]] 46)).heap.size = w2.heap.size + 1 := by simp
    have hP : ∀ W : World, Below (w2.alloc (Obj.cells #[Value.func (Fn.func 64) #[] #[Value.pointer (some ⟨A, 0, none⟩)]] 46)).heap.size (w2.alloc (Obj.cells #[Value.func (Fn.func 64) #[] #[Value.pointer (some ⟨A, 0, none⟩)]] 46)) W → PredB 30 #[.pointer (some ⟨w.heap.size, 0, none⟩), .pointer (some ⟨w2.heap.size, 0, none⟩)] (dualQ n.toNat (inF xs)) W := fun W hW =>
      dual1_pred n a c xs HC.out hlen w.heap.size w2.heap.size A W (htc3.keeps hW) (Nat.lt_of_lt_of_le (by omega) hW.size) ((hW.cell (p := ⟨w2.heap.size, 0, none⟩) (by dsimp only; omega)).trans hK3) (Nat.lt_of_lt_of_le (by omega) hW.size) ((hW.cell (p := ⟨A, 0, none⟩) (by dsimp only; omega)).trans hA3) (hI3.keeps hW)
    have HP := Lib.hid hP
    clear t0 t1 t2 hP hA3 hK3 hI3 htc3 hb3 hba hkA hb2 TC1 TR1 HI1
    obtain ⟨t0, t1, t2, _, _⟩ := TC3.out
    have hsz3 := HB3.out.size
    go_wp2_with fail
    refine (partWhere_any n _ _ (dualQ n.toNat (inF xs)) _ HN.out HF.out EG.out HP.out).mono ?_
    rintro e w6 ⟨v, rfl, hO2, hb6⟩
    obtain ⟨a2, c2x, g2, rfl, hc2, hg2, hr2, _⟩ := OwnInts.ata hO2 hb6.size
    have hzb := TR3.out.1
    obtain ⟨r0, r1, r2, r3, r4⟩ := TR3.out.keeps hb6
    have HO2 := Lib.hid hO2
    have HB6 : Hid (Below w.heap.size w w6) := HB3.out.trans (hb6.mono hsz3)
    clear hO2 hr2 hb6 t0 t1 t2
    go_wp2
    refine ret_cx2 br rfl rfl rfl (x := .int .i64 n) (y := .slice a2 (maxQ (dualQ n.toNat (inF xs))).length c2x) (by go_simp) (by go_simp) rfl ?_
    exact ⟨_, rfl, (OwnInts.set (OwnInts.set HO2.out _ _ _ hzb) _ _ _ hzb).lower hsz3, (HB6.out.setCell (by dsimp only; omega) _).setCell (by dsimp only; omega) _⟩

set_option maxRecDepth 100000 in
set_option maxHeartbeats 2000000 in
theorem implSelf_any (n : Int) (a : Option Addr) (c : Nat) (xs : List Int) (hcap : xs.length ≤ c) (hlen : xs.length ≤ 1099511627776) (w : World) (h : Ints w a xs) :
    Calls Tryz.prog 15 #[cx n (.slice a xs.length c)] w fun e w' => e = .returned (.bool (selfB n xs)) ∧ Below w.heap.size w w' := by
  have hb0 : Below w.heap.size w (w.alloc (.cells #[.int .i64 n, .slice a xs.length c] 26)) := (Below.refl _ _).alloc (Nat.le_refl _) _
  have HH := Lib.hid (h.keeps hb0)
  have HB0 := Lib.hid hb0
  have TC := Lib.hid (Two.new w (.int .i64 n) (.slice a xs.length c) 26)
  clear h hb0
  obtain ⟨t0, t1, t2, _, _⟩ := TC.out
  obtain ⟨D, hD⟩ : ∃ D, dualO n xs = D := ⟨_, rfl⟩
  have hl : (oL D).length ≤ 64 := by rw [← hD]; exact partLD_le _ _ _
  have HD := Lib.hid (fun W (hh : Ints W a xs) => implDual_any n a c xs hcap hlen W hh)
  rw [hD] at HD
  have HS : Hid (selfB n xs = (D.isSome && eqC n (oN D) xs (oL D))) := by
    have : selfB n xs = (D.isSome && eqC n (oN D) xs (oL D)) := by
      rw [← hD]
      unfold selfB
      cases hC : isC n xs with
      | false => rw [dualO_no hC]; rfl
      | true =>
        rw [dualO_yes hC]
        show (true && _) = (true && eqC n n xs (maxQ (dualQ n.toNat (inF xs))))
        rw [eqC_same]
    exact this
  clear hD
  go_enter Tryz.func15, Tryz.ntmps15
  go_wp2_with fail
  refine (HD.out _ HH.out).mono ?_
  rintro e w1 ⟨v, rfl, hO, hb1⟩
  obtain ⟨a2, c2, g2, rfl, hc2, hg2, hr2, _⟩ := OwnInts.ata hO hb1.size
  have hsz0 := hb1.size
  have hba : Below w1.heap.size w1 (w1.alloc (.cells #[.int .i64 (oN D), .slice a2 (oL D).length c2] 26)) := (Below.refl _ _).alloc (Nat.le_refl _) _
  have HX := Lib.hid ((HH.out.keeps hb1).keeps hba)
  have HY := Lib.hid ((hr2.ints).keeps hba)
  have TC2 := Lib.hid ((TC.out.keeps hb1).keeps hba)
  have TD2 := Lib.hid (Two.new w1 (.int .i64 (oN D)) (.slice a2 (oL D).length c2) 26)
  have HB2 : Hid (Below w.heap.size w (w1.alloc (.cells #[.int .i64 (oN D), .slice a2 (oL D).length c2] 26))) := (HB0.out.trans (hb1.mono HB0.out.size)).trans (hba.mono (Nat.le_trans HB0.out.size hb1.size))
  clear t0 t1 t2 hO hb1 hr2 hba HH TC
  obtain ⟨t0, t1, t2, _, _⟩ := TC2.out
  obtain ⟨s0, s1, s2, _, _⟩ := TD2.out
  cases hs : D.isSome with
  | false =>
    have HR : Hid (selfB n xs = false) := by
      have := HS.out
      rw [hs] at this; exact this
    go_wp2
    go_ret
    exact ⟨by rw [HR.out]; rfl, HB2.out⟩
  | true =>
    obtain ⟨b, hb⟩ : ∃ b, eqC n (oN D) xs (oL D) = b := ⟨_, rfl⟩
    have HR : Hid (selfB n xs = b) := by
      have := HS.out
      rw [hs, hb] at this; exact this
    have HB := Lib.hid hb
    clear hb
    have hsz2 := HB2.out.size
    go_wp2_with fail
    have hcall := implEqual_any n (oN D) a a2 c c2 xs (oL D) hlen (Nat.le_trans hl (by decide)) hcap hc2 _ HX.out HY.out
    rw [HB.out] at hcall
    refine hcall.mono ?_
    rintro e w3 ⟨rfl, hb3⟩
    go_wp2
    go_ret
    exact ⟨by rw [HR.out]; rfl, HB2.out.trans (hb3.mono hsz2)⟩

end Go.Proofs.YtnpmhofeiflpeaaGreat

/-! WALKS: impl.CoversOf. -/

namespace Go.Proofs.YtnpmhofeiflpeaaGreat
open Go.RowKit
open Sets Hom

/-- The least sets of all that meet the list have no point beyond n. -/
theorem minimal_meets {n : Int} {xs : List Int} (h : setsOf n xs = true) : minimal (ord (meets xs)) = minQ (coverQ n xs) := by
  have hh := (setsOf_iff n xs).1 h
  have hn := (inB_iff _ _ _).1 hh.1
  have h64 := pow_le64 n hn.1 hn.2
  have hm : minimal (ord (meets xs)) = minQ (meets xs) := minimal_of _ _ fun x => mem_ord _ x
  rw [hm]
  have low : ∀ s : Nat, s < 64 → setB n (s : Int) = decide (s < 2 ^ n.toNat) := fun s _ => setB_lt n s (by omega) hn.2
  have cut : ∀ s : Nat, meets xs s = true → meets xs (s % 2 ^ n.toNat) = true := fun s hs => by
    unfold meets at hs ⊢
    rw [List.all_eq_true] at hs ⊢
    intro f hf
    have h1 := hs f hf
    obtain ⟨t, rfl, ht⟩ := okZ_cast f (setB_ok (hh.2.2 f hf))
    have h2 := hh.2.2 _ hf
    rw [low t ht, decide_eq_true_iff] at h2
    rw [Int.toNat_natCast, Bool.not_eq_true', Bool.eq_false_iff] at h1 ⊢
    intro h3
    refine h1 ((apart_iff _ _).2 fun i hi => (apart_iff _ _).1 h3 i ⟨?_, hi.2⟩)
    rw [Nat.testBit_mod_two_pow, hi.1]
    have : i < n.toNat := by
      by_cases e : i < n.toNat
      · exact e
      · have := Nat.testBit_lt_two_pow (Nat.lt_of_lt_of_le h2 (Nat.pow_le_pow_right (by decide) (Nat.le_of_not_lt e)))
        rw [this] at hi; cases hi.2
    simp [this]
  have subm : ∀ s : Nat, sub (s % 2 ^ n.toNat) s = true := fun s => (sub_iff _ _).2 fun i hi => by
    rw [Nat.testBit_mod_two_pow] at hi
    simp at hi; exact hi.2
  refine rises_eq _ _ (minQ_rises _) (minQ_rises _) fun x => ?_
  rw [mem_minQ, mem_minQ]
  constructor
  · rintro ⟨s, rfl, hs, hq, hu⟩
    have hp : 0 < 2 ^ n.toNat := Nat.two_pow_pos _
    have hlt := Nat.mod_lt s hp
    have e := hu _ (by omega) (cut s hq) (subm s)
    refine ⟨s, rfl, hs, ?_, fun t ht h1 h2 => hu t ht ?_ h2⟩
    · unfold coverQ; rw [hq, low s hs]; simp; omega
    · unfold coverQ at h1; rw [Bool.and_eq_true] at h1; exact h1.2
  · rintro ⟨s, rfl, hs, hq, hu⟩
    unfold coverQ at hq
    rw [Bool.and_eq_true, low s hs, decide_eq_true_iff] at hq
    refine ⟨s, rfl, hs, hq.2, fun t ht h1 h2 => hu t ht ?_ h2⟩
    have := sub_le h2
    unfold coverQ; rw [h1, low t ht]; simp; omega

set_option maxRecDepth 100000 in
theorem meets1_asks (s : Nat) (hs : s < 64) (xs : List Int) (hok : allOk xs = true) (B : Nat) (w : World) (hB : B < w.heap.size) (hc : w.cell? ⟨B, 0, none⟩ = some (.int .i64 (s : Int))) :
    Asks 81 #[.pointer (some ⟨B, 0, none⟩)] (fun f => apart s f.toNat) xs w := by
  intro W j hj hb
  have hf := allOk_at xs hok j hj
  generalize xs.getD j 0 = f at *
  obtain ⟨t, rfl, ht⟩ := okZ_cast f hf
  have d1 : W.cell? ⟨B, 0, none⟩ = some (.int .i64 (s : Int)) := (hb.cell (p := ⟨B, 0, none⟩) hB).trans hc
  have ha : (bits BinOp.and IntKind.i64 (s : Int) (t : Int) == 0) = apart s t := by
    rw [and_natP s t hs ht]; unfold apart
    generalize s &&& t = u
    rw [Bool.eq_iff_iff]; simp
  show Calls Tryz.prog 81 #[.int .i64 (t : Int), .pointer (some ⟨B, 0, none⟩)] W fun e w' => e = .returned (.bool (apart s ((t : Int).toNat))) ∧ ∃ m, w' = W.drewN m
  rw [Int.toNat_natCast, ← ha]
  clear hc hb hok hj hs hf ha
  go_enter Tryz.func81, Tryz.ntmps81
  go_wp2
  go_ret
  exact ⟨rfl, 0, rfl⟩

theorem meets_not (xs : List Int) (s : Nat) : meets xs s = !(xs.any fun f => apart s f.toNat) := by
  unfold meets; rw [List.not_any_eq_all_not]

set_option maxRecDepth 100000 in
set_option maxHeartbeats 2000000 in
theorem meetsAll_any (s : Nat) (hs : s < 64) (a : Option Addr) (c : Nat) (xs : List Int) (hok : allOk xs = true) (hlen : xs.length ≤ 1099511627776) (w : World) (h : Ints w a xs) :
    Calls Tryz.prog 44 #[.int .i64 (s : Int), .slice a xs.length c] w fun e w' => e = .returned (.bool (meets xs s)) ∧ Below w.heap.size w w' := by
  rw [meets_not]
  obtain ⟨b, hb⟩ : ∃ b, (xs.any fun f => apart s f.toNat) = b := ⟨_, rfl⟩
  have hb0 : Below w.heap.size w (w.alloc (Obj.cells #[Value.int IntKind.i64 (s : Int)] 3)) := (Below.refl _ _).alloc (Nat.le_refl _) _
  have eg : ∀ args w, (callFunc 81 args).run Tryz.prog w = .ok (.enter 81 args) w := enters_of Tryz.func81 (by kernel_rfl) rfl
  have hc := contains_bel 81 #[.pointer (some ⟨w.heap.size, 0, none⟩)] _ b a c xs hb _ eg (meets1_asks s hs xs hok w.heap.size _ (by simp) (by simp)) hlen (h.keeps hb0)
  rw [hb]
  have HC := Lib.hid hc
  have HB0 := Lib.hid hb0
  clear hc eg h hb hok hb0
  go_enter Tryz.func44, Tryz.ntmps44
  go_wp2_with fail
  refine HC.out.mono ?_
  rintro e w1 ⟨rfl, hb1⟩
  go_wp2
  go_ret
  exact ⟨rfl, HB0.out.trans (hb1.mono (by simp))⟩

set_option maxRecDepth 100000 in
set_option maxHeartbeats 2000000 in
theorem covers1_pred (a : Option Addr) (c : Nat) (xs : List Int) (hok : allOk xs = true) (hlen : xs.length ≤ 1099511627776) (B : Nat) (w : World) (hB : B < w.heap.size) (hk : w.cell? ⟨B, 0, none⟩ = some (.slice a xs.length c)) (h : Ints w a xs) :
    PredB 43 #[.pointer (some ⟨B, 0, none⟩)] (meets xs) w := by
  intro W s hs hb
  have hc := meetsAll_any s hs a c xs hok hlen W (h.keeps hb)
  have k1 := (hb.cell (p := ⟨B, 0, none⟩) hB).trans hk
  show Calls Tryz.prog 43 #[.int .i64 (s : Int), .pointer (some ⟨B, 0, none⟩)] W _
  have HC := Lib.hid hc
  clear hc hb h hok hk
  go_enter Tryz.func43, Tryz.ntmps43
  go_wp2_with fail
  refine HC.out.mono ?_
  rintro e w1 ⟨rfl, hb1⟩
  go_wp2
  go_ret
  exact ⟨rfl, hb1⟩

set_option maxRecDepth 100000 in
set_option maxHeartbeats 4000000 in
theorem implCovers_any (n : Int) (a : Option Addr) (c : Nat) (xs : List Int) (hlen : xs.length ≤ 1099511627776) (w : World) (h : Ints w a xs) :
    Calls Tryz.prog 11 #[.int .i64 n, .slice a xs.length c] w fun e w' => ∃ v, e = .returned v ∧ OwnInts w' w.heap.size v (coversL n xs) ∧ Below w.heap.size w w' := by
  have hb0 : Below w.heap.size w (w.alloc (Obj.cells #[Value.slice a xs.length c] 24)) := (Below.refl _ _).alloc (Nat.le_refl _) _
  have hk : (w.alloc (Obj.cells #[Value.slice a xs.length c] 24)).cell? ⟨w.heap.size, 0, none⟩ = some (.slice a xs.length c) := by simp
  have HH := Lib.hid (h.keeps hb0)
  have HB0 := Lib.hid hb0
  clear h hb0
  cases hS : setsOf n xs with
  | false =>
    have HS := Lib.hid hS
    rw [covers_no hS]
    clear hS
    go_enter Tryz.func11, Tryz.ntmps11
    go_wp2_with fail
    refine (areSets_any n _ _ xs hlen false HS.out _ HH.out).mono ?_
    rintro e w1 ⟨rfl, hb1⟩
    go_wp2
    go_ret
    exact ⟨_, rfl, OwnInts.nil _ _, HB0.out.trans (hb1.mono HB0.out.size)⟩
  | true =>
    have HS := Lib.hid hS
    have HOK := Lib.hid (setsOf_ok hS)
    have HM := Lib.hid (minimal_meets hS)
    rw [covers_yes hS]
    clear hS
    have eg : ∀ args w, (callFunc 43 args).run Tryz.prog w = .ok (.enter 43 args) w := enters_of Tryz.func43 (by kernel_rfl) rfl
    have EG := Lib.hid eg
    clear eg
    go_enter Tryz.func11, Tryz.ntmps11
    go_wp2_with fail
    refine (areSets_any n _ _ xs hlen true HS.out _ HH.out).mono ?_
    rintro e w1 ⟨rfl, hb1⟩
    have HB1 : Hid (Below w.heap.size w w1) := HB0.out.trans (hb1.mono HB0.out.size)
    have hI1 := HH.out.keeps hb1
    have hk1 := (hb1.cell (p := ⟨w.heap.size, 0, none⟩) (by simp)).trans hk
    have hsz1 := hb1.size
    rw [World.size_alloc] at hsz1
    have HP := Lib.hid (covers1_pred a c xs HOK.out hlen w.heap.size w1 (by omega) hk1 hI1)
    clear hb1 hk hI1 HH
    go_wp2_with fail
    refine (setsWhere_bel _ _ _ _ EG.out HP.out).mono ?_
    rintro e w2 ⟨v, rfl, hO, hb2⟩
    obtain ⟨a2, c2, g2, rfl, hc2, hg2, hr2, _⟩ := OwnInts.ata hO hb2.size
    have HB2 : Hid (Below w.heap.size w w2) := HB1.out.trans (hb2.mono (by omega))
    have HR2 := Lib.hid hr2.ints
    have hl2 : (ord (meets xs)).length ≤ 1099511627776 := Nat.le_trans (ord_le _) (by decide)
    have hsz2 := HB2.out.size
    clear hO hb2 hr2 hk1
    go_wp2_with fail
    refine (implMinimal_any a2 c2 (ord (meets xs)) hl2 _ HR2.out).mono ?_
    rintro e w3 ⟨v, rfl, hO, hb3⟩
    rw [HM.out] at hO
    have HO := Lib.hid hO
    have HB3 : Hid (Below w.heap.size w w3) := HB2.out.trans (hb3.mono hsz2)
    clear hO hb3
    go_wp2
    go_ret
    exact ⟨v, rfl, HO.out.lower hsz2, HB3.out⟩

end Go.Proofs.YtnpmhofeiflpeaaGreat

/-! AN ARGUMENT that is a slice of bytes: what its cells hold. -/

namespace Go.Proofs.YtnpmhofeiflpeaaGreat
open Go.ChangeShapes Go.WideShapes Go.ChangeAt Go.RowKit

theorem open_bytes {H : Type} {enc : TypeId × Value → H} {P : Program} {W : World} {base : Nat} {held : Bool} {t e : TypeId} {a : Option Addr} {n c : Nat} {d : DataW H} {p : List MemPlace}
    (ht : P.underlying t = some (.slice e)) (he : P.underlying e = some (.int .u8)) (hc : P.cellsOf e = 1) (h : DataW.Trod enc P W base (fun _ => true) held t (.slice a n c) d p) :
    Code W a n ∧ n ≤ 9223372036854775807 := by
  obtain ⟨fuel, hf⟩ := h
  rcases open_ints ht he hc hf with ⟨hcs, _⟩ | ⟨b, len, cap, zs, hcs, _, hl, hm, hz, _, hcell, hws⟩
  · simp [Value.cells] at hcs
    obtain ⟨rfl, rfl, rfl⟩ := hcs
    exact ⟨fun j hj => absurd hj (Nat.not_lt_zero _), by omega⟩
  · simp [Value.cells] at hcs
    obtain ⟨rfl, rfl, rfl⟩ := hcs
    simp only [if_true] at hz
    unfold maxLen at hm
    refine ⟨fun j hj => ?_, by omega⟩
    have hc2 := hcell j (by omega)
    have hc3 := hws (zs.getD j 0) (by rw [List.getD, List.getElem?_eq_getElem (show j < zs.length by omega)]; exact List.getElem_mem _)
    obtain ⟨bl, off, spot⟩ := b
    have hspot : spot = none := by simpa [Addr.add] using World.cell?_spot (hcell 0 (by omega))
    subst hspot
    rw [add_plain] at hc2
    have hb : 0 ≤ zs.getD j 0 ∧ zs.getD j 0 ≤ 255 := by simpa [Lit.wf, IntKind.min, IntKind.max, IntKind.signed, IntKind.bits] using hc3
    refine ⟨bl, off, (zs.getD j 0).toNat, rfl, by omega, ?_⟩
    rw [hc2, Int.toNat_of_nonneg hb.1]

end Go.Proofs.YtnpmhofeiflpeaaGreat
