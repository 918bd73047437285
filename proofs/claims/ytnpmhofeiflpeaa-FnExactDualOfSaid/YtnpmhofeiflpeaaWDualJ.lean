/-
  WALKS: impl.DualOf, impl.IsSelfDual.
-/
import Derived.Test.YtnpmhofeiflpeaaWDualI
import Derived.Laws.EntriesVeiled
namespace Go.Proofs.Ytnpmhofeiflpeaa
open Go.RowKit
open Sets Hom

theorem dual_fam {n : Int} {xs : List Int} (h : isC n xs = true) : Fam n (dualQ n.toNat (inF xs)) := by
  have hn := isC_n h
  refine ⟨dualQ_down (by omega) (inF_down xs), fun t _ ht => ?_⟩
  rw [setB_lt n t (by omega) (by omega), decide_eq_true_iff]
  exact ((dualQ_iff _ _ _).1 ht).1

set_option maxRecDepth 100000 in
set_option maxHeartbeats 4000000 in
theorem implDual_any (n : Int) (a : Option Addr) (c : Nat) (xs : List Int) (hcap : xs.length ≤ c) (hlen : xs.length ≤ 1099511627776) (w : World) (h : Ints w a xs) :
    Calls Try.prog 12 #[cx n (.slice a xs.length c)] w fun e w' => ∃ v, e = .returned (.tuple #[cx (oN (dualO n xs)) v, .bool (dualO n xs).isSome]) ∧ OwnInts w' w.heap.size v (oL (dualO n xs)) ∧ Below w.heap.size w w' := by
  have hb0 : Below w.heap.size w ((w.alloc (Obj.cells #[Value.int IntKind.i64 n, Value.slice a xs.length c] 28)).alloc (Obj.cells #[Value.int IntKind.i64 0, Value.slice none 0 0] 28)) := ((Below.refl _ _).alloc (Nat.le_refl _) _).alloc (by simp) _
  have htc := (Two.new w (.int .i64 n) (.slice a xs.length c) 28).alloc (.cells #[.int .i64 0, .slice none 0 0] 28)
  have htr := Two.new (w.alloc (.cells #[.int .i64 n, .slice a xs.length c] 28)) (.int .i64 0) (.slice none 0 0) 28
  rw [World.size_alloc] at htr
  obtain ⟨br, hbr⟩ : ∃ br, w.heap.size + 1 = br := ⟨_, rfl⟩
  rw [hbr] at htr
  have hwb : w.heap.size < br := by omega
  have TC := Lib.hid htc
  have TR := Lib.hid htr
  have HH := Lib.hid (h.keeps hb0)
  have HB0 := Lib.hid hb0
  have HBR := Lib.hid hbr
  clear h htr hb0 htc hbr
  obtain ⟨t0, t1, t2, _, _⟩ := TC.out
  cases hC : isC n xs with
  | false =>
    have HC := Lib.hid hC
    rw [dualO_no hC]
    clear hC
    go_enter Try.func12, Try.ntmps12
    go_wp2_with fail
    refine (implIsC_b n _ _ xs hcap false HC.out hlen _ HH.out).mono ?_
    rintro e w1 ⟨rfl, hb1⟩
    try rw [HBR.out]
    obtain ⟨r0, r1, r2, r3, r4⟩ := TR.out.keeps hb1
    have HB1 : Hid (Below w.heap.size w w1) := HB0.out.trans (hb1.mono HB0.out.size)
    clear hb1 t0 t1 t2
    go_wp2
    refine ret_cx2 br rfl rfl rfl (x := .int .i64 0) (y := .slice none 0 0) (by go_simp) (by go_simp) rfl ?_
    exact ⟨_, rfl, OwnInts.nil _ _, by first | exact (HB1.out.setCell (by dsimp only; omega) _).setCell (by dsimp only; omega) _ | exact HB1.out⟩
  | true =>
    have HC := Lib.hid hC
    have hn := isC_n hC
    obtain ⟨hn1, hn2⟩ := hn
    have HN := Lib.hid ((inB_iff _ _ _).2 (isC_n hC))
    have HF := Lib.hid (dual_fam hC)
    rw [dualO_yes hC]
    clear hC
    have eg : ∀ args w, (callFunc 33 args).run Try.prog w = .ok (.enter 33 args) w := enters_of Try.func33 (by kernel_rfl) rfl
    have EG := Lib.hid eg
    clear eg
    go_enter Try.func12, Try.ntmps12
    go_wp2_with fail
    refine (implIsC_b n _ _ xs hcap true HC.out hlen _ HH.out).mono ?_
    rintro e w1 ⟨rfl, hb1⟩
    try rw [HBR.out]
    have HB1 : Hid (Below w.heap.size w w1) := HB0.out.trans (hb1.mono HB0.out.size)
    have HI1 := Lib.hid (HH.out.keeps hb1)
    have TC1 := Lib.hid (TC.out.keeps hb1)
    have TR1 := Lib.hid (TR.out.keeps hb1)
    clear t0 t1 t2 hb1 HH TC TR HB0
    obtain ⟨t0, t1, t2, _, _⟩ := TC1.out
    have hsz1 := HB1.out.size
    go_wp2_with fail
    refine (compIn_any n (by omega) hn2 _).mono ?_
    rintro e w2 ⟨A, rfl, hA1, hA2, hkA, hb2⟩
    have hba : Below w2.heap.size w2 (w2.alloc (Obj.cells #[Value.func (Fn.func 45) #[] #[Value.pointer (some ⟨A, 0, none⟩)]] 42)) := (Below.refl _ _).alloc (Nat.le_refl _) _
    have hb3 := hb2.trans (hba.mono hb2.size)
    have HB3 : Hid (Below w.heap.size w (w2.alloc (Obj.cells #[Value.func (Fn.func 45) #[] #[Value.pointer (some ⟨A, 0, none⟩)]] 42))) := HB1.out.trans (hb3.mono hsz1)
    have hI3 := HI1.out.keeps hb3
    have htc3 := TC1.out.keeps hb3
    have TC3 := Lib.hid htc3
    have TR3 := Lib.hid (TR1.out.keeps hb3)
    have hA3 := (hba.cell (p := ⟨A, 0, none⟩) hA2).trans hkA
    have hK3 : (w2.alloc (Obj.cells #[Value.func (Fn.func 45) #[] #[Value.pointer (some ⟨A, 0, none⟩)]] 42)).cell? ⟨w2.heap.size, 0, none⟩ = some (Value.func (Fn.func 45) #[] #[Value.pointer (some ⟨A, 0, none⟩)]) := by simp
    have hs3 : (w2.alloc (Obj.cells #[Value.func (Fn.func 45) #[] #[Value.pointer (some ⟨A, 0, none⟩)]] 42)).heap.size = w2.heap.size + 1 := by simp
    have hP : ∀ W : World, Below (w2.alloc (Obj.cells #[Value.func (Fn.func 45) #[] #[Value.pointer (some ⟨A, 0, none⟩)]] 42)).heap.size (w2.alloc (Obj.cells #[Value.func (Fn.func 45) #[] #[Value.pointer (some ⟨A, 0, none⟩)]] 42)) W → PredB 33 #[.pointer (some ⟨w.heap.size, 0, none⟩), .pointer (some ⟨w2.heap.size, 0, none⟩)] (dualQ n.toNat (inF xs)) W := fun W hW =>
      dual1_pred n a c xs HC.out hlen w.heap.size w2.heap.size A W (htc3.keeps hW) (Nat.lt_of_lt_of_le (by omega) hW.size) ((hW.cell (p := ⟨w2.heap.size, 0, none⟩) (by dsimp only; omega)).trans hK3) (Nat.lt_of_lt_of_le (by omega) hW.size) ((hW.cell (p := ⟨A, 0, none⟩) (by dsimp only; omega)).trans hA3) (hI3.keeps hW)
    have HP := Lib.hid hP
    clear t0 t1 t2 hP hA3 hK3 hI3 htc3 hb3 hba hkA hb2 TC1 TR1 HI1
    obtain ⟨t0, t1, t2, _, _⟩ := TC3.out
    have hsz3 := HB3.out.size
    go_wp2_with fail
    refine (partWhere_any n _ _ (dualQ n.toNat (inF xs)) _ HN.out HF.out EG.out HP.out).mono ?_
    rintro e w6 ⟨v, rfl, hO2, hb6⟩
    obtain ⟨a2, c2x, g2, rfl, hc2, hg2, hr2, _⟩ := OwnInts.ata hO2 hb6.size
    have hzb := TR3.out.1
    obtain ⟨r0, r1, r2, r3, r4⟩ := TR3.out.keeps hb6
    have HO2 := Lib.hid hO2
    have HB6 : Hid (Below w.heap.size w w6) := HB3.out.trans (hb6.mono hsz3)
    clear hO2 hr2 hb6 t0 t1 t2
    go_wp2
    refine ret_cx2 br rfl rfl rfl (x := .int .i64 n) (y := .slice a2 (maxQ (dualQ n.toNat (inF xs))).length c2x) (by go_simp) (by go_simp) rfl ?_
    exact ⟨_, rfl, (OwnInts.set (OwnInts.set HO2.out _ _ _ hzb) _ _ _ hzb).lower hsz3, (HB6.out.setCell (by dsimp only; omega) _).setCell (by dsimp only; omega) _⟩

set_option maxRecDepth 100000 in
set_option maxHeartbeats 2000000 in
theorem implSelf_any (n : Int) (a : Option Addr) (c : Nat) (xs : List Int) (hcap : xs.length ≤ c) (hlen : xs.length ≤ 1099511627776) (w : World) (h : Ints w a xs) :
    Calls Try.prog 17 #[cx n (.slice a xs.length c)] w fun e w' => e = .returned (.bool (selfB n xs)) ∧ Below w.heap.size w w' := by
  have hb0 : Below w.heap.size w (w.alloc (.cells #[.int .i64 n, .slice a xs.length c] 28)) := (Below.refl _ _).alloc (Nat.le_refl _) _
  have HH := Lib.hid (h.keeps hb0)
  have HB0 := Lib.hid hb0
  have TC := Lib.hid (Two.new w (.int .i64 n) (.slice a xs.length c) 28)
  clear h hb0
  obtain ⟨t0, t1, t2, _, _⟩ := TC.out
  obtain ⟨D, hD⟩ : ∃ D, dualO n xs = D := ⟨_, rfl⟩
  have hl : (oL D).length ≤ 64 := by rw [← hD]; exact partLD_le _ _ _
  have HD := Lib.hid (fun W (hh : Ints W a xs) => implDual_any n a c xs hcap hlen W hh)
  rw [hD] at HD
  have HS : Hid (selfB n xs = (D.isSome && eqC n (oN D) xs (oL D))) := by
    have : selfB n xs = (D.isSome && eqC n (oN D) xs (oL D)) := by
      rw [← hD]
      unfold selfB
      cases hC : isC n xs with
      | false => rw [dualO_no hC]; rfl
      | true =>
        rw [dualO_yes hC]
        show (true && _) = (true && eqC n n xs (maxQ (dualQ n.toNat (inF xs))))
        rw [eqC_same]
    exact this
  clear hD
  go_enter Try.func17, Try.ntmps17
  go_wp2_with fail
  refine (HD.out _ HH.out).mono ?_
  rintro e w1 ⟨v, rfl, hO, hb1⟩
  obtain ⟨a2, c2, g2, rfl, hc2, hg2, hr2, _⟩ := OwnInts.ata hO hb1.size
  have hsz0 := hb1.size
  have hba : Below w1.heap.size w1 (w1.alloc (.cells #[.int .i64 (oN D), .slice a2 (oL D).length c2] 28)) := (Below.refl _ _).alloc (Nat.le_refl _) _
  have HX := Lib.hid ((HH.out.keeps hb1).keeps hba)
  have HY := Lib.hid ((hr2.ints).keeps hba)
  have TC2 := Lib.hid ((TC.out.keeps hb1).keeps hba)
  have TD2 := Lib.hid (Two.new w1 (.int .i64 (oN D)) (.slice a2 (oL D).length c2) 28)
  have HB2 : Hid (Below w.heap.size w (w1.alloc (.cells #[.int .i64 (oN D), .slice a2 (oL D).length c2] 28))) := (HB0.out.trans (hb1.mono HB0.out.size)).trans (hba.mono (Nat.le_trans HB0.out.size hb1.size))
  clear t0 t1 t2 hO hb1 hr2 hba HH TC
  obtain ⟨t0, t1, t2, _, _⟩ := TC2.out
  obtain ⟨s0, s1, s2, _, _⟩ := TD2.out
  cases hs : D.isSome with
  | false =>
    have HR : Hid (selfB n xs = false) := by
      have := HS.out
      rw [hs] at this; exact this
    go_wp2
    go_ret
    exact ⟨by rw [HR.out]; rfl, HB2.out⟩
  | true =>
    obtain ⟨b, hb⟩ : ∃ b, eqC n (oN D) xs (oL D) = b := ⟨_, rfl⟩
    have HR : Hid (selfB n xs = b) := by
      have := HS.out
      rw [hs, hb] at this; exact this
    have HB := Lib.hid hb
    clear hb
    have hsz2 := HB2.out.size
    go_wp2_with fail
    have hcall := implEqual_any n (oN D) a a2 c c2 xs (oL D) hlen (Nat.le_trans hl (by decide)) hcap hc2 _ HX.out HY.out
    rw [HB.out] at hcall
    refine hcall.mono ?_
    rintro e w3 ⟨rfl, hb3⟩
    go_wp2
    go_ret
    exact ⟨by rw [HR.out]; rfl, HB2.out.trans (hb3.mono hsz2)⟩

end Go.Proofs.Ytnpmhofeiflpeaa
