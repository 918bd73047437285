/-
  WALKS: impl's chapter 8: the dual complex.
-/
import Derived.Test.YtnpmhofeiflpeaaJg11
import Derived.Test.YtnpmhofeiflpeaaJg14
namespace Go.Proofs.Ytnpmhofeiflpeaa
open Go.RowKit
open Sets Hom

theorem comp_andNot : ∀ n : Fin 7, ∀ s : Fin 64, s.val < 2 ^ n.val → bits BinOp.andNot IntKind.i64 ((2 ^ n.val - 1 : Nat) : Int) (s.val : Int) = ((2 ^ n.val - 1 - s.val : Nat) : Int) := by decide +kernel
theorem comp_bits {n : Int} {s : Nat} (h : setB n (s : Int) = true) : bits BinOp.andNot IntKind.i64 (2 ^ n.toNat - 1) (s : Int) = compZ n (s : Int) := by
  rw [compZ_nat h]
  have hh := (setB_iff _ _).1 h
  have hs := okZ_nat s |>.1 (setB_ok h)
  rw [setB_lt n s hh.1 hh.2.1, decide_eq_true_iff] at h
  have := comp_andNot ⟨n.toNat, by omega⟩ ⟨s, hs⟩ h
  dsimp only at this
  rw [← this]
  have e : ((2 ^ n.toNat - 1 : Nat) : Int) = 2 ^ n.toNat - 1 := by
    have h1 : 1 ≤ 2 ^ n.toNat := Nat.one_le_two_pow
    have := two_pow_cast n.toNat
    omega
  rw [e]

set_option maxRecDepth 100000 in
set_option maxHeartbeats 2000000 in
theorem compIn_any (n : Int) (h0 : 0 ≤ n) (h6 : n ≤ 6) (w : World) :
    Calls Try.prog 26 #[.int .i64 n] w fun e w' => ∃ B : Nat, e = .returned (.func (.func 45) #[] #[.pointer (some ⟨B, 0, none⟩)]) ∧ w.heap.size ≤ B ∧ B < w'.heap.size ∧ w'.cell? ⟨B, 0, none⟩ = some (.int .i64 (2 ^ n.toNat - 1)) ∧ Below w.heap.size w w' := by
  rcases seven n h0 h6 with rfl | rfl | rfl | rfl | rfl | rfl | rfl <;>
  · go_enter Try.func26, Try.ntmps26
    go_wp2
    go_ret
    exact ⟨_, rfl, Nat.le_refl _, by simp, by simp, (Below.refl _ _).alloc (Nat.le_refl _) _⟩

set_option maxRecDepth 100000 in
theorem comp1_any (s : Int) (B : Nat) (M z : Int) (ha : bits BinOp.andNot IntKind.i64 M s = z) (w : World) (hk : w.cell? ⟨B, 0, none⟩ = some (.int .i64 M)) :
    Calls Try.prog 45 #[.int .i64 s, .pointer (some ⟨B, 0, none⟩)] w fun e w' => e = .returned (.int .i64 z) ∧ w = w' := by
  go_enter Try.func45, Try.ntmps45
  go_wp2
  go_ret
  exact ⟨rfl, rfl⟩

set_option maxRecDepth 100000 in
set_option maxHeartbeats 2000000 in
theorem implComp_any (n s : Int) (w : World) :
    Calls Try.prog 8 #[.int .i64 n, .int .i64 s] w fun e w' => e = .returned (.int .i64 (compZ n s)) ∧ Below w.heap.size w w' := by
  cases hS : setB n s with
  | false =>
    have HS := Lib.hid hS
    have HZ : Hid (compZ n s = -1) := by
      have : compZ n s = -1 := by unfold compZ; rw [if_neg (by rw [hS]; simp)]
      exact this
    clear hS
    rw [HZ.out]
    go_enter Try.func8, Try.ntmps8
    go_wp2_with fail
    refine (isSet_b n s false HS.out _).mono ?_
    rintro e w' ⟨rfl, rfl⟩
    go_wp2
    go_ret
    exact ⟨rfl, Below.refl _ _⟩
  | true =>
    obtain ⟨t, rfl, ht⟩ := okZ_cast s (setB_ok hS)
    have hh := (setB_iff _ _).1 hS
    have h0 := hh.1
    have h6 := hh.2.1
    have HA := Lib.hid (comp_bits hS)
    have HS := Lib.hid hS
    generalize compZ n (t : Int) = z at *
    clear hh hS
    have eg : ∀ args w, (callFunc 45 args).run Try.prog w = .ok (.enter 45 args) w := enters_of Try.func45 (by kernel_rfl) rfl
    go_enter Try.func8, Try.ntmps8
    go_wp2_with fail
    refine (isSet_b n t true HS.out _).mono ?_
    rintro e w' ⟨rfl, rfl⟩
    go_wp2_with fail
    refine (compIn_any n h0 h6 _).mono ?_
    rintro e w1 ⟨B, rfl, hB1, hB2, hk, hb⟩
    have HK := Lib.hid hk
    have HB := Lib.hid hb
    clear hk hb
    go_wp2_with (go_at_fn 45; refine (comp1_any t B _ z HA.out _ HK.out).mono ?_; rintro e w' ⟨rfl, rfl⟩)
    go_ret
    exact ⟨rfl, HB.out⟩

set_option maxRecDepth 100000 in
set_option maxHeartbeats 4000000 in
theorem dual1_pred (n : Int) (a : Option Addr) (c : Nat) (xs : List Int) (hC : isC n xs = true) (hlen : xs.length ≤ 1099511627776) (B K A : Nat) (w : World) (h2 : Two w B (.int .i64 n) (.slice a xs.length c)) (hK : K < w.heap.size) (hk : w.cell? ⟨K, 0, none⟩ = some (.func (.func 45) #[] #[.pointer (some ⟨A, 0, none⟩)])) (hA : A < w.heap.size) (ha : w.cell? ⟨A, 0, none⟩ = some (.int .i64 (2 ^ n.toNat - 1))) (h : Ints w a xs) :
    PredB 33 #[.pointer (some ⟨B, 0, none⟩), .pointer (some ⟨K, 0, none⟩)] (dualQ n.toNat (inF xs)) w := by
  intro W s hs hb
  have HH := Lib.hid (h.keeps hb)
  have hTB := h2.keeps hb
  have TB := Lib.hid hTB
  obtain ⟨t0, t1, t2, _, _⟩ := hTB
  have k1 := (hb.cell (p := ⟨K, 0, none⟩) hK).trans hk
  have hKB := Lib.hid (fun (W' : World) (hW : Below W.heap.size W W') => (hW.cell (p := ⟨K, 0, none⟩) (Nat.lt_of_lt_of_le hK hb.size)).trans k1)
  have a1 := (hb.cell (p := ⟨A, 0, none⟩) hA).trans ha
  have hAB := Lib.hid (fun (W' : World) (hW : Below W.heap.size W W') => (hW.cell (p := ⟨A, 0, none⟩) (Nat.lt_of_lt_of_le hA hb.size)).trans a1)
  show Calls Try.prog 33 #[.int .i64 (s : Int), .pointer (some ⟨B, 0, none⟩), .pointer (some ⟨K, 0, none⟩)] W fun e w' => e = .returned (.bool (dualQ n.toNat (inF xs) s)) ∧ Below W.heap.size W w'
  have hn := isC_n hC
  have HOK := Lib.hid (isC_ok hC)
  have hlt := setB_lt n s (by omega) (by omega)
  clear h2 hk h hb ha a1 hC
  cases hS : setB n (s : Int) with
  | false =>
    have HF : Hid (dualQ n.toNat (inF xs) s = false) := by
      have : dualQ n.toNat (inF xs) s = false := by unfold dualQ; rw [← hlt, hS]; rfl
      exact this
    have HS := Lib.hid hS
    rw [HF.out]
    clear hS hlt
    go_enter Try.func33, Try.ntmps33
    go_wp2_with fail
    first | (go_region_law (first | (go_simp; go_at_call 25; refine (isSet_b n s false HS.out _).mono ?_; rintro e w' ⟨rfl, rfl⟩) | fail "arm")) | fail "region"
    all_goals
      go_wp2_with fail
      go_ret
      exact ⟨rfl, bdrew1 _⟩
  | true =>
    have HS := Lib.hid hS
    have HA := Lib.hid (comp_bits hS)
    have hz := compZ_nat hS
    have hzl : 2 ^ n.toNat - 1 - s < 64 := by have := pow_le64 n hn.1 hn.2; omega
    obtain ⟨b, hb⟩ : ∃ b, inF xs (2 ^ n.toNat - 1 - s) = b := ⟨_, rfl⟩
    have HF : Hid (dualQ n.toNat (inF xs) s = !b) := by
      have : dualQ n.toNat (inF xs) s = !b := by unfold dualQ; rw [← hlt, hS, hb]; rfl
      exact this
    have HBV := Lib.hid ((inFZ_nat xs _ hzl).trans hb)
    rw [HF.out]
    obtain ⟨z, hzz⟩ : ∃ z, 2 ^ n.toNat - 1 - s = z := ⟨_, rfl⟩
    rw [hzz] at hz hzl HBV
    rw [hz] at HA
    clear hS hlt hz hb hzz
    have eg : ∀ args w, (callFunc 45 args).run Try.prog w = .ok (.enter 45 args) w := enters_of Try.func45 (by kernel_rfl) rfl
    go_enter Try.func33, Try.ntmps33
    go_wp2_with fail
    go_region_held3 (fun w' => w'.cell? ⟨B, 0, none⟩ = some (.int .i64 n) ∧ w'.cell? ⟨B, 1, none⟩ = some (.slice a xs.length c) ∧ w'.cell? ⟨K, 0, none⟩ = some (.func (.func 45) #[] #[.pointer (some ⟨A, 0, none⟩)]) ∧ Below W.heap.size W w') (first | (exact ⟨(TB.out.keeps (bdrew1 _)).2.1, (TB.out.keeps (bdrew1 _)).2.2.1, hKB.out _ (bdrew1 _), bdrew1 _⟩) | (exact ⟨(TB.out.keeps (below_fresh hb1)).2.1, (TB.out.keeps (below_fresh hb1)).2.2.1, hKB.out _ (below_fresh hb1), below_fresh hb1⟩) | fail "keep") (first | (go_at_call 25; refine (isSet_b n s true HS.out _).mono ?_; rintro e w' ⟨rfl, rfl⟩) | (go_at_fn 45; refine (comp1_any s A _ z HA.out _ (hAB.out _ (bdrew1 _))).mono ?_; rintro e w' ⟨rfl, rfl⟩) | (go_at_call 34; refine (inFacet_any n a c xs HOK.out hlen (z : Int) (by omega) b HBV.out _ (Ints.drew HH.out)).mono ?_; rintro e w1 ⟨rfl, hb1⟩) | fail "arm")
    all_goals
      have hb2 := below_fresh hb1
      go_wp2_with fail
      go_ret
      exact ⟨rfl, hb2⟩

end Go.Proofs.Ytnpmhofeiflpeaa
