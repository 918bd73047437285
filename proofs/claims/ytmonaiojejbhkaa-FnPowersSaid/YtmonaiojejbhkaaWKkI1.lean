/-
  WALKS: impl's chapter 11: the closure that remembers, at greater numbers; hasCascade.
-/
import Derived.Test.YtmonaiojejbhkaaJg28
namespace Go.Proofs.Ytmonaiojejbhkaa
open Go.RowKit
open Hn Kk
open Go.Maps (Keyed)

/-- v, ok := m[{n, k}] at the operation, for all numbers. -/
theorem wpList_cmap_lookz (w : World) {ops : Array Oper} {rest : List Oper} {o : Oper} {a : Act} {Q : Exit → Act → World → Prop}
    (hg : Region.wanted o (yielded ops a.tmps) = true) (m x : Operand) (hop : o.op = Op.lookup 73 m x true)
    (b j : Nat) (hm : a.eval m = .map (some b)) (h : CMap w b j) (n k : Nat) (hn : n ≤ 9223372036854775807) (hk : k ≤ 9223372036854775807) (hx : a.eval x = pairV n k)
    (hK : ∀ (c : Int) (ok : Bool), (ok = true → c = (ch n k : Nat)) → wpList Try.prog ops Q rest (a.put o.dst (.tuple #[.int .i64 c, .bool ok])) w) :
    wpList Try.prog ops Q (o :: rest) a w := by
  refine wpList_step fun K' hK' => ?_
  rw [if_pos hg]
  obtain ⟨D, h1, h2, h3⟩ := h
  have hkey := pair_key n k (nat_wf hn) (nat_wf hk)
  obtain ⟨v, ps, hrun, hv⟩ := h1.look_ok pair_keyed Try.underlying73 (cmap_zero w) (plainElem_int Try.underlying3 (by decide)) hkey
  obtain ⟨c, rfl, hc, hwc⟩ := plainElem_int_inv Try.underlying3 hv
  unfold Oper.wp
  simp [execOp, hop, hm, hx, hrun, Result.andThen]
  refine hK' _ _ (hK c _ fun hok => ?_)
  have e := h3 n k _ hkey hok
  have e2 := congrArg Prod.fst hc
  rw [e] at e2
  injection e2 with e2
  injection e2 with _ e2
  exact e2.symm

/-- m[{n, k}] = how many ways, at the operation, for all numbers. -/
theorem wpList_cmap_putz (w : World) {ops : Array Oper} {rest : List Oper} {o : Oper} {a : Act} {Q : Exit → Act → World → Prop}
    (hg : o.guard = none) (m x v : Operand) (hop : o.op = Op.mapUpdate 73 m x v)
    (b j : Nat) (hm : a.eval m = .map (some b)) (h : CMap w b j) (hj : j < maxLen) (n k : Nat) (hn : n ≤ 9223372036854775807) (hk : k ≤ 9223372036854775807) (hc : ch n k ≤ 9223372036854775807) (hx : a.eval x = pairV n k) (z : Int) (hv : a.eval v = .int .i64 z) (hz : z = (ch n k : Nat))
    (hK : ∀ w', CMap w' b (j + 1) → w.grownBy w' (some b) → wpList Try.prog ops Q rest (a.put o.dst undef) w') :
    wpList Try.prog ops Q (o :: rest) a w := by
  subst hz
  obtain ⟨D, h1, h2, h3⟩ := h
  have hkey := pair_key n k (nat_wf hn) (nat_wf hk)
  refine wpList_mapUpdate_own w hg m x v _ hop _ _ pair_keyed Try.underlying73 _ b j D hm h1 hj _ _ _ hx hv hkey (.lit (.int .i64 (ch n k : Nat))) [] (plainElem_int Try.underlying3 (nat_wf hc)) fun w' h1' hg' => ?_
  refine hK w' ⟨_, h1', h2.put _ _, fun n' k' l hl hh => ?_⟩ hg'
  by_cases e : l = .string (keyBytes [.int .i64 (n : Int), .int .i64 (k : Int)])
  · subst e
    have := pair_keyed.inj hl hkey
    unfold pairV at this
    injection this with this
    have e1 := congrArg (fun x : Array Value => x.getD 0 (.bool true)) this
    have e2 := congrArg (fun x : Array Value => x.getD 1 (.bool true)) this
    simp at e1 e2
    obtain rfl : n' = n := by omega
    obtain rfl : k' = k := by omega
    exact Maps.atKey_put_same h2 (pair_keyed.key hkey) _ _
  · rw [Maps.has_put_other e] at hh
    rw [Maps.atKey_put_other e]
    exact h3 n' k' l hl hh

/-- What the remembering needs at a step: the product stays small. -/
theorem good_mul {N k : Nat} (h : goodB (N + 1) (k + 1)) : ch N k * (N + 1) ≤ 4611686018427387904 := by
  have h1 := good_at h k (by omega)
  rcases Nat.eq_zero_or_pos k with e | e
  · subst e
    rw [ch_zero] at h1 ⊢
    exact h1
  · exact Nat.le_trans (Nat.mul_le_mul_right _ (ch_mono (i := k) e (Nat.le_succ N))) h1
theorem good_down {N k : Nat} (h : goodB (N + 1) (k + 1)) : goodB N k := by unfold goodB at h ⊢; omega
theorem good_nat {n k : Nat} (h : goodB n k) : n ≤ 1001 ∧ k ≤ 7 := by unfold goodB at h; omega

set_option maxRecDepth 100000 in
set_option maxHeartbeats 4000000 in
theorem choose1_good (A C M : Nat) : ∀ (k n m : Nat) (w : World), k ≤ n → goodB n k → m + k < 1099511627776 → Rem w A C M m →
    Calls Try.prog 73 #[.int .i64 (n : Int), .int .i64 (k : Int), .pointer (some ⟨A, 0, none⟩), .pointer (some ⟨C, 0, none⟩)] w fun e w' => e = .returned (.int .i64 (ch n k : Nat)) ∧ Rem w' A C M (m + k) ∧ w.grownBy w' (some M) := by
  intro k
  induction k with
  | zero =>
    intro n m w hkn hn hm hR
    have HR := Lib.hid hR
    have hd1 : decide ((n : Int) < 0) = false := by simp
    rw [ch_zero]
    clear hR hn
    go_enter Try.func73, Try.ntmps73
    go_wp2
    go_ret
    exact ⟨rfl, HR.out, Mem.but_refl _ _⟩
  | succ k ih =>
    intro n m w hkn hn hm hR
    obtain ⟨N, hN⟩ : ∃ N, n = N + 1 := ⟨n - 1, by omega⟩
    obtain ⟨K, hK⟩ : ∃ K, K = k + 1 := ⟨_, rfl⟩
    have HR := Lib.hid hR
    obtain ⟨r1, r2o, r3, r4, r5, r6, r7⟩ := hR
    have HM := Lib.hid r7
    have hd0 : decide ((K : Int) < 0) = false := by simp
    have hd1 : decide (n < K) = false := by simp; omega
    have hd2 : ((K : Int) == 0) = false := by simp; omega
    have r2 : w.cell? ⟨C, 0, none⟩ = some (.func (.func 73) #[] #[.pointer (some ⟨A, 0, none⟩), .pointer (some ⟨C, 0, none⟩)]) := r2o
    clear r2o
    have hk0 : (K : Int) ≠ 0 := by omega
    have eg : ∀ args w, (callFunc 73 args).run Try.prog w = .ok (.enter 73 args) w := enters_of Try.func73 (by kernel_rfl) rfl
    have hgN : goodB (N + 1) (k + 1) := by rw [← hN]; exact hn
    have hn7 := good_nat hn
    have hz0 := good_mul hgN
    obtain ⟨y, hy⟩ : ∃ y, ch n K = y := ⟨_, rfl⟩
    obtain ⟨x, hx⟩ : ∃ x, ch N k = x := ⟨_, rfl⟩
    have hmul := ch_mul N k
    rw [← hN, ← hK, hx, hy] at hmul
    rw [hx] at hz0
    have hyz : y ≤ y * K := Nat.le_mul_of_pos_right y (by omega)
    have hz : y * K ≤ 4611686018427387904 := by
      have : x * n = y * K := by first | exact hmul | exact hmul.symm
      rw [← this, hN]; exact hz0
    have hby : y ≤ 9223372036854775807 := by omega
    have hval : wrap64 ((wrap64 ((x : Int) * (n : Int))).tdiv (K : Int)) = (y : Int) := by
      have e3 : ((y * K : Nat) : Int).tdiv (K : Int) = (y : Int) := by
        have : ((y * K : Nat) : Int) = (y : Int) * (K : Int) := by simp
        rw [this]
        exact Int.mul_tdiv_cancel _ hk0
      have e2 : (x : Int) * (n : Int) = ((y * K : Nat) : Int) := by
        have : x * n = y * K := by first | exact hmul | exact hmul.symm
        rw [← this]; simp
      rw [e2]
      generalize y * K = z at hz e3
      rw [IntWalk.wrap64_in (z : Int) (by omega), e3, IntWalk.wrap64_in (y : Int) (by omega)]
    have IH : Hid (Calls Try.prog 73 #[.int .i64 ((n : Int) - 1), .int .i64 ((K : Int) - 1), .pointer (some ⟨A, 0, none⟩), .pointer (some ⟨C, 0, none⟩)] w fun e w' => e = .returned (.int .i64 (x : Int)) ∧ Rem w' A C M (m + k) ∧ w.grownBy w' (some M)) := by
      have h := ih N m w (by omega) (good_down hgN) (by omega) HR.out
      rw [hx, show (N : Int) = (n : Int) - 1 by omega, show (k : Int) = (K : Int) - 1 by omega] at h
      exact h
    have HV := Lib.hid hval
    have HY := Lib.hid hy
    have HK := Lib.hid hK
    have hK60 : K ≤ 9223372036854775807 := by omega
    have hn60 : n ≤ 9223372036854775807 := by omega
    have hK1 : 1 ≤ K := by omega
    have hn1 : 1 ≤ n := by omega
    have hmk : m + k < 1099511627776 := by omega
    have HBY : Hid (ch n K ≤ 9223372036854775807) := by
      have : ch n K ≤ 9223372036854775807 := by rw [hy]; exact hby
      exact this
    rw [← hK, hy]
    clear r7 ih hval hy hx hmul hN hK hm hkn hn hgN hn7 hz0 hyz hz hby
    go_enter Try.func73, Try.ntmps73
    have hmax : m + k < maxLen := by unfold maxLen; omega
    have HMX := Lib.hid hmax
    clear hmax
    go_wp2_with (first
      | (at_lookup; refine wpList_cmap_lookz _ rfl _ _ rfl M m rfl HM.out n K hn60 hK60 rfl ?_; intro c ok hok)
      | (go_at_fn 73; refine IH.out.mono ?_; rintro e w1 ⟨rfl, hR1, hg1⟩; have HR1 := Lib.hid hR1; have HG1 := Lib.hid hg1; obtain ⟨s1, _, s3, s4, _, _, _⟩ := hR1; clear hg1)
      | (at_mapUpdate; refine wpList_cmap_putz _ rfl _ _ _ rfl M (m + k) rfl HR1.out.map HMX.out n K hn60 hK60 HBY.out rfl _ rfl (HV.out.trans (by rw [HY.out])) ?_; intro w2 hM2 hg2))
    · go_ret
      have hR2 := HR1.out.put hg2 hM2
      rw [show m + k + 1 = m + K by rw [HK.out]; omega] at hR2
      exact ⟨by rw [HV.out]; rfl, hR2, HG1.out.trans hg2⟩
    · rename_i hc
      have e : c = (y : Int) := by rw [hok (by simpa using hc), HY.out]
      go_ret
      exact ⟨by rw [e]; rfl, HR.out.mono (by omega), Mem.but_refl _ _⟩

/-- .. at numbers that are given as such. -/
theorem choose1_g (A C M : Nat) (n k m : Nat) (zn zk : Int) (hzn : zn = (n : Int)) (hzk : zk = (k : Int)) (x : Nat) (hx : ch n k = x) (w : World) (hkn : k ≤ n) (hn : goodB n k) (hm : m + 7 < 1099511627776) (hR : Rem w A C M m) :
    Calls Try.prog 73 #[.int .i64 zn, .int .i64 zk, .pointer (some ⟨A, 0, none⟩), .pointer (some ⟨C, 0, none⟩)] w fun e w' => e = .returned (.int .i64 (x : Int)) ∧ Rem w' A C M (m + 7) ∧ w.grownBy w' (some M) := by
  subst hzn hzk hx
  have := good_nat hn
  refine (choose1_good A C M k n m w hkn hn (by omega) hR).mono ?_
  rintro e w' ⟨rfl, h1, h2⟩
  exact ⟨rfl, h1.mono (by omega), h2⟩

set_option maxRecDepth 100000 in
theorem hasCas_b (m k : Int) (b : Bool) (hb : fineB m k = b) (w : World) : Calls Try.prog 46 #[.int .i64 m, .int .i64 k] w fun e w' => e = .returned (.bool b) ∧ w = w' := by
  have e : fineB m k = (decide (0 ≤ m) && (decide (m ≤ 1000) && (decide (1 ≤ k) && decide (k ≤ 6)))) := by
    unfold fineB
    rw [Bool.eq_iff_iff]
    simp only [Bool.and_eq_true, decide_eq_true_eq]
    omega
  rw [e] at hb
  clear e
  cases h1 : decide (0 ≤ m) with
  | false =>
    obtain rfl : b = false := by rw [← hb, h1]; rfl
    clear hb
    go_enter Try.func46, Try.ntmps46
    go_wp2
    go_ret
    exact ⟨rfl, rfl⟩
  | true =>
    cases h2 : decide (m ≤ 1000) with
    | false =>
      obtain rfl : b = false := by rw [← hb, h1, h2]; rfl
      clear hb
      go_enter Try.func46, Try.ntmps46
      go_wp2
      go_ret
      exact ⟨rfl, rfl⟩
    | true =>
      cases h3 : decide (1 ≤ k) with
      | false =>
        obtain rfl : b = false := by rw [← hb, h1, h2, h3]; rfl
        clear hb
        go_enter Try.func46, Try.ntmps46
        go_wp2
        go_ret
        exact ⟨rfl, rfl⟩
      | true =>
        rw [h1, h2, h3] at hb
        have HB : Hid (decide (k ≤ 6) = b) := hb
        clear hb
        go_enter Try.func46, Try.ntmps46
        go_wp2
        go_ret
        exact ⟨by rw [HB.out]; rfl, rfl⟩

end Go.Proofs.Ytmonaiojejbhkaa
