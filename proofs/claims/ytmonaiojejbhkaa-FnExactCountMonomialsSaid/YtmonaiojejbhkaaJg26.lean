/-
  TEXTS of one claim, put together: WMonS2, Mon2, WMonI3.
-/
import Derived.Test.YtmonaiojejbhkaaWMonS1
import Derived.Test.YtmonaiojejbhkaaJg12
import Derived.Deep.RegionHeld3
import Derived.Test.YtmonaiojejbhkaaJg23
import Derived.Test.YtmonaiojejbhkaaJg5
import Derived.Test.YtmonaiojejbhkaaJg13
/-! WALKS: spec's chapter 12: CountMonomials, MonomialsOf, FirstMonomials. -/

namespace Go.Proofs.Ytmonaiojejbhkaa
open Go.RowKit
open Sets Hn Kk Mon

theorem wide_at {n : Nat} (h : n ≤ 60) {k : Nat} (j : Nat) (_ : j ≤ k) : ch n j * n ≤ 7100000000000000000 := Nat.le_trans (Nat.mul_le_mul (ch_big n j h) h) (by decide)

set_option maxRecDepth 100000 in
set_option maxHeartbeats 4000000 in
theorem l11Ch_wide (n k : Nat) (hg : n ≤ 60 ∧ k ≤ 60) (w : World) : Calls Try.prog 51 #[.int .i64 (n : Int), .int .i64 (k : Int)] w fun e w' => e = .returned (.int .i64 (ch n k : Nat)) ∧ w = w' := by
  have hd0 : decide ((k : Int) < 0) = false := by simp
  by_cases hkn : n < k
  · have hd1 : decide (n < k) = true := by simpa using hkn
    rw [ch_gt n k hkn]
    go_enter Try.func51, Try.ntmps51
    go_wp2
    go_ret
    exact ⟨rfl, rfl⟩
  · have hd1 : decide (n < k) = false := by simpa using hkn
    have HG := Lib.hid (fun j hj => wide_at (k := k) hg.1 j hj)
    have hn1 : n ≤ 60 := hg.1
    have hk7 : k ≤ 60 := hg.2
    clear hg
    go_enter Try.func51, Try.ntmps51
    go_wp2
    go_loop [5, 6] (fun v i => ∃ j : Nat, j ≤ k ∧ i = .int .i64 (j : Int) ∧ v = .int .i64 (ch n j : Nat)) (fun _ i => k - (intOf i).toNat)
    case atStart => exact ⟨0, Nat.zero_le _, rfl, by rw [ch_zero]; rfl⟩
    case round =>
      obtain ⟨j, hj, rfl, rfl⟩ := hrel
      by_cases hlt : j < k
      · have hs1 := ch_step n j (by omega)
        have hb1 := HG.out j (by omega)
        obtain ⟨y, hy⟩ : ∃ y, ch n (j + 1) = y := ⟨_, rfl⟩
        obtain ⟨x, hx⟩ : ∃ x, ch n j = x := ⟨_, rfl⟩
        rw [hy, hx] at hs1
        rw [hx] at hb1
        have HY := Lib.hid hy
        have HX := Lib.hid hx
        have hval : wrap64 ((wrap64 ((x : Int) * ((n : Int) - (j : Int)))).tdiv ((j : Int) + 1)) = (y : Int) := by
          have e1 : (n : Int) - (j : Int) = ((n - j : Nat) : Int) := by omega
          have e2 : (x : Int) * ((n - j : Nat) : Int) = ((y * (j + 1) : Nat) : Int) := by rw [hs1]; simp
          have hz : y * (j + 1) ≤ 7100000000000000000 := by
            rw [hs1]
            exact Nat.le_trans (Nat.mul_le_mul_left x (Nat.sub_le n j)) hb1
          have hyz : y ≤ y * (j + 1) := Nat.le_mul_of_pos_right y (by omega)
          have e3 : ((y * (j + 1) : Nat) : Int).tdiv ((j : Int) + 1) = (y : Int) := by
            have : ((y * (j + 1) : Nat) : Int) = (y : Int) * ((j : Int) + 1) := by simp
            rw [this]
            exact Int.mul_tdiv_cancel _ (by omega)
          rw [e1, e2]
          generalize y * (j + 1) = z at hz e3 hyz
          rw [IntWalk.wrap64_in (z : Int) (by omega), e3, IntWalk.wrap64_in (y : Int) (by omega)]
        have HV := Lib.hid hval
        clear hs1 hy hx hval hb1
        rw [HX.out]
        go_wp2
        refine ⟨⟨j + 1, by omega, by go_num, ?_⟩, by simp [intOf]; omega⟩
        rw [HV.out, HY.out]
      · have E := Lib.hid (show j = k by omega)
        go_wp2
        go_ret
        exact ⟨by rw [← E.out]; rfl, rfl⟩

theorem l11Ch_w (n k : Nat) (zn zk : Int) (hzn : zn = (n : Int)) (hzk : zk = (k : Int)) (x : Int) (hx : ((ch n k : Nat) : Int) = x) (hg : n ≤ 60 ∧ k ≤ 60) (w : World) : Calls Try.prog 51 #[.int .i64 zn, .int .i64 zk] w fun e w' => e = .returned (.int .i64 x) ∧ w = w' := by
  subst hzn hzk hx
  exact l11Ch_wide n k hg w

set_option maxRecDepth 100000 in
set_option maxHeartbeats 4000000 in
theorem specCountM_any (n d : Int) (w : World) : Calls Try.prog 26 #[.int .i64 n, .int .i64 d] w fun e w' => e = .returned (.int .i64 (countZ n d)) ∧ w = w' := by
  cases h1 : inB 1 6 n with
  | false =>
    have HR : Hid (countZ n d = -1) := by
      have : countZ n d = -1 := by
        unfold countZ
        rw [if_neg (fun e => by
          have : inB 1 6 n = true := by rw [inB_iff]; omega
          rw [h1] at this; cases this)]
      exact this
    have H1 := Lib.hid h1
    rw [HR.out]
    clear h1
    go_enter Try.func26, Try.ntmps26
    go_wp2_with fail
    refine (in_b _ _ _ false H1.out _).mono ?_
    rintro e w' ⟨rfl, rfl⟩
    go_wp2
    go_ret
    exact ⟨rfl, rfl⟩
  | true =>
    cases h2 : inB 0 20 d with
    | false =>
      have HR : Hid (countZ n d = -1) := by
        have : countZ n d = -1 := by
          unfold countZ
          rw [if_neg (fun e => by
            have : inB 0 20 d = true := by rw [inB_iff]; omega
            rw [h2] at this; cases this)]
        exact this
      have H1 := Lib.hid h1
      have H2 := Lib.hid h2
      rw [HR.out]
      clear h1 h2
      go_enter Try.func26, Try.ntmps26
      go_wp2_with fail
      refine (in_b _ _ _ true H1.out _).mono ?_
      rintro e w' ⟨rfl, rfl⟩
      go_wp2_with fail
      refine (in_b _ _ _ false H2.out _).mono ?_
      rintro e w' ⟨rfl, rfl⟩
      go_wp2
      go_ret
      exact ⟨rfl, rfl⟩
    | true =>
      have H1 := Lib.hid h1
      have H2 := Lib.hid h2
      rw [inB_iff] at h1 h2
      obtain ⟨z, hz⟩ : ∃ z, countZ n d = z := ⟨_, rfl⟩
      have hzc : ((ch (n.toNat - 1 + d.toNat) d.toNat : Nat) : Int) = z := by
        rw [← hz]; unfold countZ; rw [if_pos (by omega)]
      have HC := Lib.hid (fun W => l11Ch_w (n.toNat - 1 + d.toNat) d.toNat (n + d - 1) d (by omega) (by omega) z hzc (by omega) W)
      rw [hz]
      clear hz hzc
      go_enter Try.func26, Try.ntmps26
      go_wp2_with fail
      refine (in_b _ _ _ true H1.out _).mono ?_
      rintro e w' ⟨rfl, rfl⟩
      go_wp2_with fail
      refine (in_b _ _ _ true H2.out _).mono ?_
      rintro e w' ⟨rfl, rfl⟩
      go_wp2_with fail
      refine (HC.out _).mono ?_
      rintro e w' ⟨rfl, rfl⟩
      go_wp2
      go_ret
      exact ⟨rfl, rfl⟩

end Go.Proofs.Ytmonaiojejbhkaa

/-! MONOMIALS, of no program: the next lesser list with the same sum. -/

namespace Go.Proofs.Ytmonaiojejbhkaa.Mon
open Sets Hn Kk

/-- The greatest place below p that can give one away gives it, and the place after it takes the rest. -/
def lowAt (L : List Int) (rest : Int) : Nat → Option (List Int)
  | 0 => none
  | p + 1 => if 0 < L.getD p 0 then some ((L.set p (L.getD p 0 - 1)).set (p + 1) rest) else lowAt L rest p
def lowO (L : List Int) : Option (List Int) := lowAt (L.set (L.length - 1) 0) (L.getD (L.length - 1) 0 + 1) (L.length - 1)
theorem lowAt_yes {L : List Int} {rest : Int} {p : Nat} (h : 0 < L.getD p 0) : lowAt L rest (p + 1) = some ((L.set p (L.getD p 0 - 1)).set (p + 1) rest) := by
  rw [lowAt, if_pos h]
theorem lowAt_no {L : List Int} {rest : Int} {p : Nat} (h : ¬ 0 < L.getD p 0) : lowAt L rest (p + 1) = lowAt L rest p := by
  rw [lowAt, if_neg h]

def chainB : List (List Int) → Bool
  | [] => true
  | [L] => decide (lowO L = none)
  | L :: K :: T => decide (lowO L = some K) && chainB (K :: T)
theorem chain_all : ∀ r : Fin 6, ∀ d : Fin 6, chainB (fillR r.val d.val) = true := by decide +kernel
theorem chain_next : ∀ (M : List (List Int)) (k : Nat), chainB M = true → k + 1 < M.length → lowO (M.getD k []) = some (M.getD (k + 1) [])
  | [], k, _, h => by simp at h
  | [L], k, _, h => by simp at h
  | L :: K :: T, 0, hc, _ => by
    rw [chainB, Bool.and_eq_true, decide_eq_true_eq] at hc
    exact hc.1
  | L :: K :: T, k + 1, hc, h => by
    rw [chainB, Bool.and_eq_true] at hc
    have := chain_next (K :: T) k hc.2 (by simpa using h)
    simpa using this
theorem chain_last : ∀ (M : List (List Int)) (k : Nat), chainB M = true → k + 1 = M.length → lowO (M.getD k []) = none
  | [], k, _, h => by simp at h
  | [L], k, hc, h => by
    rw [chainB, decide_eq_true_eq] at hc
    have : k = 0 := by simpa using h
    subst this
    exact hc
  | L :: K :: T, 0, _, h => by simp at h
  | L :: K :: T, k + 1, hc, h => by
    rw [chainB, Bool.and_eq_true] at hc
    have := chain_last (K :: T) k hc.2 (by simpa using h)
    simpa using this
theorem first_all : ∀ r : Fin 6, ∀ d : Fin 6, (fillR r.val d.val).getD 0 [] = ((List.replicate (r.val + 1) (0 : Int)).set 0 (d.val : Int)) := by decide +kernel

/-- CountMonomials by the bars' places. -/
theorem ch_bars : ∀ n : Fin 6, ∀ d : Fin 21, ch (n.val + d.val) n.val = ch (n.val + d.val) d.val := by decide +kernel

end Go.Proofs.Ytmonaiojejbhkaa.Mon

/-! WALKS: impl's chapter 12: CountMonomials. -/

namespace Go.Proofs.Ytmonaiojejbhkaa
open Go.RowKit
open Sets Hn Kk Mon

theorem chooseI_b (n k z : Int) (hz : chZ n k = z) (w : World) : Calls Try.prog 57 #[.int .i64 n, .int .i64 k] w fun e w' => e = .returned (.int .i64 z) ∧ Below w.heap.size w w' := by
  subst hz; exact implChooseZ_any n k w
theorem countZ_choose (n d : Int) (h1 : 1 ≤ n) (h6 : n ≤ 6) (h0 : 0 ≤ d) (h20 : d ≤ 20) : chZ (n + d - 1) (n - 1) = countZ n d := by
  unfold countZ chZ
  rw [if_pos (by omega), if_pos ⟨h1, h6, h0, h20⟩]
  have := ch_bars ⟨n.toNat - 1, by omega⟩ ⟨d.toNat, by omega⟩
  dsimp only at this
  rw [show (n + d - 1).toNat = n.toNat - 1 + d.toNat by omega, show (n - 1).toNat = n.toNat - 1 by omega, this]
theorem countZ_no (n d : Int) (h : ¬(1 ≤ n ∧ n ≤ 6 ∧ 0 ≤ d ∧ d ≤ 20)) : countZ n d = -1 := by
  unfold countZ; rw [if_neg h]

set_option maxRecDepth 100000 in
set_option maxHeartbeats 2000000 in
theorem implCountM_any (n d : Int) (w : World) : Calls Try.prog 25 #[.int .i64 n, .int .i64 d] w fun e w' => e = .returned (.int .i64 (countZ n d)) ∧ Below w.heap.size w w' := by
  cases hN : inB 1 6 n with
  | false =>
    have e : countZ n d = -1 := countZ_no n d (fun h => by
      have : inB 1 6 n = true := (inB_iff _ _ _).2 ⟨h.1, h.2.1⟩
      rw [hN] at this; cases this)
    rw [e]
    have HN := Lib.hid hN
    clear hN e
    go_enter Try.func25, Try.ntmps25
    go_wp2_with fail
    refine (pointCount_b n false HN.out _).mono ?_
    rintro e w' ⟨rfl, rfl⟩
    go_wp2
    go_ret
    exact ⟨rfl, Below.refl _ _⟩
  | true =>
    have HN := Lib.hid hN
    have hn := (inB_iff _ _ _).1 hN
    by_cases h0 : d < 0
    · have hd0 : decide (d < 0) = true := by simpa using h0
      rw [countZ_no n d (by omega)]
      clear hN hn h0
      go_enter Try.func25, Try.ntmps25
      go_wp2_with fail
      refine (pointCount_b n true HN.out _).mono ?_
      rintro e w' ⟨rfl, rfl⟩
      go_wp2
      go_ret
      exact ⟨rfl, Below.refl _ _⟩
    have hd0 : decide (d < 0) = false := by simpa using h0
    by_cases h20 : 20 < d
    · have hd2 : decide (20 < d) = true := by simpa using h20
      rw [countZ_no n d (by omega)]
      clear hN hn h0 h20
      go_enter Try.func25, Try.ntmps25
      go_wp2_with fail
      refine (pointCount_b n true HN.out _).mono ?_
      rintro e w' ⟨rfl, rfl⟩
      go_wp2
      go_ret
      exact ⟨rfl, Below.refl _ _⟩
    have hd2 : decide (20 < d) = false := by simpa using h20
    obtain ⟨z, hz⟩ : ∃ z, countZ n d = z := ⟨_, rfl⟩
    rw [hz]
    have HZ : Hid (chZ (n + d - 1) (n - 1) = z) := by
      have : chZ (n + d - 1) (n - 1) = z := by rw [countZ_choose n d hn.1 hn.2 (by omega) (by omega), hz]
      exact this
    have h1 := hn.1
    have h6 := hn.2
    clear hN hz hn
    go_enter Try.func25, Try.ntmps25
    go_wp2_with fail
    refine (pointCount_b n true HN.out _).mono ?_
    rintro e w' ⟨rfl, rfl⟩
    go_wp2_with fail
    refine (chooseI_b _ _ z HZ.out _).mono ?_
    rintro e w1 ⟨rfl, hb1⟩
    have HB1 := Lib.hid hb1
    clear hb1
    go_wp2
    go_ret
    exact ⟨rfl, HB1.out⟩

end Go.Proofs.Ytmonaiojejbhkaa
