/-
  WALKS: spec's chapter 10: Choose, HNumbers.
-/
import Derived.Test.YtamoejjkaebhkaaHnLaw
import Derived.Test.YtamoejjkaebhkaaWCnt5
import Derived.IntWalk
namespace Go.Proofs.Ytamoejjkaebhkaa
open Go.RowKit
open Sets Hn

set_option maxRecDepth 100000 in
set_option maxHeartbeats 4000000 in
theorem specChooseN_any (m k : Nat) (hm : m ≤ 60) (hk : k ≤ m) (w : World) : Calls Try.prog 27 #[.int .i64 (m : Int), .int .i64 (k : Int)] w fun e w' => e = .returned (.int .i64 (ch m k : Nat)) ∧ w = w' := by
  have h1 : inB 0 60 (m : Int) = true := by rw [inB_iff]; omega
  have h2 : inB 0 (m : Int) (k : Int) = true := by rw [inB_iff]; omega
  have H1 := Lib.hid h1
  have H2 := Lib.hid h2
  clear h1 h2
  go_enter Try.func27, Try.ntmps27
  go_wp2_with fail
  refine (in_b _ _ _ true H1.out _).mono ?_
  rintro e w' ⟨rfl, rfl⟩
  go_wp2_with fail
  refine (in_b _ _ _ true H2.out _).mono ?_
  rintro e w' ⟨rfl, rfl⟩
  go_wp2
  go_loop [5, 6] (fun v i => ∃ j : Nat, j ≤ k ∧ i = .int .i64 (j : Int) ∧ v = .int .i64 (ch m j : Nat)) (fun _ i => k - (intOf i).toNat)
  case atStart => exact ⟨0, Nat.zero_le _, rfl, by rw [ch_zero]; rfl⟩
  case round =>
    obtain ⟨j, hj, rfl, rfl⟩ := hrel
    by_cases hlt : j < k
    · have hs1 := ch_step m j (by omega)
      have hby := ch_big m (j + 1) hm
      obtain ⟨y, hy⟩ : ∃ y, ch m (j + 1) = y := ⟨_, rfl⟩
      obtain ⟨x, hx⟩ : ∃ x, ch m j = x := ⟨_, rfl⟩
      rw [hy, hx] at hs1
      rw [hy] at hby
      have HY := Lib.hid hy
      have HX := Lib.hid hx
      have hval : wrap64 ((wrap64 ((x : Int) * ((m : Int) - (j : Int)))).tdiv ((j : Int) + 1)) = (y : Int) := by
        have e1 : (m : Int) - (j : Int) = ((m - j : Nat) : Int) := by omega
        have e2 : (x : Int) * ((m - j : Nat) : Int) = ((y * (j + 1) : Nat) : Int) := by rw [hs1]; simp
        have hz : y * (j + 1) ≤ 118264581564861424 * 60 := Nat.mul_le_mul hby (by omega)
        have e3 : ((y * (j + 1) : Nat) : Int).tdiv ((j : Int) + 1) = (y : Int) := by
          have : ((y * (j + 1) : Nat) : Int) = (y : Int) * ((j : Int) + 1) := by simp
          rw [this]
          exact Int.mul_tdiv_cancel _ (by omega)
        rw [e1, e2]
        generalize y * (j + 1) = z at hz e3
        rw [IntWalk.wrap64_in (z : Int) (by omega), e3, IntWalk.wrap64_in (y : Int) (by omega)]
      have HV := Lib.hid hval
      clear hs1 hy hx hval
      rw [HX.out]
      go_wp2
      refine ⟨⟨j + 1, by omega, by go_num, ?_⟩, by simp [intOf]; omega⟩
      rw [HV.out, HY.out]
    · have E := Lib.hid (show j = k by omega)
      go_wp2
      go_ret
      exact ⟨by rw [← E.out]; rfl, rfl⟩

/-- .. at numbers that are given as such. -/
theorem specChoose_z (m k : Nat) (zm zk : Int) (hzm : zm = (m : Int)) (hzk : zk = (k : Int)) (x : Nat) (hx : ch m k = x) (hm : m ≤ 60) (hk : k ≤ m) (w : World) : Calls Try.prog 27 #[.int .i64 zm, .int .i64 zk] w fun e w' => e = .returned (.int .i64 (x : Int)) ∧ w = w' := by
  subst hzm hzk hx
  exact specChooseN_any m k hm hk w

set_option maxRecDepth 100000 in
set_option maxHeartbeats 4000000 in
theorem specChooseZ_any (n k : Int) (w : World) : Calls Try.prog 27 #[.int .i64 n, .int .i64 k] w fun e w' => e = .returned (.int .i64 (chZ n k)) ∧ Below w.heap.size w w' := by
  cases h1 : inB 0 60 n with
  | false =>
    have e : chZ n k = 0 := by
      unfold chZ; rw [if_neg (fun hh => by
        have : inB 0 60 n = true := by rw [inB_iff]; omega
        rw [h1] at this; cases this)]
    rw [e]
    have H1 := Lib.hid h1
    clear h1
    go_enter Try.func27, Try.ntmps27
    go_wp2_with fail
    refine (in_b _ _ _ false H1.out _).mono ?_
    rintro e w' ⟨rfl, rfl⟩
    go_wp2
    go_ret
    exact ⟨rfl, Below.refl _ _⟩
  | true =>
    cases h2 : inB 0 n k with
    | false =>
      have e : chZ n k = 0 := by
        unfold chZ; rw [if_neg (fun hh => by
          have : inB 0 n k = true := by rw [inB_iff]; omega
          rw [h2] at this; cases this)]
      rw [e]
      have H1 := Lib.hid h1
      have H2 := Lib.hid h2
      clear h1 h2
      go_enter Try.func27, Try.ntmps27
      go_wp2_with fail
      refine (in_b _ _ _ true H1.out _).mono ?_
      rintro e w' ⟨rfl, rfl⟩
      go_wp2_with fail
      refine (in_b _ _ _ false H2.out _).mono ?_
      rintro e w' ⟨rfl, rfl⟩
      go_wp2
      go_ret
      exact ⟨rfl, Below.refl _ _⟩
    | true =>
      rw [inB_iff] at h1 h2
      have e : chZ n k = (ch n.toNat k.toNat : Int) := by unfold chZ; rw [if_pos (by omega)]
      rw [e]
      refine (specChoose_z n.toNat k.toNat n k (by omega) (by omega) _ rfl (by omega) (by omega) w).mono ?_
      rintro e w' ⟨rfl, rfl⟩
      exact ⟨rfl, Below.refl _ _⟩

end Go.Proofs.Ytamoejjkaebhkaa
