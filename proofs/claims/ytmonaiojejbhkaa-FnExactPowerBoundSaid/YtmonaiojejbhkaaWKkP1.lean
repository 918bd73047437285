/-
  WALKS: spec's chapter 12: PowerBound (written by genkk1.py).
-/
import Derived.Test.YtmonaiojejbhkaaWKkS1
namespace Go.Proofs.Ytmonaiojejbhkaa
open Go.RowKit
open Sets Hn Kk

set_option maxRecDepth 100000 in
set_option maxHeartbeats 4000000 in
theorem specPower_any (m k : Int) (w : World) : Calls Try.prog 18 #[.int .i64 m, .int .i64 k] w fun e w' => e = .returned (.int .i64 (boundZ 1 m k)) ∧ Below w.heap.size w w' := by
  cases hF : fineB m k with
  | false =>
    have HR : Hid (boundZ 1 m k = -1) := by
      have : boundZ 1 m k = -1 := by
        unfold boundZ
        rw [if_neg (fun e => by
          have := (fineB_iff m k).2 e
          rw [hF] at this
          cases this)]
      exact this
    have HF := Lib.hid hF
    rw [HR.out]
    clear hF
    go_enter Try.func18, Try.ntmps18
    go_wp2_with fail
    refine (fine_b m k false HF.out _).mono ?_
    rintro e w' ⟨rfl, rfl⟩
    go_wp2
    go_ret
    exact ⟨rfl, Below.refl _ _⟩
  | true =>
    obtain ⟨h0, h1, h2, h3⟩ := (fineB_iff m k).1 hF
    have HF := Lib.hid hF
    obtain ⟨M, rfl⟩ : ∃ M : Nat, m = (M : Int) := ⟨m.toNat, by omega⟩
    obtain ⟨K, rfl⟩ : ∃ K : Nat, k = (K : Int) := ⟨k.toNat, by omega⟩
    have hM : M ≤ 1000 := by omega
    have hK1 : 1 ≤ K := by omega
    have hK6 : K ≤ 6 := by omega
    have HR : Hid (boundZ 1 (M : Int) (K : Int) = ((sumT (fun j x => ch (x + 1) (K - 1 - j + 2 * 1)) (casc K M) (casc K M).length : Nat) : Int)) := by
      have : boundZ 1 (M : Int) (K : Int) = ((sumT (fun j x => ch (x + 1) (K - 1 - j + 2 * 1)) (casc K M) (casc K M).length : Nat) : Int) := by
        rw [boundZ_in hM hK1 hK6, sh_sum]
      exact this
    have hcl := casc_le K M
    have HGOOD := Lib.hid (casc_good1 K M hK1 hK6 hM)
    have HSUM := Lib.hid (casc_sum_le1 K M hK1 hK6 hM)
    rw [HR.out]
    obtain ⟨C, hC⟩ : ∃ C, casc K M = C := ⟨_, rfl⟩
    have HC := Lib.hid hC
    rw [hC] at hcl HGOOD HSUM ⊢
    have HIL := Lib.hid (ofN_length C)
    have HIA := Lib.hid (ofN_at C)
    clear hF hC h0 h1 h2 h3
    go_enter Try.func18, Try.ntmps18
    go_wp2_with fail
    refine (fine_b (M : Int) (K : Int) true HF.out _).mono ?_
    rintro e w' ⟨rfl, rfl⟩
    go_wp2_with fail
    refine (l11Casc_any M K hK1 hK6 hM _).mono ?_
    rw [HC.out]
    rintro e w1 ⟨v1, rfl, hO1, hb1⟩
    obtain ⟨a1, d1, g1, rfl, hg1, hr1⟩ := hO1.at
    have HB1 := Lib.hid hb1
    have HR1 := Lib.hid hr1.ints
    clear hO1 hr1 hb1 hg1
    rw [HIL.out]
    obtain ⟨l, hl⟩ : ∃ l, C.length = l := ⟨_, rfl⟩
    have HL := Lib.hid hl
    rw [hl] at hcl ⊢
    clear hl
    go_wp2
    go_loop [5, 7] (fun s i => ∃ j : Nat, j ≤ l ∧ i = .int .i64 (j : Int) ∧ s = .int .i64 ((sumT (fun j x => ch (x + 1) (K - 1 - j + 2 * 1)) C j : Nat) : Int)) (fun _ i => l - (intOf i).toNat)
    case atStart => exact ⟨0, Nat.zero_le _, rfl, rfl⟩
    case round =>
      obtain ⟨j, hj, rfl, rfl⟩ := hrel
      by_cases hlt : j < l
      · obtain ⟨b, o, rfl, g⟩ := HR1.out j (by rw [HIL.out, HL.out]; exact hlt)
        rw [HIA.out j (by rw [HL.out]; exact hlt)] at g
        have hgood := HGOOD.out j (by rw [HL.out]; exact hlt)
        have hs1 := HSUM.out (j + 1) (by rw [HL.out]; omega)
        have hnx : sumT (fun j x => ch (x + 1) (K - 1 - j + 2 * 1)) C (j + 1) = sumT (fun j x => ch (x + 1) (K - 1 - j + 2 * 1)) C j + ch (C.getD j 0 + 1) (K - 1 - j + 2 * 1) := rfl
        obtain ⟨x, hx⟩ : ∃ x, C.getD j 0 = x := ⟨_, rfl⟩
        obtain ⟨y, hy⟩ : ∃ y, ch (x + 1) (K - 1 - j + 2 * 1) = y := ⟨_, rfl⟩
        obtain ⟨S0, hS0⟩ : ∃ S0, sumT (fun j x => ch (x + 1) (K - 1 - j + 2 * 1)) C j = S0 := ⟨_, rfl⟩
        obtain ⟨S1, hS1⟩ : ∃ S1, sumT (fun j x => ch (x + 1) (K - 1 - j + 2 * 1)) C (j + 1) = S1 := ⟨_, rfl⟩
        rw [hx] at g hgood hnx
        rw [hS0, hS1, hy] at hnx
        rw [hS1] at hs1
        have HCALL : Hid (∀ W, Calls Try.prog 51 #[.int .i64 ((x : Int) + 1), .int .i64 ((K : Int) - (j : Int) + 1)] W fun e w' => e = .returned (.int .i64 (y : Int)) ∧ W = w') := by
          have : ∀ W, Calls Try.prog 51 #[.int .i64 ((x : Int) + 1), .int .i64 ((K : Int) - (j : Int) + 1)] W fun e w' => e = .returned (.int .i64 (y : Int)) ∧ W = w' := fun W => l11Ch_z (x + 1) (K - 1 - j + 2 * 1) _ _ (by omega) (by omega) y hy hgood W
          exact this
        have HN : Hid (S0 + y = S1) := hnx.symm
        have HS0 := Lib.hid hS0
        have HS1 := Lib.hid hS1
        have hbs : S0 + y ≤ 400000000 := by omega
        have hxb : x ≤ 1001 := by unfold goodB at hgood; omega
        clear hx hy hnx hS1 hgood hs1
        rw [hS0]
        clear hS0
        go_wp2_with fail
        refine (HCALL.out _).mono ?_
        rintro e w' ⟨rfl, rfl⟩
        go_wp2
        exact ⟨⟨j + 1, by omega, by go_num, by rw [HS1.out, ← HN.out]; simp⟩, by simp [intOf]; omega⟩
      · have E := Lib.hid (show j = l by omega)
        go_wp2
        go_ret
        exact ⟨by rw [E.out, HL.out]; rfl, HB1.out⟩

end Go.Proofs.Ytmonaiojejbhkaa
