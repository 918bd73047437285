/-
  TEXTS of one claim, put together: WMonI1, WKkP1, WKkS2.
-/
import Derived.Test.YtmonaiojejbhkaaWKkI2
import Derived.Test.YtmonaiojejbhkaaWKkS1
import Derived.Test.YtmonaiojejbhkaaJg15
import Derived.Test.YtmonaiojejbhkaaJg7
import Derived.Deep.RegionHeld3
/-! WALKS: impl's chapter 12: PowerBound (XWKkI3's walk, read at 1). -/

namespace Go.Proofs.Ytmonaiojejbhkaa
open Go.RowKit
open Sets Hn Kk

set_option maxRecDepth 100000 in
set_option maxHeartbeats 4000000 in
theorem implPower_any (m k : Int) (w : World) : Calls Try.prog 17 #[.int .i64 m, .int .i64 k] w fun e w' => e = .returned (.int .i64 (boundZ 1 m k)) ∧ Below w.heap.size w w' := by
  cases hF : fineB m k with
  | false =>
    have HR : Hid (boundZ 1 m k = -1) := by
      have : boundZ 1 m k = -1 := by
        unfold boundZ
        rw [if_neg (fun e => by
          have := (fineB_iff m k).2 e
          rw [hF] at this
          cases this)]
      exact this
    have HF := Lib.hid hF
    rw [HR.out]
    clear hF
    go_enter Try.func17, Try.ntmps17
    go_wp2_with fail
    refine (hasCas_b m k false HF.out _).mono ?_
    rintro e w' ⟨rfl, rfl⟩
    go_wp2
    go_ret
    exact ⟨rfl, Below.refl _ _⟩
  | true =>
    have eg : ∀ args w, (callFunc 73 args).run Try.prog w = .ok (.enter 73 args) w := enters_of Try.func73 (by kernel_rfl) rfl
    obtain ⟨h0, h1, h2, h3⟩ := (fineB_iff m k).1 hF
    have HF := Lib.hid hF
    obtain ⟨Q, rfl⟩ : ∃ Q : Nat, m = (Q : Int) := ⟨m.toNat, by omega⟩
    obtain ⟨K, rfl⟩ : ∃ K : Nat, k = (K : Int) := ⟨k.toNat, by omega⟩
    have hM : Q ≤ 1000 := by omega
    have hK1 : 1 ≤ K := by omega
    have hK6 : K ≤ 6 := by omega
    have HR : Hid (boundZ 1 (Q : Int) (K : Int) = ((sumT (fun j x => ch (x + 1) (K - 1 - j + 2 * 1)) (casc K Q) (casc K Q).length : Nat) : Int)) := by
      have : boundZ 1 (Q : Int) (K : Int) = ((sumT (fun j x => ch (x + 1) (K - 1 - j + 2 * 1)) (casc K Q) (casc K Q).length : Nat) : Int) := by
        rw [boundZ_in hM hK1 hK6, sh_sum]
      exact this
    have hcl := casc_le K Q
    have HGOOD := Lib.hid (casc_good1 K Q hK1 hK6 hM)
    have HSUM := Lib.hid (casc_sum_le1 K Q hK1 hK6 hM)
    have HATS := Lib.hid (fun j h => (casc_at K Q j hM h).1)
    rw [HR.out]
    obtain ⟨CS, hCS⟩ : ∃ CS, casc K Q = CS := ⟨_, rfl⟩
    have HCS := Lib.hid hCS
    rw [hCS] at hcl HGOOD HSUM HATS ⊢
    have HIL := Lib.hid (ofN_length CS)
    have HIA := Lib.hid (ofN_at CS)
    clear hF hCS h0 h1 h2 h3
    go_enter Try.func17, Try.ntmps17
    go_wp2_with fail
    refine (hasCas_b (Q : Int) (K : Int) true HF.out _).mono ?_
    rintro e w' ⟨rfl, rfl⟩
    go_wp2_with fail
    refine (remember_any _).mono ?_
    rintro e w0 ⟨A, C, M, rfl, hA, hC, hM', hR, hb0⟩
    have HR0 := Lib.hid hR
    have HB0 := Lib.hid hb0
    unfold remV
    clear hR hb0
    go_wp2_with fail
    refine (implCasc_in Q K hK1 hK6 hM _).mono ?_
    rw [HCS.out]
    rintro e w1 ⟨v1, rfl, hO1, hb1⟩
    obtain ⟨a1, d1, g1, rfl, hg1, hr1⟩ := hO1.at
    have hsz0 := HB0.out.size
    have hsM : M < w0.heap.size := HR0.out.map.lt
    have hgM : g1 ≠ M := by omega
    have HB1 : Hid (Below w.heap.size w w1) := HB0.out.trans (hb1.mono hsz0)
    have HRM1 := Lib.hid (HR0.out.keeps hb1)
    have HR1 := Lib.hid hr1
    clear hO1 hr1 hb1 hg1 HB0 HR0 hsz0 hsM
    rw [HIL.out]
    obtain ⟨l, hl⟩ : ∃ l, CS.length = l := ⟨_, rfl⟩
    have HL := Lib.hid hl
    rw [hl] at hcl ⊢
    clear hl
    go_wp2
    go_loopw [6, 18] (fun s i wr => ∃ j : Nat, j ≤ l ∧ i = .int .i64 (j : Int) ∧ s = .int .i64 ((sumT (fun j x => ch (x + 1) (K - 1 - j + 2 * 1)) CS j : Nat) : Int) ∧ IntsAt wr g1 a1 (ofN CS) ∧ Rem wr A C M (7 * j) ∧ Below w.heap.size w wr) (fun _ i _ => l - (intOf i).toNat)
    case atStart => exact ⟨0, Nat.zero_le _, rfl, rfl, HR1.out, HRM1.out, HB1.out⟩
    case round =>
      clear HR1 HRM1 HB1
      obtain ⟨j, hj, rfl, rfl, hr, hRem, hB⟩ := hrel
      have HR1 := Lib.hid hr
      have HRM := Lib.hid hRem
      have HB := Lib.hid hB
      clear hr hRem hB
      by_cases hlt : j < l
      · obtain ⟨b, o, rfl, g⟩ := HR1.out.ints j (by rw [HIL.out, HL.out]; exact hlt)
        rw [HIA.out j (by rw [HL.out]; exact hlt)] at g
        have hgood := HGOOD.out j (by rw [HL.out]; exact hlt)
        have hat := HATS.out j (by rw [HL.out]; exact hlt)
        have hs1 := HSUM.out (j + 1) (by rw [HL.out]; omega)
        have hnx : sumT (fun j x => ch (x + 1) (K - 1 - j + 2 * 1)) CS (j + 1) = sumT (fun j x => ch (x + 1) (K - 1 - j + 2 * 1)) CS j + ch (CS.getD j 0 + 1) (K - 1 - j + 2 * 1) := rfl
        obtain ⟨x, hx⟩ : ∃ x, CS.getD j 0 = x := ⟨_, rfl⟩
        obtain ⟨y, hy⟩ : ∃ y, ch (x + 1) (K - 1 - j + 2 * 1) = y := ⟨_, rfl⟩
        obtain ⟨S0, hS0⟩ : ∃ S0, sumT (fun j x => ch (x + 1) (K - 1 - j + 2 * 1)) CS j = S0 := ⟨_, rfl⟩
        obtain ⟨S1, hS1⟩ : ∃ S1, sumT (fun j x => ch (x + 1) (K - 1 - j + 2 * 1)) CS (j + 1) = S1 := ⟨_, rfl⟩
        rw [hx] at g hgood hnx hat
        rw [hS0, hS1, hy] at hnx
        rw [hS1] at hs1
        have HCALL : Hid (Calls Try.prog 73 #[.int .i64 ((x : Int) + 1), .int .i64 ((K : Int) - (j : Int) + 1), .pointer (some ⟨A, 0, none⟩), .pointer (some ⟨C, 0, none⟩)] wr fun e w' => e = .returned (.int .i64 (y : Int)) ∧ Rem w' A C M (7 * j + 7) ∧ wr.grownBy w' (some M)) := by
          have : Calls Try.prog 73 #[.int .i64 ((x : Int) + 1), .int .i64 ((K : Int) - (j : Int) + 1), .pointer (some ⟨A, 0, none⟩), .pointer (some ⟨C, 0, none⟩)] wr fun e w' => e = .returned (.int .i64 (y : Int)) ∧ Rem w' A C M (7 * j + 7) ∧ wr.grownBy w' (some M) := choose1_g A C M (x + 1) (K - 1 - j + 2 * 1) (7 * j) _ _ (by omega) (by omega) y hy wr (by omega) hgood (by omega) HRM.out
          exact this
        have HN : Hid (S0 + y = S1) := hnx.symm
        have HS0 := Lib.hid hS0
        have HS1 := Lib.hid hS1
        have hbs : S0 + y ≤ 400000000 := by omega
        have hxb : x ≤ 1001 := by unfold goodB at hgood; omega
        clear hx hy hnx hS1 hgood hs1 hat
        rw [hS0]
        clear hS0
        go_wp2_with (go_at_fn 73; refine HCALL.out.mono ?_; rintro e w2 ⟨rfl, hR2, hg2⟩)
        have hB2 : Below w.heap.size w w2 := HB.out.trans (Mem.below_of_but hg2 hM' HB.out.size)
        go_roundw
        case rel => exact ⟨j + 1, by omega, by go_num, by rw [HS1.out, ← HN.out]; simp, HR1.out.far hg2 hgM, hR2.mono (by omega), hB2⟩
        case measure => simp [intOf]; omega
      · have E := Lib.hid (show j = l by omega)
        go_wp2
        go_ret
        exact ⟨by rw [E.out, HL.out]; rfl, HB.out⟩

end Go.Proofs.Ytmonaiojejbhkaa

/-! WALKS: spec's chapter 12: PowerBound (written by genkk1.py). -/

namespace Go.Proofs.Ytmonaiojejbhkaa
open Go.RowKit
open Sets Hn Kk

set_option maxRecDepth 100000 in
set_option maxHeartbeats 4000000 in
theorem specPower_any (m k : Int) (w : World) : Calls Try.prog 18 #[.int .i64 m, .int .i64 k] w fun e w' => e = .returned (.int .i64 (boundZ 1 m k)) ∧ Below w.heap.size w w' := by
  cases hF : fineB m k with
  | false =>
    have HR : Hid (boundZ 1 m k = -1) := by
      have : boundZ 1 m k = -1 := by
        unfold boundZ
        rw [if_neg (fun e => by
          have := (fineB_iff m k).2 e
          rw [hF] at this
          cases this)]
      exact this
    have HF := Lib.hid hF
    rw [HR.out]
    clear hF
    go_enter Try.func18, Try.ntmps18
    go_wp2_with fail
    refine (fine_b m k false HF.out _).mono ?_
    rintro e w' ⟨rfl, rfl⟩
    go_wp2
    go_ret
    exact ⟨rfl, Below.refl _ _⟩
  | true =>
    obtain ⟨h0, h1, h2, h3⟩ := (fineB_iff m k).1 hF
    have HF := Lib.hid hF
    obtain ⟨M, rfl⟩ : ∃ M : Nat, m = (M : Int) := ⟨m.toNat, by omega⟩
    obtain ⟨K, rfl⟩ : ∃ K : Nat, k = (K : Int) := ⟨k.toNat, by omega⟩
    have hM : M ≤ 1000 := by omega
    have hK1 : 1 ≤ K := by omega
    have hK6 : K ≤ 6 := by omega
    have HR : Hid (boundZ 1 (M : Int) (K : Int) = ((sumT (fun j x => ch (x + 1) (K - 1 - j + 2 * 1)) (casc K M) (casc K M).length : Nat) : Int)) := by
      have : boundZ 1 (M : Int) (K : Int) = ((sumT (fun j x => ch (x + 1) (K - 1 - j + 2 * 1)) (casc K M) (casc K M).length : Nat) : Int) := by
        rw [boundZ_in hM hK1 hK6, sh_sum]
      exact this
    have hcl := casc_le K M
    have HGOOD := Lib.hid (casc_good1 K M hK1 hK6 hM)
    have HSUM := Lib.hid (casc_sum_le1 K M hK1 hK6 hM)
    rw [HR.out]
    obtain ⟨C, hC⟩ : ∃ C, casc K M = C := ⟨_, rfl⟩
    have HC := Lib.hid hC
    rw [hC] at hcl HGOOD HSUM ⊢
    have HIL := Lib.hid (ofN_length C)
    have HIA := Lib.hid (ofN_at C)
    clear hF hC h0 h1 h2 h3
    go_enter Try.func18, Try.ntmps18
    go_wp2_with fail
    refine (fine_b (M : Int) (K : Int) true HF.out _).mono ?_
    rintro e w' ⟨rfl, rfl⟩
    go_wp2_with fail
    refine (l11Casc_any M K hK1 hK6 hM _).mono ?_
    rw [HC.out]
    rintro e w1 ⟨v1, rfl, hO1, hb1⟩
    obtain ⟨a1, d1, g1, rfl, hg1, hr1⟩ := hO1.at
    have HB1 := Lib.hid hb1
    have HR1 := Lib.hid hr1.ints
    clear hO1 hr1 hb1 hg1
    rw [HIL.out]
    obtain ⟨l, hl⟩ : ∃ l, C.length = l := ⟨_, rfl⟩
    have HL := Lib.hid hl
    rw [hl] at hcl ⊢
    clear hl
    go_wp2
    go_loop [5, 7] (fun s i => ∃ j : Nat, j ≤ l ∧ i = .int .i64 (j : Int) ∧ s = .int .i64 ((sumT (fun j x => ch (x + 1) (K - 1 - j + 2 * 1)) C j : Nat) : Int)) (fun _ i => l - (intOf i).toNat)
    case atStart => exact ⟨0, Nat.zero_le _, rfl, rfl⟩
    case round =>
      obtain ⟨j, hj, rfl, rfl⟩ := hrel
      by_cases hlt : j < l
      · obtain ⟨b, o, rfl, g⟩ := HR1.out j (by rw [HIL.out, HL.out]; exact hlt)
        rw [HIA.out j (by rw [HL.out]; exact hlt)] at g
        have hgood := HGOOD.out j (by rw [HL.out]; exact hlt)
        have hs1 := HSUM.out (j + 1) (by rw [HL.out]; omega)
        have hnx : sumT (fun j x => ch (x + 1) (K - 1 - j + 2 * 1)) C (j + 1) = sumT (fun j x => ch (x + 1) (K - 1 - j + 2 * 1)) C j + ch (C.getD j 0 + 1) (K - 1 - j + 2 * 1) := rfl
        obtain ⟨x, hx⟩ : ∃ x, C.getD j 0 = x := ⟨_, rfl⟩
        obtain ⟨y, hy⟩ : ∃ y, ch (x + 1) (K - 1 - j + 2 * 1) = y := ⟨_, rfl⟩
        obtain ⟨S0, hS0⟩ : ∃ S0, sumT (fun j x => ch (x + 1) (K - 1 - j + 2 * 1)) C j = S0 := ⟨_, rfl⟩
        obtain ⟨S1, hS1⟩ : ∃ S1, sumT (fun j x => ch (x + 1) (K - 1 - j + 2 * 1)) C (j + 1) = S1 := ⟨_, rfl⟩
        rw [hx] at g hgood hnx
        rw [hS0, hS1, hy] at hnx
        rw [hS1] at hs1
        have HCALL : Hid (∀ W, Calls Try.prog 51 #[.int .i64 ((x : Int) + 1), .int .i64 ((K : Int) - (j : Int) + 1)] W fun e w' => e = .returned (.int .i64 (y : Int)) ∧ W = w') := by
          have : ∀ W, Calls Try.prog 51 #[.int .i64 ((x : Int) + 1), .int .i64 ((K : Int) - (j : Int) + 1)] W fun e w' => e = .returned (.int .i64 (y : Int)) ∧ W = w' := fun W => l11Ch_z (x + 1) (K - 1 - j + 2 * 1) _ _ (by omega) (by omega) y hy hgood W
          exact this
        have HN : Hid (S0 + y = S1) := hnx.symm
        have HS0 := Lib.hid hS0
        have HS1 := Lib.hid hS1
        have hbs : S0 + y ≤ 400000000 := by omega
        have hxb : x ≤ 1001 := by unfold goodB at hgood; omega
        clear hx hy hnx hS1 hgood hs1
        rw [hS0]
        clear hS0
        go_wp2_with fail
        refine (HCALL.out _).mono ?_
        rintro e w' ⟨rfl, rfl⟩
        go_wp2
        exact ⟨⟨j + 1, by omega, by go_num, by rw [HS1.out, ← HN.out]; simp⟩, by simp [intOf]; omega⟩
      · have E := Lib.hid (show j = l by omega)
        go_wp2
        go_ret
        exact ⟨by rw [E.out, HL.out]; rfl, HB1.out⟩

end Go.Proofs.Ytmonaiojejbhkaa

/-! WALKS: spec's chapter 11: FirstSets, AreFaceCounts. -/

namespace Go.Proofs.Ytmonaiojejbhkaa
open Go.RowKit
open Sets Hn Kk

theorem fs_no (k m : Int) (h : ¬(0 ≤ k ∧ k ≤ 6 ∧ 0 ≤ m ∧ m ≤ chZ 6 k)) : fsZ k m = [] := by
  unfold fsZ
  rw [if_neg (fun e => h (by
    refine ⟨e.1, e.2.1, e.2.2.1, ?_⟩
    unfold chZ
    rw [if_pos (by omega)]
    exact e.2.2.2))]

theorem chooseZ_b (n k z : Int) (hz : chZ n k = z) (w : World) : Calls Try.prog 62 #[.int .i64 n, .int .i64 k] w fun e w' => e = .returned (.int .i64 z) ∧ Below w.heap.size w w' := by
  subst hz; exact specChooseZ_any n k w

end Go.Proofs.Ytmonaiojejbhkaa
