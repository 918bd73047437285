/-
  TEXTS of one claim, put together: WMonI1, WKkP1, HnLaw, WHS1.
-/
import Derived.Test.YtmonaiojejbhkaaWKkI2
import Derived.Test.YtmonaiojejbhkaaJg12
import Derived.Test.YtmonaiojejbhkaaJg4
import Derived.IntWalk
/-! WALKS: impl's chapter 12: PowerBound (XWKkI3's walk, read at 1). -/

namespace Go.Proofs.Ytmonaiojejbhkaa
open Go.RowKit
open Sets Hn Kk

set_option maxRecDepth 100000 in
set_option maxHeartbeats 4000000 in
theorem implPower_any (m k : Int) (w : World) : Calls Try.prog 17 #[.int .i64 m, .int .i64 k] w fun e w' => e = .returned (.int .i64 (boundZ 1 m k)) ∧ Below w.heap.size w w' := by
  cases hF : fineB m k with
  | false =>
    have HR : Hid (boundZ 1 m k = -1) := by
      have : boundZ 1 m k = -1 := by
        unfold boundZ
        rw [if_neg (fun e => by
          have := (fineB_iff m k).2 e
          rw [hF] at this
          cases this)]
      exact this
    have HF := Lib.hid hF
    rw [HR.out]
    clear hF
    go_enter Try.func17, Try.ntmps17
    go_wp2_with fail
    refine (hasCas_b m k false HF.out _).mono ?_
    rintro e w' ⟨rfl, rfl⟩
    go_wp2
    go_ret
    exact ⟨rfl, Below.refl _ _⟩
  | true =>
    have eg : ∀ args w, (callFunc 73 args).run Try.prog w = .ok (.enter 73 args) w := enters_of Try.func73 (by kernel_rfl) rfl
    obtain ⟨h0, h1, h2, h3⟩ := (fineB_iff m k).1 hF
    have HF := Lib.hid hF
    obtain ⟨Q, rfl⟩ : ∃ Q : Nat, m = (Q : Int) := ⟨m.toNat, by omega⟩
    obtain ⟨K, rfl⟩ : ∃ K : Nat, k = (K : Int) := ⟨k.toNat, by omega⟩
    have hM : Q ≤ 1000 := by omega
    have hK1 : 1 ≤ K := by omega
    have hK6 : K ≤ 6 := by omega
    have HR : Hid (boundZ 1 (Q : Int) (K : Int) = ((sumT (fun j x => ch (x + 1) (K - 1 - j + 2 * 1)) (casc K Q) (casc K Q).length : Nat) : Int)) := by
      have : boundZ 1 (Q : Int) (K : Int) = ((sumT (fun j x => ch (x + 1) (K - 1 - j + 2 * 1)) (casc K Q) (casc K Q).length : Nat) : Int) := by
        rw [boundZ_in hM hK1 hK6, sh_sum]
      exact this
    have hcl := casc_le K Q
    have HGOOD := Lib.hid (casc_good1 K Q hK1 hK6 hM)
    have HSUM := Lib.hid (casc_sum_le1 K Q hK1 hK6 hM)
    have HATS := Lib.hid (fun j h => (casc_at K Q j hM h).1)
    rw [HR.out]
    obtain ⟨CS, hCS⟩ : ∃ CS, casc K Q = CS := ⟨_, rfl⟩
    have HCS := Lib.hid hCS
    rw [hCS] at hcl HGOOD HSUM HATS ⊢
    have HIL := Lib.hid (ofN_length CS)
    have HIA := Lib.hid (ofN_at CS)
    clear hF hCS h0 h1 h2 h3
    go_enter Try.func17, Try.ntmps17
    go_wp2_with fail
    refine (hasCas_b (Q : Int) (K : Int) true HF.out _).mono ?_
    rintro e w' ⟨rfl, rfl⟩
    go_wp2_with fail
    refine (remember_any _).mono ?_
    rintro e w0 ⟨A, C, M, rfl, hA, hC, hM', hR, hb0⟩
    have HR0 := Lib.hid hR
    have HB0 := Lib.hid hb0
    unfold remV
    clear hR hb0
    go_wp2_with fail
    refine (implCasc_in Q K hK1 hK6 hM _).mono ?_
    rw [HCS.out]
    rintro e w1 ⟨v1, rfl, hO1, hb1⟩
    obtain ⟨a1, d1, g1, rfl, hg1, hr1⟩ := hO1.at
    have hsz0 := HB0.out.size
    have hsM : M < w0.heap.size := HR0.out.map.lt
    have hgM : g1 ≠ M := by omega
    have HB1 : Hid (Below w.heap.size w w1) := HB0.out.trans (hb1.mono hsz0)
    have HRM1 := Lib.hid (HR0.out.keeps hb1)
    have HR1 := Lib.hid hr1
    clear hO1 hr1 hb1 hg1 HB0 HR0 hsz0 hsM
    rw [HIL.out]
    obtain ⟨l, hl⟩ : ∃ l, CS.length = l := ⟨_, rfl⟩
    have HL := Lib.hid hl
    rw [hl] at hcl ⊢
    clear hl
    go_wp2
    go_loopw [6, 18] (fun s i wr => ∃ j : Nat, j ≤ l ∧ i = .int .i64 (j : Int) ∧ s = .int .i64 ((sumT (fun j x => ch (x + 1) (K - 1 - j + 2 * 1)) CS j : Nat) : Int) ∧ IntsAt wr g1 a1 (ofN CS) ∧ Rem wr A C M (7 * j) ∧ Below w.heap.size w wr) (fun _ i _ => l - (intOf i).toNat)
    case atStart => exact ⟨0, Nat.zero_le _, rfl, rfl, HR1.out, HRM1.out, HB1.out⟩
    case round =>
      clear HR1 HRM1 HB1
      obtain ⟨j, hj, rfl, rfl, hr, hRem, hB⟩ := hrel
      have HR1 := Lib.hid hr
      have HRM := Lib.hid hRem
      have HB := Lib.hid hB
      clear hr hRem hB
      by_cases hlt : j < l
      · obtain ⟨b, o, rfl, g⟩ := HR1.out.ints j (by rw [HIL.out, HL.out]; exact hlt)
        rw [HIA.out j (by rw [HL.out]; exact hlt)] at g
        have hgood := HGOOD.out j (by rw [HL.out]; exact hlt)
        have hat := HATS.out j (by rw [HL.out]; exact hlt)
        have hs1 := HSUM.out (j + 1) (by rw [HL.out]; omega)
        have hnx : sumT (fun j x => ch (x + 1) (K - 1 - j + 2 * 1)) CS (j + 1) = sumT (fun j x => ch (x + 1) (K - 1 - j + 2 * 1)) CS j + ch (CS.getD j 0 + 1) (K - 1 - j + 2 * 1) := rfl
        obtain ⟨x, hx⟩ : ∃ x, CS.getD j 0 = x := ⟨_, rfl⟩
        obtain ⟨y, hy⟩ : ∃ y, ch (x + 1) (K - 1 - j + 2 * 1) = y := ⟨_, rfl⟩
        obtain ⟨S0, hS0⟩ : ∃ S0, sumT (fun j x => ch (x + 1) (K - 1 - j + 2 * 1)) CS j = S0 := ⟨_, rfl⟩
        obtain ⟨S1, hS1⟩ : ∃ S1, sumT (fun j x => ch (x + 1) (K - 1 - j + 2 * 1)) CS (j + 1) = S1 := ⟨_, rfl⟩
        rw [hx] at g hgood hnx hat
        rw [hS0, hS1, hy] at hnx
        rw [hS1] at hs1
        have HCALL : Hid (Calls Try.prog 73 #[.int .i64 ((x : Int) + 1), .int .i64 ((K : Int) - (j : Int) + 1), .pointer (some ⟨A, 0, none⟩), .pointer (some ⟨C, 0, none⟩)] wr fun e w' => e = .returned (.int .i64 (y : Int)) ∧ Rem w' A C M (7 * j + 7) ∧ wr.grownBy w' (some M)) := by
          have : Calls Try.prog 73 #[.int .i64 ((x : Int) + 1), .int .i64 ((K : Int) - (j : Int) + 1), .pointer (some ⟨A, 0, none⟩), .pointer (some ⟨C, 0, none⟩)] wr fun e w' => e = .returned (.int .i64 (y : Int)) ∧ Rem w' A C M (7 * j + 7) ∧ wr.grownBy w' (some M) := choose1_g A C M (x + 1) (K - 1 - j + 2 * 1) (7 * j) _ _ (by omega) (by omega) y hy wr (by omega) hgood (by omega) HRM.out
          exact this
        have HN : Hid (S0 + y = S1) := hnx.symm
        have HS0 := Lib.hid hS0
        have HS1 := Lib.hid hS1
        have hbs : S0 + y ≤ 400000000 := by omega
        have hxb : x ≤ 1001 := by unfold goodB at hgood; omega
        clear hx hy hnx hS1 hgood hs1 hat
        rw [hS0]
        clear hS0
        go_wp2_with (go_at_fn 73; refine HCALL.out.mono ?_; rintro e w2 ⟨rfl, hR2, hg2⟩)
        have hB2 : Below w.heap.size w w2 := HB.out.trans (Mem.below_of_but hg2 hM' HB.out.size)
        go_roundw
        case rel => exact ⟨j + 1, by omega, by go_num, by rw [HS1.out, ← HN.out]; simp, HR1.out.far hg2 hgM, hR2.mono (by omega), hB2⟩
        case measure => simp [intOf]; omega
      · have E := Lib.hid (show j = l by omega)
        go_wp2
        go_ret
        exact ⟨by rw [E.out, HL.out]; rfl, HB.out⟩

end Go.Proofs.Ytmonaiojejbhkaa

/-! WALKS: spec's chapter 12: PowerBound (written by genkk1.py). -/

namespace Go.Proofs.Ytmonaiojejbhkaa
open Go.RowKit
open Sets Hn Kk

set_option maxRecDepth 100000 in
set_option maxHeartbeats 4000000 in
theorem specPower_any (m k : Int) (w : World) : Calls Try.prog 18 #[.int .i64 m, .int .i64 k] w fun e w' => e = .returned (.int .i64 (boundZ 1 m k)) ∧ Below w.heap.size w w' := by
  cases hF : fineB m k with
  | false =>
    have HR : Hid (boundZ 1 m k = -1) := by
      have : boundZ 1 m k = -1 := by
        unfold boundZ
        rw [if_neg (fun e => by
          have := (fineB_iff m k).2 e
          rw [hF] at this
          cases this)]
      exact this
    have HF := Lib.hid hF
    rw [HR.out]
    clear hF
    go_enter Try.func18, Try.ntmps18
    go_wp2_with fail
    refine (fine_b m k false HF.out _).mono ?_
    rintro e w' ⟨rfl, rfl⟩
    go_wp2
    go_ret
    exact ⟨rfl, Below.refl _ _⟩
  | true =>
    obtain ⟨h0, h1, h2, h3⟩ := (fineB_iff m k).1 hF
    have HF := Lib.hid hF
    obtain ⟨M, rfl⟩ : ∃ M : Nat, m = (M : Int) := ⟨m.toNat, by omega⟩
    obtain ⟨K, rfl⟩ : ∃ K : Nat, k = (K : Int) := ⟨k.toNat, by omega⟩
    have hM : M ≤ 1000 := by omega
    have hK1 : 1 ≤ K := by omega
    have hK6 : K ≤ 6 := by omega
    have HR : Hid (boundZ 1 (M : Int) (K : Int) = ((sumT (fun j x => ch (x + 1) (K - 1 - j + 2 * 1)) (casc K M) (casc K M).length : Nat) : Int)) := by
      have : boundZ 1 (M : Int) (K : Int) = ((sumT (fun j x => ch (x + 1) (K - 1 - j + 2 * 1)) (casc K M) (casc K M).length : Nat) : Int) := by
        rw [boundZ_in hM hK1 hK6, sh_sum]
      exact this
    have hcl := casc_le K M
    have HGOOD := Lib.hid (casc_good1 K M hK1 hK6 hM)
    have HSUM := Lib.hid (casc_sum_le1 K M hK1 hK6 hM)
    rw [HR.out]
    obtain ⟨C, hC⟩ : ∃ C, casc K M = C := ⟨_, rfl⟩
    have HC := Lib.hid hC
    rw [hC] at hcl HGOOD HSUM ⊢
    have HIL := Lib.hid (ofN_length C)
    have HIA := Lib.hid (ofN_at C)
    clear hF hC h0 h1 h2 h3
    go_enter Try.func18, Try.ntmps18
    go_wp2_with fail
    refine (fine_b (M : Int) (K : Int) true HF.out _).mono ?_
    rintro e w' ⟨rfl, rfl⟩
    go_wp2_with fail
    refine (l11Casc_any M K hK1 hK6 hM _).mono ?_
    rw [HC.out]
    rintro e w1 ⟨v1, rfl, hO1, hb1⟩
    obtain ⟨a1, d1, g1, rfl, hg1, hr1⟩ := hO1.at
    have HB1 := Lib.hid hb1
    have HR1 := Lib.hid hr1.ints
    clear hO1 hr1 hb1 hg1
    rw [HIL.out]
    obtain ⟨l, hl⟩ : ∃ l, C.length = l := ⟨_, rfl⟩
    have HL := Lib.hid hl
    rw [hl] at hcl ⊢
    clear hl
    go_wp2
    go_loop [5, 7] (fun s i => ∃ j : Nat, j ≤ l ∧ i = .int .i64 (j : Int) ∧ s = .int .i64 ((sumT (fun j x => ch (x + 1) (K - 1 - j + 2 * 1)) C j : Nat) : Int)) (fun _ i => l - (intOf i).toNat)
    case atStart => exact ⟨0, Nat.zero_le _, rfl, rfl⟩
    case round =>
      obtain ⟨j, hj, rfl, rfl⟩ := hrel
      by_cases hlt : j < l
      · obtain ⟨b, o, rfl, g⟩ := HR1.out j (by rw [HIL.out, HL.out]; exact hlt)
        rw [HIA.out j (by rw [HL.out]; exact hlt)] at g
        have hgood := HGOOD.out j (by rw [HL.out]; exact hlt)
        have hs1 := HSUM.out (j + 1) (by rw [HL.out]; omega)
        have hnx : sumT (fun j x => ch (x + 1) (K - 1 - j + 2 * 1)) C (j + 1) = sumT (fun j x => ch (x + 1) (K - 1 - j + 2 * 1)) C j + ch (C.getD j 0 + 1) (K - 1 - j + 2 * 1) := rfl
        obtain ⟨x, hx⟩ : ∃ x, C.getD j 0 = x := ⟨_, rfl⟩
        obtain ⟨y, hy⟩ : ∃ y, ch (x + 1) (K - 1 - j + 2 * 1) = y := ⟨_, rfl⟩
        obtain ⟨S0, hS0⟩ : ∃ S0, sumT (fun j x => ch (x + 1) (K - 1 - j + 2 * 1)) C j = S0 := ⟨_, rfl⟩
        obtain ⟨S1, hS1⟩ : ∃ S1, sumT (fun j x => ch (x + 1) (K - 1 - j + 2 * 1)) C (j + 1) = S1 := ⟨_, rfl⟩
        rw [hx] at g hgood hnx
        rw [hS0, hS1, hy] at hnx
        rw [hS1] at hs1
        have HCALL : Hid (∀ W, Calls Try.prog 51 #[.int .i64 ((x : Int) + 1), .int .i64 ((K : Int) - (j : Int) + 1)] W fun e w' => e = .returned (.int .i64 (y : Int)) ∧ W = w') := by
          have : ∀ W, Calls Try.prog 51 #[.int .i64 ((x : Int) + 1), .int .i64 ((K : Int) - (j : Int) + 1)] W fun e w' => e = .returned (.int .i64 (y : Int)) ∧ W = w' := fun W => l11Ch_z (x + 1) (K - 1 - j + 2 * 1) _ _ (by omega) (by omega) y hy hgood W
          exact this
        have HN : Hid (S0 + y = S1) := hnx.symm
        have HS0 := Lib.hid hS0
        have HS1 := Lib.hid hS1
        have hbs : S0 + y ≤ 400000000 := by omega
        have hxb : x ≤ 1001 := by unfold goodB at hgood; omega
        clear hx hy hnx hS1 hgood hs1
        rw [hS0]
        clear hS0
        go_wp2_with fail
        refine (HCALL.out _).mono ?_
        rintro e w' ⟨rfl, rfl⟩
        go_wp2
        exact ⟨⟨j + 1, by omega, by go_num, by rw [HS1.out, ← HN.out]; simp⟩, by simp [intOf]; omega⟩
      · have E := Lib.hid (show j = l by omega)
        go_wp2
        go_ret
        exact ⟨by rw [E.out, HL.out]; rfl, HB1.out⟩

end Go.Proofs.Ytmonaiojejbhkaa

/-! H NUMBERS, of no program: what chapter 10's law says of them. -/

namespace Go.Proofs.Ytmonaiojejbhkaa.Hn
open Sets

theorem all_few : ∀ k : Fin 7, cnt k.val (ord fun _ => true) ≤ 20 := by decide +kernel
theorem cnt_few (n : Int) (xs : List Int) (k : Nat) : cnt k (faces n xs) ≤ 20 := by
  unfold faces
  split
  · rcases Nat.lt_or_ge k 7 with h | h
    · refine Nat.le_trans ?_ (all_few ⟨k, h⟩)
      rw [ord_filter]
      unfold cnt
      rw [List.countP_filter]
      apply List.countP_mono_left
      intro x _ hx
      rw [Bool.and_eq_true] at hx
      exact hx.1
    · have : cnt k (ord (inF xs)) = 0 := by
        unfold cnt
        rw [List.countP_eq_zero]
        intro x _ e
        rw [beq_iff_eq] at e
        have := pc_le x.toNat
        omega
      omega
  · exact Nat.zero_le _
theorem counts_few (n : Int) (xs : List Int) (j : Nat) : 0 ≤ (counts (faces n xs)).getD j 0 ∧ (counts (faces n xs)).getD j 0 ≤ 20 := by
  rcases Nat.lt_or_ge j (top (faces n xs)) with h | h
  · rw [counts_at _ j h]
    have := cnt_few n xs j
    omega
  · rw [List.getD, List.getElem?_eq_none (by rw [counts_length]; exact h)]
    exact ⟨Int.le_refl _, by decide⟩
theorem counts_le7 (L : List Int) : (counts L).length ≤ 7 := by rw [counts_length]; exact top_le L

theorem r2 : List.range 2 = [0, 1] := rfl
theorem r3 : List.range 3 = [0, 1, 2] := rfl
theorem r4 : List.range 4 = [0, 1, 2, 3] := rfl
theorem r5 : List.range 5 = [0, 1, 2, 3, 4] := rfl
theorem r6 : List.range 6 = [0, 1, 2, 3, 4, 5] := rfl
theorem r7 : List.range 7 = [0, 1, 2, 3, 4, 5, 6] := rfl

theorem short (P : List Int → Prop) (h0 : P []) (h1 : ∀ a, P [a]) (h2 : ∀ a b, P [a, b]) (h3 : ∀ a b c, P [a, b, c]) (h4 : ∀ a b c d, P [a, b, c, d]) (h5 : ∀ a b c d e, P [a, b, c, d, e]) (h6 : ∀ a b c d e f, P [a, b, c, d, e, f]) (h7 : ∀ a b c d e f g, P [a, b, c, d, e, f, g]) : ∀ L : List Int, L.length ≤ 7 → P L
  | [], _ => h0
  | [a], _ => h1 a
  | [a, b], _ => h2 a b
  | [a, b, c], _ => h3 a b c
  | [a, b, c, d], _ => h4 a b c d
  | [a, b, c, d, e], _ => h5 a b c d e
  | [a, b, c, d, e, f], _ => h6 a b c d e f
  | [a, b, c, d, e, f, g], _ => h7 a b c d e f g
  | _ :: _ :: _ :: _ :: _ :: _ :: _ :: _ :: _, h => by simp at h

/-- From h numbers back. -/
theorem back : ∀ L : List Int, L.length ≤ 7 → hsums 1 (hsums (-1) L) = L := by
  apply short
  · rfl
  all_goals
    intros
    simp [hsums, r2, r3, r4, r5, r6, r7, hs, pw, ch]
    try omega
/-- The h numbers are near. -/
theorem near : ∀ L : List Int, L.length ≤ 7 → (∀ j, 0 ≤ L.getD j 0 ∧ L.getD j 0 ≤ 20) → nearB (hsums (-1) L) = true := by
  apply short
  · intro _; rfl
  · intro a H
    have h0 := H 0
    simp at h0
    simp [nearB, hsums, hs, pw, ch]; omega
  · intro a b H
    have h0 := H 0; have h1 := H 1
    simp at h0 h1
    simp [nearB, hsums, r2, hs, pw, ch]; omega
  · intro a b c H
    have h0 := H 0; have h1 := H 1; have h2 := H 2
    simp at h0 h1 h2
    simp [nearB, hsums, r3, hs, pw, ch]; omega
  · intro a b c d H
    have h0 := H 0; have h1 := H 1; have h2 := H 2; have h3 := H 3
    simp at h0 h1 h2 h3
    simp [nearB, hsums, r4, hs, pw, ch]; omega
  · intro a b c d e H
    have h0 := H 0; have h1 := H 1; have h2 := H 2; have h3 := H 3; have h4 := H 4
    simp at h0 h1 h2 h3 h4
    simp [nearB, hsums, r5, hs, pw, ch]; omega
  · intro a b c d e f H
    have h0 := H 0; have h1 := H 1; have h2 := H 2; have h3 := H 3; have h4 := H 4; have h5 := H 5
    simp at h0 h1 h2 h3 h4 h5
    simp [nearB, hsums, r6, hs, pw, ch]; omega
  · intro a b c d e f g H
    have h0 := H 0; have h1 := H 1; have h2 := H 2; have h3 := H 3; have h4 := H 4; have h5 := H 5; have h6 := H 6
    simp at h0 h1 h2 h3 h4 h5 h6
    simp [nearB, hsums, r7, hs, pw, ch]; omega
/-- The first h number is the first count. -/
theorem first (s : Int) (L : List Int) (h : 0 < L.length) : (hsums s L).getD 0 0 = L.getD 0 0 := by
  rw [hsums_at s L 0 h]
  simp [hs, pw, ch_zero]
/-- The last one is the signed sum. -/
theorem last : ∀ L : List Int, L.length ≤ 7 → 0 < L.length → topZ (hsums (-1) L) = (2 * (((L.length - 1) % 2 : Nat) : Int) - 1) * ssumK L L.length := by
  apply short
  · intro h; simp at h
  all_goals
    intros
    simp [topZ, hsums, r2, r3, r4, r5, r6, r7, hs, pw, ch, ssumK, sgn]
    try omega

theorem hnum_length (n : Int) (xs : List Int) : (hnum n xs).length = (counts (faces n xs)).length := hsums_length _ _
theorem hnum_le7 (n : Int) (xs : List Int) : (hnum n xs).length ≤ 7 := by rw [hnum_length]; exact counts_le7 _
theorem hnum_near (n : Int) (xs : List Int) : nearB (hnum n xs) = true := near _ (counts_le7 _) (counts_few n xs)
theorem hnum_back (n : Int) (xs : List Int) : fromH (hnum n xs) = counts (faces n xs) := by
  unfold fromH
  have hl := hnum_le7 n xs
  have hn := hnum_near n xs
  have hb : hsums 1 (hnum n xs) = counts (faces n xs) := back _ (counts_le7 _)
  by_cases h : 0 < (hnum n xs).length
  · rw [if_pos ⟨h, hl, hn⟩, hb]
  · rw [if_neg (fun e => h e.1)]
    rw [hnum_length] at h
    exact (List.eq_nil_of_length_eq_zero (by omega)).symm
theorem hnum_top (n : Int) (xs : List Int) (h : 0 < (hnum n xs).length) : topZ (hnum n xs) = (2 * ((((hnum n xs).length - 1) % 2 : Nat) : Int) - 1) * eul (faces n xs) := by
  rw [hnum_length] at h ⊢
  rw [← counts_signed]
  exact last _ (counts_le7 _) h
theorem hnum_first (n : Int) (xs : List Int) (h : 0 < (hnum n xs).length) : (hnum n xs).getD 0 0 = 1 := by
  rw [hnum_length] at h
  have e := first (-1) _ h
  unfold hnum
  rw [e]
  rw [counts_length] at h
  rw [counts_at _ 0 h]
  have hne : faces n xs ≠ [] := by
    intro e0
    rw [e0] at h
    simp [top] at h
  unfold faces at hne ⊢
  split at hne
  · rename_i hC
    rw [if_pos hC]
    have h0 : inF xs 0 = true := by
      rcases List.exists_mem_of_ne_nil _ hne with ⟨x, hx⟩
      obtain ⟨s, rfl, hs, hp⟩ := (mem_ord _ _).1 hx
      unfold inF at hp ⊢
      rw [List.any_eq_true] at hp ⊢
      obtain ⟨f, hf, _⟩ := hp
      exact ⟨f, hf, by simp [sub]⟩
    have e1 : cnt 0 (ord (inF xs)) = ([0] : List Int).countP fun x => inF xs x.toNat := by
      have e : (ord fun _ => true).filter (fun x => pc x.toNat == 0) = [0] := by decide +kernel
      rw [← e, List.countP_filter, ord_filter (inF xs)]
      unfold cnt
      rw [List.countP_filter]
      apply List.countP_congr
      intro x _
      rw [Bool.and_comm]
    rw [e1]
    simp [h0]
  · exact absurd rfl hne
theorem fromH_le (h : List Int) : (fromH h).length ≤ 1048576 := by
  unfold fromH
  split
  · rename_i e; rw [hsums_length]; omega
  · simp
theorem hnum_le (n : Int) (xs : List Int) : (hnum n xs).length ≤ 1048576 := Nat.le_trans (hnum_le7 n xs) (by decide)
theorem gnum_le (n : Int) (xs : List Int) : (gnum (hnum n xs)).length ≤ 1048576 := by
  have h7 := hnum_le7 n xs
  rcases Nat.eq_zero_or_pos (hnum n xs).length with e | e
  · rw [List.eq_nil_of_length_eq_zero e]; simp [gnum]
  · rw [gnum_length _ e]; omega

end Go.Proofs.Ytmonaiojejbhkaa.Hn

/-! WALKS: spec's chapter 10: Choose, HNumbers. -/

namespace Go.Proofs.Ytmonaiojejbhkaa
open Go.RowKit
open Sets Hn

set_option maxRecDepth 100000 in
set_option maxHeartbeats 4000000 in
theorem specChooseN_any (m k : Nat) (hm : m ≤ 60) (hk : k ≤ m) (w : World) : Calls Try.prog 62 #[.int .i64 (m : Int), .int .i64 (k : Int)] w fun e w' => e = .returned (.int .i64 (ch m k : Nat)) ∧ w = w' := by
  have h1 : inB 0 60 (m : Int) = true := by rw [inB_iff]; omega
  have h2 : inB 0 (m : Int) (k : Int) = true := by rw [inB_iff]; omega
  have H1 := Lib.hid h1
  have H2 := Lib.hid h2
  clear h1 h2
  go_enter Try.func62, Try.ntmps62
  go_wp2_with fail
  refine (in_b _ _ _ true H1.out _).mono ?_
  rintro e w' ⟨rfl, rfl⟩
  go_wp2_with fail
  refine (in_b _ _ _ true H2.out _).mono ?_
  rintro e w' ⟨rfl, rfl⟩
  go_wp2
  go_loop [5, 6] (fun v i => ∃ j : Nat, j ≤ k ∧ i = .int .i64 (j : Int) ∧ v = .int .i64 (ch m j : Nat)) (fun _ i => k - (intOf i).toNat)
  case atStart => exact ⟨0, Nat.zero_le _, rfl, by rw [ch_zero]; rfl⟩
  case round =>
    obtain ⟨j, hj, rfl, rfl⟩ := hrel
    by_cases hlt : j < k
    · have hs1 := ch_step m j (by omega)
      have hby := ch_big m (j + 1) hm
      obtain ⟨y, hy⟩ : ∃ y, ch m (j + 1) = y := ⟨_, rfl⟩
      obtain ⟨x, hx⟩ : ∃ x, ch m j = x := ⟨_, rfl⟩
      rw [hy, hx] at hs1
      rw [hy] at hby
      have HY := Lib.hid hy
      have HX := Lib.hid hx
      have hval : wrap64 ((wrap64 ((x : Int) * ((m : Int) - (j : Int)))).tdiv ((j : Int) + 1)) = (y : Int) := by
        have e1 : (m : Int) - (j : Int) = ((m - j : Nat) : Int) := by omega
        have e2 : (x : Int) * ((m - j : Nat) : Int) = ((y * (j + 1) : Nat) : Int) := by rw [hs1]; simp
        have hz : y * (j + 1) ≤ 118264581564861424 * 60 := Nat.mul_le_mul hby (by omega)
        have e3 : ((y * (j + 1) : Nat) : Int).tdiv ((j : Int) + 1) = (y : Int) := by
          have : ((y * (j + 1) : Nat) : Int) = (y : Int) * ((j : Int) + 1) := by simp
          rw [this]
          exact Int.mul_tdiv_cancel _ (by omega)
        rw [e1, e2]
        generalize y * (j + 1) = z at hz e3
        rw [IntWalk.wrap64_in (z : Int) (by omega), e3, IntWalk.wrap64_in (y : Int) (by omega)]
      have HV := Lib.hid hval
      clear hs1 hy hx hval
      rw [HX.out]
      go_wp2
      refine ⟨⟨j + 1, by omega, by go_num, ?_⟩, by simp [intOf]; omega⟩
      rw [HV.out, HY.out]
    · have E := Lib.hid (show j = k by omega)
      go_wp2
      go_ret
      exact ⟨by rw [← E.out]; rfl, rfl⟩

/-- .. at numbers that are given as such. -/
theorem specChoose_z (m k : Nat) (zm zk : Int) (hzm : zm = (m : Int)) (hzk : zk = (k : Int)) (x : Nat) (hx : ch m k = x) (hm : m ≤ 60) (hk : k ≤ m) (w : World) : Calls Try.prog 62 #[.int .i64 zm, .int .i64 zk] w fun e w' => e = .returned (.int .i64 (x : Int)) ∧ w = w' := by
  subst hzm hzk hx
  exact specChooseN_any m k hm hk w

set_option maxRecDepth 100000 in
set_option maxHeartbeats 4000000 in
theorem specChooseZ_any (n k : Int) (w : World) : Calls Try.prog 62 #[.int .i64 n, .int .i64 k] w fun e w' => e = .returned (.int .i64 (chZ n k)) ∧ Below w.heap.size w w' := by
  cases h1 : inB 0 60 n with
  | false =>
    have e : chZ n k = 0 := by
      unfold chZ; rw [if_neg (fun hh => by
        have : inB 0 60 n = true := by rw [inB_iff]; omega
        rw [h1] at this; cases this)]
    rw [e]
    have H1 := Lib.hid h1
    clear h1
    go_enter Try.func62, Try.ntmps62
    go_wp2_with fail
    refine (in_b _ _ _ false H1.out _).mono ?_
    rintro e w' ⟨rfl, rfl⟩
    go_wp2
    go_ret
    exact ⟨rfl, Below.refl _ _⟩
  | true =>
    cases h2 : inB 0 n k with
    | false =>
      have e : chZ n k = 0 := by
        unfold chZ; rw [if_neg (fun hh => by
          have : inB 0 n k = true := by rw [inB_iff]; omega
          rw [h2] at this; cases this)]
      rw [e]
      have H1 := Lib.hid h1
      have H2 := Lib.hid h2
      clear h1 h2
      go_enter Try.func62, Try.ntmps62
      go_wp2_with fail
      refine (in_b _ _ _ true H1.out _).mono ?_
      rintro e w' ⟨rfl, rfl⟩
      go_wp2_with fail
      refine (in_b _ _ _ false H2.out _).mono ?_
      rintro e w' ⟨rfl, rfl⟩
      go_wp2
      go_ret
      exact ⟨rfl, Below.refl _ _⟩
    | true =>
      rw [inB_iff] at h1 h2
      have e : chZ n k = (ch n.toNat k.toNat : Int) := by unfold chZ; rw [if_pos (by omega)]
      rw [e]
      refine (specChoose_z n.toNat k.toNat n k (by omega) (by omega) _ rfl (by omega) (by omega) w).mono ?_
      rintro e w' ⟨rfl, rfl⟩
      exact ⟨rfl, Below.refl _ _⟩

end Go.Proofs.Ytmonaiojejbhkaa
