/-
  WALKS: spec's chapter 11: numbers of ways without bounds, cascades, ShadowBound (written by genkk1.py).
-/
import Derived.Test.YtmonaiojejbhkaaJg28
import Derived.Test.YtmonaiojejbhkaaJg15
import Derived.IntWalk
namespace Go.Proofs.Ytmonaiojejbhkaa
open Go.RowKit
open Sets Hn Kk

set_option maxRecDepth 100000 in
set_option maxHeartbeats 4000000 in
theorem l11Ch_any (n k : Nat) (hg : goodB n k) (w : World) : Calls Try.prog 51 #[.int .i64 (n : Int), .int .i64 (k : Int)] w fun e w' => e = .returned (.int .i64 (ch n k : Nat)) ∧ w = w' := by
  have hd0 : decide ((k : Int) < 0) = false := by simp
  by_cases hkn : n < k
  · have hd1 : decide (n < k) = true := by simpa using hkn
    rw [ch_gt n k hkn]
    go_enter Try.func51, Try.ntmps51
    go_wp2
    go_ret
    exact ⟨rfl, rfl⟩
  · have hd1 : decide (n < k) = false := by simpa using hkn
    have HG := Lib.hid (good_at hg)
    have hn1 : n ≤ 1001 := by unfold goodB at hg; omega
    have hk7 : k ≤ 7 := by unfold goodB at hg; omega
    clear hg
    go_enter Try.func51, Try.ntmps51
    go_wp2
    go_loop [5, 6] (fun v i => ∃ j : Nat, j ≤ k ∧ i = .int .i64 (j : Int) ∧ v = .int .i64 (ch n j : Nat)) (fun _ i => k - (intOf i).toNat)
    case atStart => exact ⟨0, Nat.zero_le _, rfl, by rw [ch_zero]; rfl⟩
    case round =>
      obtain ⟨j, hj, rfl, rfl⟩ := hrel
      by_cases hlt : j < k
      · have hs1 := ch_step n j (by omega)
        have hb1 := HG.out j (by omega)
        obtain ⟨y, hy⟩ : ∃ y, ch n (j + 1) = y := ⟨_, rfl⟩
        obtain ⟨x, hx⟩ : ∃ x, ch n j = x := ⟨_, rfl⟩
        rw [hy, hx] at hs1
        rw [hx] at hb1
        have HY := Lib.hid hy
        have HX := Lib.hid hx
        have hval : wrap64 ((wrap64 ((x : Int) * ((n : Int) - (j : Int)))).tdiv ((j : Int) + 1)) = (y : Int) := by
          have e1 : (n : Int) - (j : Int) = ((n - j : Nat) : Int) := by omega
          have e2 : (x : Int) * ((n - j : Nat) : Int) = ((y * (j + 1) : Nat) : Int) := by rw [hs1]; simp
          have hz : y * (j + 1) ≤ 4611686018427387904 := by
            rw [hs1]
            exact Nat.le_trans (Nat.mul_le_mul_left x (Nat.sub_le n j)) hb1
          have hyz : y ≤ y * (j + 1) := Nat.le_mul_of_pos_right y (by omega)
          have e3 : ((y * (j + 1) : Nat) : Int).tdiv ((j : Int) + 1) = (y : Int) := by
            have : ((y * (j + 1) : Nat) : Int) = (y : Int) * ((j : Int) + 1) := by simp
            rw [this]
            exact Int.mul_tdiv_cancel _ (by omega)
          rw [e1, e2]
          generalize y * (j + 1) = z at hz e3 hyz
          rw [IntWalk.wrap64_in (z : Int) (by omega), e3, IntWalk.wrap64_in (y : Int) (by omega)]
        have HV := Lib.hid hval
        clear hs1 hy hx hval hb1
        rw [HX.out]
        go_wp2
        refine ⟨⟨j + 1, by omega, by go_num, ?_⟩, by simp [intOf]; omega⟩
        rw [HV.out, HY.out]
      · have E := Lib.hid (show j = k by omega)
        go_wp2
        go_ret
        exact ⟨by rw [← E.out]; rfl, rfl⟩

/-- .. at numbers that are given as such. -/
theorem l11Ch_z (n k : Nat) (zn zk : Int) (hzn : zn = (n : Int)) (hzk : zk = (k : Int)) (x : Nat) (hx : ch n k = x) (hg : goodB n k) (w : World) : Calls Try.prog 51 #[.int .i64 zn, .int .i64 zk] w fun e w' => e = .returned (.int .i64 (x : Int)) ∧ w = w' := by
  subst hzn hzk hx
  exact l11Ch_any n k hg w

theorem fineB_iff (m k : Int) : fineB m k = true ↔ 0 ≤ m ∧ m ≤ 1000 ∧ 1 ≤ k ∧ k ≤ 6 := by
  unfold fineB
  rw [Bool.and_eq_true, decide_eq_true_eq, decide_eq_true_eq]
  omega
theorem fine_in (m k : Int) : fineB m k = (inB 0 1000 m && inB 1 6 k) := by
  rw [Bool.eq_iff_iff, fineB_iff, Bool.and_eq_true, inB_iff, inB_iff]
  omega

set_option maxRecDepth 100000 in
theorem fine_b (m k : Int) (b : Bool) (hb : fineB m k = b) (w : World) : Calls Try.prog 49 #[.int .i64 m, .int .i64 k] w fun e w' => e = .returned (.bool b) ∧ w = w' := by
  rw [fine_in] at hb
  cases h1 : inB 0 1000 m with
  | false =>
    have hb2 : b = false := by rw [← hb, h1]; rfl
    subst hb2
    have H1 := Lib.hid h1
    clear h1 hb
    go_enter Try.func49, Try.ntmps49
    go_wp2_with fail
    refine (in_b _ _ _ false H1.out _).mono ?_
    rintro e w' ⟨rfl, rfl⟩
    go_wp2
    go_ret
    exact ⟨rfl, rfl⟩
  | true =>
    have hb2 : inB 1 6 k = b := by rw [← hb, h1]; rfl
    have H1 := Lib.hid h1
    have H2 := Lib.hid hb2
    clear h1 hb hb2
    go_enter Try.func49, Try.ntmps49
    go_wp2_with fail
    refine (in_b _ _ _ true H1.out _).mono ?_
    rintro e w' ⟨rfl, rfl⟩
    go_wp2_with fail
    refine (in_b _ _ _ b H2.out _).mono ?_
    rintro e w' ⟨rfl, rfl⟩
    go_wp2
    go_ret
    exact ⟨rfl, rfl⟩

set_option maxRecDepth 100000 in
set_option maxHeartbeats 4000000 in
theorem l11Casc_any (m k : Nat) (hk1 : 1 ≤ k) (hk6 : k ≤ 6) (hm : m ≤ 1000) (w : World) :
    Calls Try.prog 50 #[.int .i64 (m : Int), .int .i64 (k : Int)] w fun e w' => ∃ v, e = .returned v ∧ OwnInts w' w.heap.size v (ofN (casc k m)) ∧ Below w.heap.size w w' := by
  obtain ⟨i0, hi, hz0, hz1, hz2⟩ := info_parts info_int
  obtain ⟨C, hC⟩ : ∃ C, casc k m = C := ⟨_, rfl⟩
  have HC := Lib.hid hC
  rw [hC]
  clear hC
  have HO0 := Lib.hid (OwnInts.lit w w.heap.size [] (Nat.le_refl _) (by simp))
  have HB0 : Hid (Below w.heap.size w (w.alloc (.cells #[] 3))) := Lib.hid ((Below.refl _ _).alloc (Nat.le_refl _) _)
  go_enter Try.func50, Try.ntmps50
  go_wp2
  go_loopw [0, 5, 6] (fun mv v iv wr => ∃ (i q : Nat) (D : List Nat) (aa : Option Addr) (cc l : Nat), i ≤ 6 ∧ q ≤ 1000 ∧ iv = .int .i64 (i : Int) ∧ mv = .int .i64 (q : Int) ∧ D ++ casc i q = C ∧ l + i = k ∧ v = .slice aa l cc ∧ D.length = l ∧ OwnInts wr w.heap.size (.slice aa l cc) (ofN D) ∧ Below w.heap.size w wr) (fun _ _ iv _ => (intOf iv).toNat)
  case atStart => exact ⟨k, m, [], _, _, 0, hk6, hm, rfl, rfl, HC.out, by omega, rfl, rfl, HO0.out, HB0.out⟩
  case round =>
    clear HO0 HB0
    obtain ⟨i, q, D, aa, cc, l, hi6, hq, rfl, rfl, hD, hli, rfl, hDl, hO, hB⟩ := hrel
    have HO := Lib.hid hO
    have HB := Lib.hid hB
    have HD := Lib.hid hD
    have HDL := Lib.hid hDl
    clear hO hB hD hDl
    by_cases hi0 : i = 0
    · subst hi0
      have HE : Hid (D = C) := by
        have : D = C := by rw [← HD.out, casc, List.append_nil]
        exact this
      go_wp2
      go_ret
      exact ⟨_, rfl, by rw [← HE.out]; exact HO.out, HB.out⟩
    · by_cases hq0 : q = 0
      · subst hq0
        have HE : Hid (D = C) := by
          have : D = C := by rw [← HD.out, casc_zero, List.append_nil]
          exact this
        have hdi : decide ((1 : Int) ≤ (i : Int)) = true := by simp; omega
        go_wp2
        go_ret
        exact ⟨_, rfl, by rw [← HE.out]; exact HO.out, HB.out⟩
      · have hdi : decide ((1 : Int) ≤ (i : Int)) = true := by simp; omega
        have hdq : decide (0 < q) = true := by simp; omega
        have hi1 : 1 ≤ i := by omega
        have HST : Hid (∀ a, ch a i ≤ q → q < ch (a + 1) i → i ≤ a → (D ++ [a]) ++ casc (i - 1) (q - ch a i) = C) := by
          have : ∀ a, ch a i ≤ q → q < ch (a + 1) i → i ≤ a → (D ++ [a]) ++ casc (i - 1) (q - ch a i) = C := fun a h1 h2 _ => by
            have hg := gr_unique hi1 (by omega) hq h1 h2
            rw [← HD.out]
            obtain ⟨I, rfl⟩ : ∃ I, i = I + 1 := ⟨i - 1, by omega⟩
            rw [casc, if_neg hq0, hg, List.append_assoc]
            rfl
          exact this
        have HGU := Lib.hid (fun a (h : ch a i ≤ q) => good_up i a q hi1 hi6 h hq)
        have HFULL := Lib.hid (ch_full i)
        clear hi0 hq0
        go_wp2
        go_loop [7] (fun v => ∃ a : Nat, v = .int .i64 (a : Int) ∧ i ≤ a ∧ ch a i ≤ q) (fun v => 1006 - (intOf v).toNat)
        case atStart => exact ⟨i, rfl, Nat.le_refl _, by rw [HFULL.out]; have := hdq; simp at this; omega⟩
        case round =>
          obtain ⟨a, rfl, hia, hca⟩ := hrel
          obtain ⟨hgd, ha, hgd2⟩ := HGU.out a hca
          obtain ⟨y, hy⟩ : ∃ y, ch (a + 1) i = y := ⟨_, rfl⟩
          obtain ⟨x, hx⟩ : ∃ x, ch a i = x := ⟨_, rfl⟩
          have HY := Lib.hid hy
          have HX := Lib.hid hx
          have HCALL : Hid (∀ W, Calls Try.prog 51 #[.int .i64 ((a : Int) + 1), .int .i64 (i : Int)] W fun e w' => e = .returned (.int .i64 (y : Int)) ∧ W = w') := by
            have : ∀ W, Calls Try.prog 51 #[.int .i64 ((a : Int) + 1), .int .i64 (i : Int)] W fun e w' => e = .returned (.int .i64 (y : Int)) ∧ W = w' := fun W => l11Ch_z (a + 1) i _ _ (by omega) rfl y hy hgd W
            exact this
          have HCALL2 : Hid (∀ W, Calls Try.prog 51 #[.int .i64 (a : Int), .int .i64 (i : Int)] W fun e w' => e = .returned (.int .i64 (x : Int)) ∧ W = w') := by
            have : ∀ W, Calls Try.prog 51 #[.int .i64 (a : Int), .int .i64 (i : Int)] W fun e w' => e = .returned (.int .i64 (x : Int)) ∧ W = w' := fun W => l11Ch_z a i _ _ rfl rfl x hx hgd2 W
            exact this
          rw [hx] at hca
          clear hy hx hgd hgd2
          by_cases hyq : y ≤ q
          · have hdy : decide (y ≤ q) = true := by simpa using hyq
            go_wp2_with fail
            refine (HCALL.out _).mono ?_
            rintro e w' ⟨rfl, rfl⟩
            go_wp2
            exact ⟨⟨a + 1, by go_num, by omega, by rw [HY.out]; exact hyq⟩, by simp [intOf]; omega⟩
          · have hdy : decide (y ≤ q) = false := by simpa using hyq
            have hst := HST.out a (by rw [HX.out]; exact hca) (by rw [HY.out]; omega) hia
            rw [HX.out] at hst
            have HST2 := Lib.hid hst
            have HO2 : Hid (wr.ownsRow w.heap.size 3 1 (.slice aa l cc) l ((ofN D).map (Value.int .i64))) := by
              have h := HO.out
              unfold OwnInts at h
              rw [ofN_length, HDL.out] at h
              exact h
            have hsz := HB.out.size
            clear hst
            go_wp2_with fail
            refine (HCALL.out _).mono ?_
            rintro e w' ⟨rfl, rfl⟩
            go_wp2_with (at_builtin; refine wpList_append_own_at _ rfl _ _ 26 rfl w.heap.size 3 i0 (.int .i64 0) 1 8 Try.underlying26 hi hz0 hz1 hz2 rfl (by decide) _ _ _ rfl (HO2.out.alloc _) ⟨wr.heap.size, 0, none⟩ 1 1 [.int .i64 (a : Int)] rfl rfl ?c1 ?c2 ?c3 ?c4 ?c5 ?_)
            case c1 => intro q u hq; exact Mem.cell_new wr _ _ q u hq
            case c2 => intro u hu; simp at hu; subst hu; rfl
            case c3 => unfold maxLen; omega
            case c4 => omega
            case c5 => simp; omega
            intro v' w3 hown1 hgrow _ hob
            have hB3 : Below w.heap.size w w3 := (HB.out.alloc hsz _).grown hgrow (by simp; omega) (fun g hg => (HO2.out.lt g hg).1)
            have hDN : (ofN (D ++ [a])).length = l + 1 := by rw [ofN_length, List.length_append, HDL.out]; rfl
            have hO3 : OwnInts w3 w.heap.size v' (ofN (D ++ [a])) := by
              rw [ofN_snoc]
              unfold OwnInts
              rw [List.length_append, List.map_append, ofN_length, HDL.out]
              exact hown1
            obtain ⟨a2, c2, _, rfl, _⟩ := OwnInts.ata hO3 hB3.size
            rw [hDN] at hO3
            rw [hDN]
            have HO3 := Lib.hid hO3
            have HB3 := Lib.hid hB3
            have HQI : Hid ((q : Int) - (x : Int) = ((q - x : Nat) : Int)) := by
              have : (q : Int) - (x : Int) = ((q - x : Nat) : Int) := by omega
              exact this
            have HII : Hid ((i : Int) - 1 = ((i - 1 : Nat) : Int)) := by
              have : (i : Int) - 1 = ((i - 1 : Nat) : Int) := by omega
              exact this
            clear hown1 hgrow hob hO3 hB3 hDN
            go_wp2_with fail
            refine (HCALL2.out _).mono ?_
            rintro e w' ⟨rfl, rfl⟩
            go_wp2
            go_roundw
            case rel => exact ⟨i - 1, q - x, D ++ [a], a2, c2, l + 1, by omega, by omega, by rw [HII.out], by rw [HQI.out], HST2.out, by omega, rfl, by rw [List.length_append, HDL.out]; rfl, HO3.out, HB3.out⟩
            case measure => simp [intOf]; omega

end Go.Proofs.Ytmonaiojejbhkaa
