/-
  WALKS: spec's chapter 12: AreMonomialCounts (written by genamc.py).
-/
import Derived.Test.YtmonaiojejbhkaaJg32
import Derived.Test.YtmonaiojejbhkaaJg15
import Derived.Test.YtmonaiojejbhkaaJg9
import Derived.Deep.RegionHeld3
namespace Go.Proofs.Ytmonaiojejbhkaa
open Go.RowKit
open Sets Hn Kk Sh

theorem stepM_iff (L : List Int) (k : Nat) : stepM L k = true ↔ 0 ≤ L.getD k 0 ∧ L.getD k 0 ≤ 1000 ∧ (k = 0 → L.getD 0 0 = 1) ∧ (2 ≤ k → L.getD k 0 ≤ boundZ 1 (L.getD (k - 1) 0) ((k - 1 : Nat) : Int)) := by
  unfold stepM
  rw [Bool.and_eq_true, Bool.and_eq_true, decide_eq_true_eq, decide_eq_true_eq]
  by_cases e : k = 0
  · rw [if_pos e, decide_eq_true_eq]
    exact ⟨fun h => ⟨h.1.1, h.1.2, fun _ => h.2, fun h' => by omega⟩, fun h => ⟨⟨h.1, h.2.1⟩, h.2.2.1 e⟩⟩
  · rw [if_neg e]
    by_cases e1 : k = 1
    · rw [if_pos e1]
      exact ⟨fun h => ⟨h.1.1, h.1.2, fun h' => absurd h' e, fun h' => by omega⟩, fun h => ⟨⟨h.1, h.2.1⟩, rfl⟩⟩
    · rw [if_neg e1, decide_eq_true_eq]
      exact ⟨fun h => ⟨h.1.1, h.1.2, fun h' => absurd h' e, fun _ => h.2⟩, fun h => ⟨⟨h.1, h.2.1⟩, h.2.2.2 (by omega)⟩⟩
theorem monoB_step {L : List Int} (h : monoB L = true) (k : Nat) (hk : k < L.length) : stepM L k = true := by
  unfold monoB at h
  rw [Bool.and_eq_true, List.all_eq_true] at h
  exact h.2 k (List.mem_range.2 hk)
theorem monoB_length {L : List Int} (h : monoB L = true) : 1 ≤ L.length ∧ L.length ≤ 7 := by
  unfold monoB at h
  rw [Bool.and_eq_true, Bool.and_eq_true] at h
  exact ⟨of_decide_eq_true h.1.1, of_decide_eq_true h.1.2⟩
theorem monoB_no {L : List Int} {k : Nat} (hk : k < L.length) (h : stepM L k = false) : monoB L = false := by
  rw [Bool.eq_false_iff]
  intro e
  rw [monoB_step e k hk] at h
  cases h
theorem monoB_yes {L : List Int} (h1 : 1 ≤ L.length) (h7 : L.length ≤ 7) (h : ∀ k, k < L.length → stepM L k = true) : monoB L = true := by
  unfold monoB
  rw [Bool.and_eq_true, Bool.and_eq_true, List.all_eq_true]
  exact ⟨⟨decide_eq_true h1, decide_eq_true h7⟩, fun k hk => h k (List.mem_range.1 hk)⟩
theorem stepM_not {L : List Int} {k : Nat} (h : ¬(0 ≤ L.getD k 0 ∧ L.getD k 0 ≤ 1000 ∧ (k = 0 → L.getD 0 0 = 1) ∧ (2 ≤ k → L.getD k 0 ≤ boundZ 1 (L.getD (k - 1) 0) ((k - 1 : Nat) : Int)))) : stepM L k = false := by
  rw [Bool.eq_false_iff]
  exact fun e => h ((stepM_iff L k).1 e)
theorem power_b (m k z : Int) (hz : boundZ 1 m k = z) (w : World) : Calls Try.prog 18 #[.int .i64 m, .int .i64 k] w fun e w' => e = .returned (.int .i64 z) ∧ Below w.heap.size w w' := by
  subst hz; exact specPower_any m k w

set_option maxRecDepth 100000 in
set_option maxHeartbeats 4000000 in
theorem specAMC_any (a : Option Addr) (c : Nat) (L : List Int) (hlen : L.length ≤ 1099511627776) (w : World) (h : Ints w a L) :
    Calls Try.prog 20 #[.slice a L.length c] w fun e w' => e = .returned (.bool (monoB L)) ∧ Below w.heap.size w w' := by
  have H := Lib.hid h
  clear h
  have HNO := Lib.hid (fun k hk h => @monoB_no L k hk h)
  have HYES := Lib.hid (fun h1 h7 h => @monoB_yes L h1 h7 h)
  obtain ⟨r, hr⟩ : ∃ r, monoB L = r := ⟨_, rfl⟩
  rw [hr] at HNO HYES
  obtain ⟨l, hl⟩ : ∃ l, L.length = l := ⟨_, rfl⟩
  have HL := Lib.hid hl
  have HLEN : Hid (r = true → 1 ≤ l ∧ l ≤ 7) := by
    have : r = true → 1 ≤ l ∧ l ≤ 7 := fun e => by rw [← hl]; exact monoB_length (by rw [hr]; exact e)
    exact this
  rw [hl] at HNO HYES hlen
  rw [hr, hl]
  clear hr hl
  cases h1 : inB 1 7 (l : Int) with
  | false =>
    have hr0 : r = false := by
      cases r with
      | false => rfl
      | true =>
        have := HLEN.out rfl
        have h2 : inB 1 7 (l : Int) = true := by rw [inB_iff]; omega
        rw [h1] at h2; cases h2
    subst hr0
    have H1 := Lib.hid h1
    clear h1
    go_enter Try.func20, Try.ntmps20
    go_wp2_with fail
    refine (in_b _ _ _ false H1.out _).mono ?_
    rintro e w' ⟨rfl, rfl⟩
    go_wp2
    go_ret
    exact ⟨rfl, Below.refl _ _⟩
  | true =>
    have H1 := Lib.hid h1
    rw [inB_iff] at h1
    have hl1 : 1 ≤ l := by omega
    have hl7 : l ≤ 7 := by omega
    clear h1 hlen HLEN
    go_enter Try.func20, Try.ntmps20
    go_wp2_with fail
    refine (in_b _ _ _ true H1.out _).mono ?_
    rintro e w' ⟨rfl, rfl⟩
    go_wp2
    go_loopw [3] (fun kv wr => ∃ k : Nat, k ≤ l ∧ kv = .int .i64 (k : Int) ∧ Below w.heap.size w wr ∧ (∀ j, j < k → stepM L j = true)) (fun kv _ => l - (intOf kv).toNat)
    case atStart => exact ⟨0, Nat.zero_le _, rfl, Below.refl _ _, fun j hj => absurd hj (Nat.not_lt_zero _)⟩
    case round =>
      obtain ⟨k, hk, rfl, hB, hst⟩ := hrel
      have HB := Lib.hid hB
      have HST := Lib.hid hst
      clear hB hst
      by_cases hlt : k < l
      · obtain ⟨b, o, rfl, g⟩ := (H.out.keeps HB.out) k (by rw [HL.out]; exact hlt)
        obtain ⟨x, hx⟩ : ∃ x, L.getD k 0 = x := ⟨_, rfl⟩
        have HX := Lib.hid hx
        rw [hx] at g
        clear hx
        cases hin : inB 0 1000 x with
        | false =>
          have hr0 : r = false := HNO.out k hlt (stepM_not (fun e => by
            rw [HX.out] at e
            have : inB 0 1000 x = true := by rw [inB_iff]; omega
            rw [hin] at this; cases this))
          subst hr0
          have HIN := Lib.hid hin
          clear hin
          go_wp2_with fail
          go_quiet ((go_at_call 54; refine quietlyH (in_b _ _ _ false HIN.out _)))
          go_wp2
          go_ret
          exact ⟨rfl, bdrew HB.out _⟩
        | true =>
          have HIN := Lib.hid hin
          rw [inB_iff] at hin
          by_cases hk0 : k = 0
          · subst hk0
            rw [Nat.add_zero] at g
            by_cases hx1 : x = 1
            · subst hx1
              have HS0 : Hid (stepM L 0 = true) := by
                have : stepM L 0 = true := by rw [stepM_iff, HX.out]; exact ⟨by decide, by decide, fun _ => rfl, fun h => by omega⟩
                exact this
              clear hin
              go_wp2_with fail
              go_quiet ((go_at_call 54; refine quietlyH (in_b _ _ _ true HIN.out _)))
              go_wp2
              go_roundw
              case rel =>
                refine ⟨1, by omega, rfl, bdrew HB.out _, fun j hj => ?_⟩
                have : j = 0 := by omega
                subst this; exact HS0.out
              case measure => simp [intOf]; omega
            · have hr0 : r = false := HNO.out 0 hlt (stepM_not (fun e => hx1 (by rw [← HX.out]; exact e.2.2.1 rfl)))
              subst hr0
              have hxe : (x == 1) = false := by rw [beq_eq_false_iff_ne]; exact hx1
              have hxe2 : (x != 1) = true := by rw [bne_iff_ne]; exact hx1
              have hxe3 : decide (x = 1) = false := by simpa using hx1
              clear hin hx1
              go_wp2_with fail
              go_quiet ((go_at_call 54; refine quietlyH (in_b _ _ _ true HIN.out _)))
              go_wp2
              go_ret
              exact ⟨rfl, bdrew HB.out _⟩
          · by_cases hk1 : k = 1
            · subst hk1
              have HS1 : Hid (stepM L 1 = true) := by
                have : stepM L 1 = true := by rw [stepM_iff, HX.out]; exact ⟨hin.1, hin.2, fun h => absurd h (by decide), fun h => by omega⟩
                exact this
              clear hin hk0
              go_wp2_with fail
              go_quiet ((go_at_call 54; refine quietlyH (in_b _ _ _ true HIN.out _)))
              go_wp2
              go_roundw
              case rel =>
                refine ⟨2, by omega, rfl, bdrew HB.out _, fun j hj => ?_⟩
                by_cases e : j = 1
                · subst e; exact HS1.out
                · exact HST.out j (by omega)
              case measure => simp [intOf]; omega
            obtain ⟨b2, o2, e2, g2⟩ := (H.out.keeps HB.out) (k - 1) (by rw [HL.out]; omega)
            injection e2 with e2
            injection e2 with e2 e3
            subst e2 e3
            obtain ⟨y, hy⟩ : ∃ y, L.getD (k - 1) 0 = y := ⟨_, rfl⟩
            have HY := Lib.hid hy
            rw [hy] at g2
            obtain ⟨kk, hkk⟩ : ∃ kk, k - 1 = kk := ⟨_, rfl⟩
            obtain ⟨z, hz⟩ : ∃ z, boundZ 1 y (kk : Int) = z := ⟨_, rfl⟩
            have HZ := Lib.hid hz
            have HKK := Lib.hid hkk
            have hk0z : ((k : Int) == 0) = false := by rw [beq_eq_false_iff_ne]; omega
            have hkpos : decide (2 ≤ (k : Int)) = true := by simp; omega
            have hkpos2 : decide (2 ≤ k) = true := by simp; omega
            have hkz : (k : Int) - 1 = (kk : Int) := by omega
            have hkl : kk < l := by omega
            rw [hkk] at g2
            clear hy hz hin hkk
            have hc1 : ∀ w', Below wr.heap.size wr w' → w'.cell? ⟨b, o + k, none⟩ = some (.int .i64 x) := fun w' hw => by rw [hw.cell (p := ⟨b, o + k, none⟩) (World.block_lt_of_cell? wr _ g)]; exact g
            have hc2 : ∀ w', Below wr.heap.size wr w' → w'.cell? ⟨b, o + kk, none⟩ = some (.int .i64 y) := fun w' hw => by rw [hw.cell (p := ⟨b, o + kk, none⟩) (World.block_lt_of_cell? wr _ g2)]; exact g2
            have HC1 := Lib.hid hc1
            have HC2 := Lib.hid hc2
            have HBC := Lib.hid (bdrew1 wr)
            have hsize := HB.out.size
            have hwk : IntKind.i64.wrap (kk : Int) = (kk : Int) := IntWalk.i64_in _ (by omega)
            have hkkz : (kk : Int) < (l : Int) := by omega
            have hkk0 : (0 : Int) ≤ (kk : Int) := by omega
            clear hc1 hc2 g g2
            go_wp2_with fail
            refine wp_region_noPanic ?_
            refine wp_region_held_drew (S := (fun w' => w'.cell? ⟨b, o + k, none⟩ = some (.int .i64 x) ∧ w'.cell? ⟨b, o + kk, none⟩ = some (.int .i64 y) ∧ Below wr.heap.size wr w')) (by kernel_rfl) ?_ (fun hHeld => ?_)
            · exact ⟨HC1.out _ HBC.out, HC2.out _ HBC.out, HBC.out⟩
            refine wpAnyH_take (i := 0) (oi := ⟨_, _, _, _, _, _⟩) (v := ?vv1) rfl (by kernel_rfl) (by kernel_rfl) (by kernel_rfl) (fun _ _ _ h => h) (Or.inl ⟨by rfl, ?hy1⟩) (by assumption) ?_
            case hy1 => (intro w hSw; (try dsimp only at hSw); go_simp; try (with_reducible rfl))
            try simp only [Act.put, List.setIfInBounds_toArray, List.set_cons_zero, List.set_cons_succ]
            refine wpAnyH_take (i := 1) (oi := ⟨_, _, _, _, _, _⟩) (v := ?vv2) rfl (by kernel_rfl) (by kernel_rfl) (by kernel_rfl) (fun _ _ _ h => h) (Or.inl ⟨by rfl, ?hy2⟩) (by assumption) ?_
            case hy2 => (intro w hSw; (try dsimp only at hSw); go_simp; try (with_reducible rfl))
            try simp only [Act.put, List.setIfInBounds_toArray, List.set_cons_zero, List.set_cons_succ]
            refine wpAnyH_take (i := 2) (oi := ⟨_, _, _, _, _, _⟩) (v := ?vv3) rfl (by kernel_rfl) (by kernel_rfl) (by kernel_rfl) (fun _ _ _ h => h) (Or.inl ⟨by rfl, ?hy3⟩) (by assumption) ?_
            case hy3 => (intro w hSw; (try dsimp only at hSw); go_simp; try (with_reducible rfl))
            try simp only [Act.put, List.setIfInBounds_toArray, List.set_cons_zero, List.set_cons_succ]
            refine wpAnyH_take (i := 3) (oi := ⟨_, _, _, _, _, _⟩) (v := ?vv4) rfl (by kernel_rfl) (by kernel_rfl) (by kernel_rfl) (fun _ _ _ h => h) (Or.inl ⟨by rfl, ?hy4⟩) (by assumption) ?_
            case hy4 => (intro w hSw; (try dsimp only at hSw); go_simp; try (with_reducible rfl))
            try simp only [Act.put, List.setIfInBounds_toArray, List.set_cons_zero, List.set_cons_succ]
            refine wpAnyH_ready (rs := [4]) (by kernel_rfl) (by simp) (AllReadyH.cons (o := ⟨_, _, _, _, _, _⟩) rfl (fun K9 hK9 => ?_) AllReadyH.nil)
            go_simp
            go_at_call 54; refine (in_b _ _ _ true HIN.out _).mono ?_; rintro e w' ⟨rfl, rfl⟩
            refine hK9.out _ _ ?_ (fun hHeld => ?_)
            · exact ⟨HC1.out _ HBC.out, HC2.out _ HBC.out, HBC.out⟩
            clear hK9 K9
            try simp only [Act.put, List.setIfInBounds_toArray, List.set_cons_zero, List.set_cons_succ]
            refine wpAnyH_take (i := 5) (oi := ⟨_, _, _, _, _, _⟩) (v := ?vv5) rfl (by kernel_rfl) (by kernel_rfl) (by kernel_rfl) (fun _ _ _ h => h) (Or.inl ⟨by rfl, ?hy5⟩) (by assumption) ?_
            case hy5 => (intro w hSw; (try dsimp only at hSw); go_simp; try (with_reducible rfl))
            try simp only [Act.put, List.setIfInBounds_toArray, List.set_cons_zero, List.set_cons_succ]
            refine wpAnyH_take (i := 6) (oi := ⟨_, _, _, _, _, _⟩) (v := ?vv6) rfl (by kernel_rfl) (by kernel_rfl) (by kernel_rfl) (fun _ _ _ h => h) (Or.inl ⟨by rfl, ?hy6⟩) (by assumption) ?_
            case hy6 => (intro w hSw; (try dsimp only at hSw); go_simp; try (with_reducible rfl))
            try simp only [Act.put, List.setIfInBounds_toArray, List.set_cons_zero, List.set_cons_succ]
            refine wpAnyH_take (i := 7) (oi := ⟨_, _, _, _, _, _⟩) (v := ?vv7) rfl (by kernel_rfl) (by kernel_rfl) (by kernel_rfl) (fun _ _ _ h => h) (Or.inl ⟨by rfl, ?hy7⟩) (by assumption) ?_
            case hy7 => (intro w hSw; (try dsimp only at hSw); go_simp; try (with_reducible rfl))
            try simp only [Act.put, List.setIfInBounds_toArray, List.set_cons_zero, List.set_cons_succ]
            refine wpAnyH_take (i := 8) (oi := ⟨_, _, _, _, _, _⟩) (v := ?vv8) rfl (by kernel_rfl) (by kernel_rfl) (by kernel_rfl) (fun _ _ _ h => h) (Or.inl ⟨by rfl, ?hy8⟩) (by assumption) ?_
            case hy8 => (intro w hSw; (try dsimp only at hSw); go_simp; try (with_reducible rfl))
            try simp only [Act.put, List.setIfInBounds_toArray, List.set_cons_zero, List.set_cons_succ]
            refine wpAnyH_take (i := 9) (oi := ⟨_, _, _, _, _, _⟩) (v := ?vv9) rfl (by kernel_rfl) (by kernel_rfl) (by kernel_rfl) (fun _ _ _ h => h) (Or.inl ⟨by rfl, ?hy9⟩) (by assumption) ?_
            case hy9 => (intro w hSw; (try dsimp only at hSw); go_simp; try (with_reducible rfl))
            try simp only [Act.put, List.setIfInBounds_toArray, List.set_cons_zero, List.set_cons_succ]
            refine wpAnyH_take (i := 10) (oi := ⟨_, _, _, _, _, _⟩) (v := undef) rfl (by kernel_rfl) (by kernel_rfl) (by kernel_rfl) (fun _ _ _ h => h) (Or.inr ⟨by rfl, rfl⟩) (by assumption) ?_
            try simp only [Act.put, List.setIfInBounds_toArray, List.set_cons_zero, List.set_cons_succ]
            refine wpAnyH_take (i := 11) (oi := ⟨_, _, _, _, _, _⟩) (v := undef) rfl (by kernel_rfl) (by kernel_rfl) (by kernel_rfl) (fun _ _ _ h => h) (Or.inr ⟨by rfl, rfl⟩) (by assumption) ?_
            try simp only [Act.put, List.setIfInBounds_toArray, List.set_cons_zero, List.set_cons_succ]
            refine wpAnyH_take (i := 12) (oi := ⟨_, _, _, _, _, _⟩) (v := undef) rfl (by kernel_rfl) (by kernel_rfl) (by kernel_rfl) (fun _ _ _ h => h) (Or.inr ⟨by rfl, rfl⟩) (by assumption) ?_
            try simp only [Act.put, List.setIfInBounds_toArray, List.set_cons_zero, List.set_cons_succ]
            refine wpAnyH_take (i := 13) (oi := ⟨_, _, _, _, _, _⟩) (v := undef) rfl (by kernel_rfl) (by kernel_rfl) (by kernel_rfl) (fun _ _ _ h => h) (Or.inr ⟨by rfl, rfl⟩) (by assumption) ?_
            try simp only [Act.put, List.setIfInBounds_toArray, List.set_cons_zero, List.set_cons_succ]
            refine wpAnyH_take (i := 14) (oi := ⟨_, _, _, _, _, _⟩) (v := undef) rfl (by kernel_rfl) (by kernel_rfl) (by kernel_rfl) (fun _ _ _ h => h) (Or.inr ⟨by rfl, rfl⟩) (by assumption) ?_
            try simp only [Act.put, List.setIfInBounds_toArray, List.set_cons_zero, List.set_cons_succ]
            refine wpAnyH_take (i := 15) (oi := ⟨_, _, _, _, _, _⟩) (v := ?vv10) rfl (by kernel_rfl) (by kernel_rfl) (by kernel_rfl) (fun _ _ _ h => h) (Or.inl ⟨by rfl, ?hy10⟩) (by assumption) ?_
            case hy10 => (intro w hSw; (try dsimp only at hSw); go_simp; try (with_reducible rfl))
            try simp only [Act.put, List.setIfInBounds_toArray, List.set_cons_zero, List.set_cons_succ]
            refine wpAnyH_take (i := 16) (oi := ⟨_, _, _, _, _, _⟩) (v := ?vv11) rfl (by kernel_rfl) (by kernel_rfl) (by kernel_rfl) (fun _ _ _ h => h) (Or.inl ⟨by rfl, ?hy11⟩) (by assumption) ?_
            case hy11 => (intro w hSw; (try dsimp only at hSw); go_simp; try (with_reducible rfl))
            try simp only [Act.put, List.setIfInBounds_toArray, List.set_cons_zero, List.set_cons_succ]
            refine wpAnyH_take (i := 17) (oi := ⟨_, _, _, _, _, _⟩) (v := ?vv12) rfl (by kernel_rfl) (by kernel_rfl) (by kernel_rfl) (fun _ _ _ h => h) (Or.inl ⟨by rfl, ?hy12⟩) (by assumption) ?_
            case hy12 => (intro w hSw; (try dsimp only at hSw); go_simp; try (with_reducible rfl))
            try simp only [Act.put, List.setIfInBounds_toArray, List.set_cons_zero, List.set_cons_succ]
            refine wpAnyH_take (i := 18) (oi := ⟨_, _, _, _, _, _⟩) (v := ?vv13) rfl (by kernel_rfl) (by kernel_rfl) (by kernel_rfl) (fun _ _ _ h => h) (Or.inl ⟨by rfl, ?hy13⟩) (by assumption) ?_
            case hy13 => (intro w hSw; (try dsimp only at hSw); go_simp; try (with_reducible rfl))
            try simp only [Act.put, List.setIfInBounds_toArray, List.set_cons_zero, List.set_cons_succ]
            refine wpAnyH_take (i := 19) (oi := ⟨_, _, _, _, _, _⟩) (v := ?vv14) rfl (by kernel_rfl) (by kernel_rfl) (by kernel_rfl) (fun _ _ _ h => h) (Or.inl ⟨by rfl, ?hy14⟩) (by assumption) ?_
            case hy14 => (intro w hSw; (try dsimp only at hSw); go_simp; try (with_reducible rfl))
            try simp only [Act.put, List.setIfInBounds_toArray, List.set_cons_zero, List.set_cons_succ]
            refine wpAnyH_take (i := 20) (oi := ⟨_, _, _, _, _, _⟩) (v := ?vv15) rfl (by kernel_rfl) (by kernel_rfl) (by kernel_rfl) (fun _ _ _ h => h) (Or.inl ⟨by rfl, ?hy15⟩) (by assumption) ?_
            case hy15 => (intro w hSw; (try dsimp only at hSw); go_simp; try (with_reducible rfl))
            try simp only [Act.put, List.setIfInBounds_toArray, List.set_cons_zero, List.set_cons_succ]
            refine wpAnyH_take (i := 21) (oi := ⟨_, _, _, _, _, _⟩) (v := ?vv16) rfl (by kernel_rfl) (by kernel_rfl) (by kernel_rfl) (fun _ _ _ h => h) (Or.inl ⟨by rfl, ?hy16⟩) (by assumption) ?_
            case hy16 => (intro w hSw; (try dsimp only at hSw); go_simp; try (with_reducible rfl))
            try simp only [Act.put, List.setIfInBounds_toArray, List.set_cons_zero, List.set_cons_succ]
            refine wpAnyH_take (i := 22) (oi := ⟨_, _, _, _, _, _⟩) (v := ?vv17) rfl (by kernel_rfl) (by kernel_rfl) (by kernel_rfl) (fun _ _ _ h => h) (Or.inl ⟨by rfl, ?hy17⟩) (by assumption) ?_
            case hy17 => (intro w hSw; (try dsimp only at hSw); go_simp; try (with_reducible rfl))
            try simp only [Act.put, List.setIfInBounds_toArray, List.set_cons_zero, List.set_cons_succ]
            refine wpAnyH_take (i := 23) (oi := ⟨_, _, _, _, _, _⟩) (v := ?vv18) rfl (by kernel_rfl) (by kernel_rfl) (by kernel_rfl) (fun _ _ _ h => h) (Or.inl ⟨by rfl, ?hy18⟩) (by assumption) ?_
            case hy18 => (intro w hSw; (try dsimp only at hSw); go_simp; try (with_reducible rfl))
            try simp only [Act.put, List.setIfInBounds_toArray, List.set_cons_zero, List.set_cons_succ]
            refine wpAnyH_take (i := 24) (oi := ⟨_, _, _, _, _, _⟩) (v := ?vv19) rfl (by kernel_rfl) (by kernel_rfl) (by kernel_rfl) (fun _ _ _ h => h) (Or.inl ⟨by rfl, ?hy19⟩) (by assumption) ?_
            case hy19 => (intro w hSw; (try dsimp only at hSw); go_simp; try (with_reducible rfl))
            try simp only [Act.put, List.setIfInBounds_toArray, List.set_cons_zero, List.set_cons_succ]
            refine wpAnyH_take (i := 25) (oi := ⟨_, _, _, _, _, _⟩) (v := ?vv20) rfl (by kernel_rfl) (by kernel_rfl) (by kernel_rfl) (fun _ _ _ h => h) (Or.inl ⟨by rfl, ?hy20⟩) (by assumption) ?_
            case hy20 => (intro w hSw; (try dsimp only at hSw); go_simp; try (with_reducible rfl))
            try simp only [Act.put, List.setIfInBounds_toArray, List.set_cons_zero, List.set_cons_succ]
            refine wpAnyH_take (i := 26) (oi := ⟨_, _, _, _, _, _⟩) (v := ?vv21) rfl (by kernel_rfl) (by kernel_rfl) (by kernel_rfl) (fun _ _ _ h => h) (Or.inl ⟨by rfl, ?hy21⟩) (by assumption) ?_
            case hy21 => (intro w hSw; (try dsimp only at hSw); go_simp; try (with_reducible rfl))
            try simp only [Act.put, List.setIfInBounds_toArray, List.set_cons_zero, List.set_cons_succ]
            refine wpAnyH_take (i := 27) (oi := ⟨_, _, _, _, _, _⟩) (v := ?vv22) rfl (by kernel_rfl) (by kernel_rfl) (by kernel_rfl) (fun _ _ _ h => h) (Or.inl ⟨by rfl, ?hy22⟩) (by assumption) ?_
            case hy22 => (intro w hSw; (try dsimp only at hSw); go_simp; try (with_reducible rfl))
            try simp only [Act.put, List.setIfInBounds_toArray, List.set_cons_zero, List.set_cons_succ]
            refine wpAnyH_take (i := 28) (oi := ⟨_, _, _, _, _, _⟩) (v := ?vv23) rfl (by kernel_rfl) (by kernel_rfl) (by kernel_rfl) (fun _ _ _ h => h) (Or.inl ⟨by rfl, ?hy23⟩) (by assumption) ?_
            case hy23 => (intro w hSw; (try dsimp only at hSw); go_simp; try (with_reducible rfl))
            try simp only [Act.put, List.setIfInBounds_toArray, List.set_cons_zero, List.set_cons_succ]
            refine wpAnyH_take (i := 29) (oi := ⟨_, _, _, _, _, _⟩) (v := ?vv24) rfl (by kernel_rfl) (by kernel_rfl) (by kernel_rfl) (fun _ _ _ h => h) (Or.inl ⟨by rfl, ?hy24⟩) (by assumption) ?_
            case hy24 => (intro w hSw; (try dsimp only at hSw); go_simp; try (with_reducible rfl))
            try simp only [Act.put, List.setIfInBounds_toArray, List.set_cons_zero, List.set_cons_succ]
            refine wpAnyH_take (i := 30) (oi := ⟨_, _, _, _, _, _⟩) (v := ?vv25) rfl (by kernel_rfl) (by kernel_rfl) (by kernel_rfl) (fun _ _ _ h => h) (Or.inl ⟨by rfl, ?hy25⟩) (by assumption) ?_
            case hy25 => (intro w hSw; (try dsimp only at hSw); go_simp; try (with_reducible rfl))
            try simp only [Act.put, List.setIfInBounds_toArray, List.set_cons_zero, List.set_cons_succ]
            refine wpAnyH_take (i := 31) (oi := ⟨_, _, _, _, _, _⟩) (v := ?vv26) rfl (by kernel_rfl) (by kernel_rfl) (by kernel_rfl) (fun _ _ _ h => h) (Or.inl ⟨by rfl, ?hy26⟩) (by assumption) ?_
            case hy26 => (intro w hSw; (try dsimp only at hSw); go_simp; try (with_reducible rfl))
            try simp only [Act.put, List.setIfInBounds_toArray, List.set_cons_zero, List.set_cons_succ]
            refine wpAnyH_ready (rs := [32]) (by kernel_rfl) (by simp) (AllReadyH.cons (o := ⟨_, _, _, _, _, _⟩) rfl (fun K9 hK9 => ?_) AllReadyH.nil)
            go_simp
            go_at_call 18; with_reducible refine (power_b y (kk : Int) z HZ.out _).mono ?_; rintro e w5 ⟨rfl, hb5⟩; have HBC := Lib.hid (HBC.out.trans (hb5.mono HBC.out.size)); clear hb5
            refine hK9.out _ _ ?_ (fun hHeld => ?_)
            · exact ⟨HC1.out _ HBC.out, HC2.out _ HBC.out, HBC.out⟩
            clear hK9 K9
            try simp only [Act.put, List.setIfInBounds_toArray, List.set_cons_zero, List.set_cons_succ]
            refine wpAnyH_take (i := 33) (oi := ⟨_, _, _, _, _, _⟩) (v := ?vv27) rfl (by kernel_rfl) (by kernel_rfl) (by kernel_rfl) (fun _ _ _ h => h) (Or.inl ⟨by rfl, ?hy27⟩) (by assumption) ?_
            case hy27 => (intro w hSw; (try dsimp only at hSw); go_simp; try (with_reducible rfl))
            try simp only [Act.put, List.setIfInBounds_toArray, List.set_cons_zero, List.set_cons_succ]
            refine wpAnyH_take (i := 34) (oi := ⟨_, _, _, _, _, _⟩) (v := ?vv28) rfl (by kernel_rfl) (by kernel_rfl) (by kernel_rfl) (fun _ _ _ h => h) (Or.inl ⟨by rfl, ?hy28⟩) (by assumption) ?_
            case hy28 => (intro w hSw; (try dsimp only at hSw); go_simp; try (with_reducible rfl))
            try simp only [Act.put, List.setIfInBounds_toArray, List.set_cons_zero, List.set_cons_succ]
            refine wpAnyH_take (i := 35) (oi := ⟨_, _, _, _, _, _⟩) (v := ?vv29) rfl (by kernel_rfl) (by kernel_rfl) (by kernel_rfl) (fun _ _ _ h => h) (Or.inl ⟨by rfl, ?hy29⟩) (by assumption) ?_
            case hy29 => (intro w hSw; (try dsimp only at hSw); go_simp; try (with_reducible rfl))
            try simp only [Act.put, List.setIfInBounds_toArray, List.set_cons_zero, List.set_cons_succ]
            refine wpAnyH_done (by kernel_rfl) ?_ _
            refine NoPanic.normal ?_
            have hB5 : Below w.heap.size w w5 := HB.out.trans (HBC.out.mono hsize)
            have HB5 := Lib.hid hB5
            clear hHeld
            by_cases hzy : z < x
            · have hr0 : r = false := HNO.out k hlt (stepM_not (fun e => by
                have h4 := e.2.2.2 (by omega)
                rw [HX.out, HY.out, HKK.out, HZ.out] at h4
                omega))
              subst hr0
              have hdz : decide (z < x) = true := by simpa using hzy
              go_wp2
              go_ret
              exact ⟨rfl, HB5.out⟩
            · have hdz : decide (z < x) = false := by simpa using hzy
              have HSK : Hid (stepM L k = true) := by
                have : stepM L k = true := by
                  rw [stepM_iff, HX.out, HY.out, HKK.out, HZ.out]
                  have := (inB_iff _ _ _).1 HIN.out
                  exact ⟨by omega, by omega, fun h => absurd h hk0, fun _ => by omega⟩
                exact this
              go_wp2
              go_roundw
              case rel =>
                refine ⟨k + 1, by omega, by go_num, HB5.out, fun j hj => ?_⟩
                by_cases e : j = k
                · subst e; exact HSK.out
                · exact HST.out j (by omega)
              case measure => simp [intOf]; omega
      · have hr1 : r = true := HYES.out hl1 hl7 (fun j hj => HST.out j (by omega))
        subst hr1
        go_wp2
        go_ret
        exact ⟨rfl, HB.out⟩

end Go.Proofs.Ytmonaiojejbhkaa
