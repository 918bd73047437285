/-
  WALKS: impl's chapter 12: AreMonomialCounts (written by genamci.py).
-/
import Derived.Test.YtmonaiojejbhkaaJg32
import Derived.Test.YtmonaiojejbhkaaWMonS5
import Derived.Test.YtmonaiojejbhkaaJg8
namespace Go.Proofs.Ytmonaiojejbhkaa
open Go.RowKit
open Sets Hn Kk Sh

def farQ (x : Int) : Bool := decide (x < 0) || decide (1000 < x)
theorem farQ_no {x : Int} (h : farQ x = false) : 0 ≤ x ∧ x ≤ 1000 := by
  unfold farQ at h
  rw [Bool.or_eq_false_iff, decide_eq_false_iff_not, decide_eq_false_iff_not] at h
  omega
theorem far_some {L : List Int} (h : L.any farQ = true) : monoB L = false := by
  rw [List.any_eq_true] at h
  obtain ⟨x, hx, hq⟩ := h
  obtain ⟨k, hk, rfl⟩ := List.getElem_of_mem hx
  refine monoB_no hk (stepM_not (fun e => ?_))
  rw [List.getD, List.getElem?_eq_getElem hk] at e
  have e1 : 0 ≤ L[k] ∧ L[k] ≤ 1000 := ⟨e.1, e.2.1⟩
  unfold farQ at hq
  rw [Bool.or_eq_true, decide_eq_true_eq, decide_eq_true_eq] at hq
  omega
theorem far_none {L : List Int} (h : L.any farQ = false) (k : Nat) (hk : k < L.length) : 0 ≤ L.getD k 0 ∧ L.getD k 0 ≤ 1000 := by
  rw [List.any_eq_false] at h
  have hm : L.getD k 0 ∈ L := by rw [List.getD, List.getElem?_eq_getElem hk]; exact List.getElem_mem hk
  exact farQ_no (by simpa using h _ hm)

theorem powerI_b (m k z : Int) (hz : boundZ 1 m k = z) (w : World) : Calls Try.prog 17 #[.int .i64 m, .int .i64 k] w fun e w' => e = .returned (.int .i64 z) ∧ Below w.heap.size w w' := by
  subst hz; exact implPower_any m k w

set_option maxRecDepth 100000 in
theorem far_call (x : Int) (W : World) : Calls Try.prog 52 #[.int .i64 x] W fun e w' => e = .returned (.bool (farQ x)) ∧ ∃ m, w' = W.drewN m := by
  unfold farQ
  by_cases h1 : x < 0
  · have hd : decide (x < 0) = true := by simpa using h1
    rw [hd]
    go_enter Try.func52, Try.ntmps52
    go_wp2
    go_ret
    exact ⟨rfl, 0, rfl⟩
  · have hd : decide (x < 0) = false := by simpa using h1
    by_cases h2 : 1000 < x
    · have hd2 : decide (1000 < x) = true := by simpa using h2
      rw [hd, hd2]
      go_enter Try.func52, Try.ntmps52
      go_wp2
      go_ret
      exact ⟨rfl, 0, rfl⟩
    · have hd2 : decide (1000 < x) = false := by simpa using h2
      rw [hd, hd2]
      go_enter Try.func52, Try.ntmps52
      go_wp2
      go_ret
      exact ⟨rfl, 0, rfl⟩
theorem far_asks (xs : List Int) (w : World) : Asks 52 #[] farQ xs w := fun W j _ _ => far_call (xs.getD j 0) W

set_option maxRecDepth 100000 in
set_option maxHeartbeats 4000000 in
theorem implAMC_any (a : Option Addr) (c : Nat) (L : List Int) (hlen : L.length ≤ 1099511627776) (w : World) (h : Ints w a L) :
    Calls Try.prog 19 #[.slice a L.length c] w fun e w' => e = .returned (.bool (monoB L)) ∧ Below w.heap.size w w' := by
  have H := Lib.hid h
  have HNO := Lib.hid (fun k hk h => @monoB_no L k hk h)
  have HYES := Lib.hid (fun h1 h7 h => @monoB_yes L h1 h7 h)
  have HFY := Lib.hid (@far_some L)
  have HFN := Lib.hid (@far_none L)
  have eg : ∀ args w, (callFunc 52 args).run Try.prog w = .ok (.enter 52 args) w := enters_of Try.func52 (by kernel_rfl) rfl
  obtain ⟨u, hu⟩ : ∃ u, L.any farQ = u := ⟨_, rfl⟩
  have HC := Lib.hid (fun W (hW : Below w.heap.size w W) => contains_bel 52 #[] farQ u a c L hu W eg (far_asks L W) hlen (h.keeps hW))
  rw [hu] at HFY HFN
  obtain ⟨r, hr⟩ : ∃ r, monoB L = r := ⟨_, rfl⟩
  rw [hr] at HNO HYES HFY
  obtain ⟨l, hl⟩ : ∃ l, L.length = l := ⟨_, rfl⟩
  have HL := Lib.hid hl
  have HLEN : Hid (r = true → 1 ≤ l ∧ l ≤ 7) := by
    have : r = true → 1 ≤ l ∧ l ≤ 7 := fun e => by rw [← hl]; exact monoB_length (by rw [hr]; exact e)
    exact this
  rw [hl] at HNO HYES HFN HC hlen
  rw [hr, hl]
  clear hr hl h hu eg
  by_cases hl0 : l = 0
  · have hr0 : r = false := by
      cases r with
      | false => rfl
      | true => have := HLEN.out rfl; omega
    subst hr0
    subst hl0
    go_enter Try.func19, Try.ntmps19
    go_wp2
    go_ret
    exact ⟨rfl, Below.refl _ _⟩
  have hz0 : ((l : Int) == 0) = false := by rw [beq_eq_false_iff_ne]; omega
  by_cases hl8 : 7 < l
  · have hr0 : r = false := by
      cases r with
      | false => rfl
      | true => have := HLEN.out rfl; omega
    subst hr0
    have hd7 : decide (7 < l) = true := by simpa using hl8
    have hd7z : decide (7 < (l : Int)) = true := by simp; omega
    clear hl0
    go_enter Try.func19, Try.ntmps19
    go_wp2
    go_ret
    exact ⟨rfl, Below.refl _ _⟩
  have hl1 : 1 ≤ l := by omega
  have hl7 : l ≤ 7 := by omega
  have hd7 : decide (7 < l) = false := by simpa using hl8
  have hd7z : decide (7 < (l : Int)) = false := by simp; omega
  clear hl0 hl8 hlen HLEN
  obtain ⟨b, o, rfl, g0⟩ := H.out 0 (by rw [HL.out]; omega)
  rw [Nat.add_zero] at g0
  obtain ⟨x0, hx0⟩ : ∃ x0, L.getD 0 0 = x0 := ⟨_, rfl⟩
  have HX0 := Lib.hid hx0
  rw [hx0] at g0
  clear hx0
  by_cases hx1 : x0 = 1
  case neg =>
    have hr0 : r = false := HNO.out 0 (by omega) (stepM_not (fun e => hx1 (by rw [← HX0.out]; exact e.2.2.1 rfl)))
    subst hr0
    have hxe : (x0 == 1) = false := by rw [beq_eq_false_iff_ne]; exact hx1
    have hxe2 : (x0 != 1) = true := by rw [bne_iff_ne]; exact hx1
    have hxe3 : decide (x0 = 1) = false := by simpa using hx1
    clear hx1
    go_enter Try.func19, Try.ntmps19
    go_wp2
    go_ret
    exact ⟨rfl, Below.refl _ _⟩
  subst hx1
  cases u with
  | true =>
    have hr0 : r = false := HFY.out rfl
    subst hr0
    go_enter Try.func19, Try.ntmps19
    go_wp2_with fail
    refine (HC.out _ (Below.refl _ _)).mono ?_
    rintro e w1 ⟨rfl, hb1⟩
    have HB1 := Lib.hid hb1
    clear hb1
    go_wp2
    go_ret
    exact ⟨rfl, HB1.out⟩
  | false =>
  have HIN : Hid (∀ k, k < l → 0 ≤ L.getD k 0 ∧ L.getD k 0 ≤ 1000) := by
    have : ∀ k, k < l → 0 ≤ L.getD k 0 ∧ L.getD k 0 ≤ 1000 := HFN.out rfl
    exact this
  have HS0 : Hid (∀ j, j < 2 → j < l → stepM L j = true) := by
    have : ∀ j, j < 2 → j < l → stepM L j = true := fun j hj hjl => by
      have hin := HIN.out j hjl
      rw [stepM_iff]
      exact ⟨hin.1, hin.2, fun _ => HX0.out, fun h => by omega⟩
    exact this
  clear HFY HFN HX0
  go_enter Try.func19, Try.ntmps19
  go_wp2_with fail
  refine (HC.out _ (Below.refl _ _)).mono ?_
  rintro e w1 ⟨rfl, hb1⟩
  have HB1 := Lib.hid hb1
  clear hb1
  go_wp2
  go_loopw [4] (fun kv wr => ∃ k : Nat, 2 ≤ k ∧ (k ≤ l ∨ k = 2) ∧ kv = .int .i64 (k : Int) ∧ Below w.heap.size w wr ∧ (∀ j, j < k → j < l → stepM L j = true)) (fun kv _ => l - (intOf kv).toNat)
  case atStart => exact ⟨2, Nat.le_refl _, .inr rfl, rfl, HB1.out, HS0.out⟩
  case round =>
    clear HS0 g0 HB1 HC
    obtain ⟨k, hk1, hk, rfl, hB, hst⟩ := hrel
    have HB := Lib.hid hB
    have HST := Lib.hid hst
    clear hB hst
    by_cases hlt : k < l
    · obtain ⟨b3, o3, e3, g⟩ := (H.out.keeps HB.out) k (by rw [HL.out]; exact hlt)
      injection e3 with e3
      injection e3 with e3 e4
      subst e3 e4
      obtain ⟨x, hx⟩ : ∃ x, L.getD k 0 = x := ⟨_, rfl⟩
      have HX := Lib.hid hx
      rw [hx] at g
      clear hx
      have hdk : decide ((k : Int) < (l : Int)) = true := by simpa using hlt
      obtain ⟨b2, o2, e2, g2⟩ := (H.out.keeps HB.out) (k - 1) (by rw [HL.out]; omega)
      injection e2 with e2
      injection e2 with e2 e3
      subst e2 e3
      obtain ⟨y, hy⟩ : ∃ y, L.getD (k - 1) 0 = y := ⟨_, rfl⟩
      have HY := Lib.hid hy
      rw [hy] at g2
      obtain ⟨z, hz⟩ : ∃ z, boundZ 1 y ((k - 1 : Nat) : Int) = z := ⟨_, rfl⟩
      have HZ := Lib.hid hz
      obtain ⟨kk, hkk⟩ : ∃ kk, k - 1 = kk := ⟨_, rfl⟩
      have hkz : (k : Int) - 1 = (kk : Int) := by omega
      have hkl : kk < l := by omega
      rw [hkk] at g2 HZ
      clear hy hz hkk
      have hc1 : ∀ w', Below wr.heap.size wr w' → w'.cell? ⟨b, o + k, none⟩ = some (.int .i64 x) := fun w' hw => by rw [hw.cell (p := ⟨b, o + k, none⟩) (World.block_lt_of_cell? wr _ g)]; exact g
      have hc2 : ∀ w', Below wr.heap.size wr w' → w'.cell? ⟨b, o + kk, none⟩ = some (.int .i64 y) := fun w' hw => by rw [hw.cell (p := ⟨b, o + kk, none⟩) (World.block_lt_of_cell? wr _ g2)]; exact g2
      have HC1 := Lib.hid hc1
      have HC2 := Lib.hid hc2
      have HBC := Lib.hid (bdrew1 wr)
      have hsize := HB.out.size
      have hwk : IntKind.i64.wrap (kk : Int) = (kk : Int) := IntWalk.i64_in _ (by omega)
      have hkkz : (kk : Int) < (l : Int) := by omega
      have hkk0 : (0 : Int) ≤ (kk : Int) := by omega
      clear hc1 hc2 g g2
      go_wp2_with fail
      refine wp_region_noPanic ?_
      refine wp_region_held_drew (S := (fun w' => w'.cell? ⟨b, o + k, none⟩ = some (.int .i64 x) ∧ w'.cell? ⟨b, o + kk, none⟩ = some (.int .i64 y) ∧ Below wr.heap.size wr w')) (by kernel_rfl) ?_ (fun hHeld => ?_)
      · exact ⟨HC1.out _ HBC.out, HC2.out _ HBC.out, HBC.out⟩
      refine wpAnyH_take (i := 0) (oi := ⟨_, _, _, _, _, _⟩) (v := ?vv1) rfl (by kernel_rfl) (by kernel_rfl) (by kernel_rfl) (fun _ _ _ h => h) (Or.inl ⟨by rfl, ?hy1⟩) (by assumption) ?_
      case hy1 => (intro w hSw; (try dsimp only at hSw); go_simp; try (with_reducible rfl))
      try simp only [Act.put, List.setIfInBounds_toArray, List.set_cons_zero, List.set_cons_succ]
      refine wpAnyH_take (i := 1) (oi := ⟨_, _, _, _, _, _⟩) (v := ?vv2) rfl (by kernel_rfl) (by kernel_rfl) (by kernel_rfl) (fun _ _ _ h => h) (Or.inl ⟨by rfl, ?hy2⟩) (by assumption) ?_
      case hy2 => (intro w hSw; (try dsimp only at hSw); go_simp; try (with_reducible rfl))
      try simp only [Act.put, List.setIfInBounds_toArray, List.set_cons_zero, List.set_cons_succ]
      refine wpAnyH_take (i := 2) (oi := ⟨_, _, _, _, _, _⟩) (v := ?vv3) rfl (by kernel_rfl) (by kernel_rfl) (by kernel_rfl) (fun _ _ _ h => h) (Or.inl ⟨by rfl, ?hy3⟩) (by assumption) ?_
      case hy3 => (intro w hSw; (try dsimp only at hSw); go_simp; try (with_reducible rfl))
      try simp only [Act.put, List.setIfInBounds_toArray, List.set_cons_zero, List.set_cons_succ]
      refine wpAnyH_take (i := 3) (oi := ⟨_, _, _, _, _, _⟩) (v := ?vv4) rfl (by kernel_rfl) (by kernel_rfl) (by kernel_rfl) (fun _ _ _ h => h) (Or.inl ⟨by rfl, ?hy4⟩) (by assumption) ?_
      case hy4 => (intro w hSw; (try dsimp only at hSw); go_simp; try (with_reducible rfl))
      try simp only [Act.put, List.setIfInBounds_toArray, List.set_cons_zero, List.set_cons_succ]
      refine wpAnyH_take (i := 4) (oi := ⟨_, _, _, _, _, _⟩) (v := ?vv5) rfl (by kernel_rfl) (by kernel_rfl) (by kernel_rfl) (fun _ _ _ h => h) (Or.inl ⟨by rfl, ?hy5⟩) (by assumption) ?_
      case hy5 => (intro w hSw; (try dsimp only at hSw); go_simp; try (with_reducible rfl))
      try simp only [Act.put, List.setIfInBounds_toArray, List.set_cons_zero, List.set_cons_succ]
      refine wpAnyH_take (i := 5) (oi := ⟨_, _, _, _, _, _⟩) (v := ?vv6) rfl (by kernel_rfl) (by kernel_rfl) (by kernel_rfl) (fun _ _ _ h => h) (Or.inl ⟨by rfl, ?hy6⟩) (by assumption) ?_
      case hy6 => (intro w hSw; (try dsimp only at hSw); go_simp; try (with_reducible rfl))
      try simp only [Act.put, List.setIfInBounds_toArray, List.set_cons_zero, List.set_cons_succ]
      refine wpAnyH_take (i := 6) (oi := ⟨_, _, _, _, _, _⟩) (v := ?vv7) rfl (by kernel_rfl) (by kernel_rfl) (by kernel_rfl) (fun _ _ _ h => h) (Or.inl ⟨by rfl, ?hy7⟩) (by assumption) ?_
      case hy7 => (intro w hSw; (try dsimp only at hSw); go_simp; try (with_reducible rfl))
      try simp only [Act.put, List.setIfInBounds_toArray, List.set_cons_zero, List.set_cons_succ]
      refine wpAnyH_take (i := 7) (oi := ⟨_, _, _, _, _, _⟩) (v := ?vv8) rfl (by kernel_rfl) (by kernel_rfl) (by kernel_rfl) (fun _ _ _ h => h) (Or.inl ⟨by rfl, ?hy8⟩) (by assumption) ?_
      case hy8 => (intro w hSw; (try dsimp only at hSw); go_simp; try (with_reducible rfl))
      try simp only [Act.put, List.setIfInBounds_toArray, List.set_cons_zero, List.set_cons_succ]
      refine wpAnyH_take (i := 8) (oi := ⟨_, _, _, _, _, _⟩) (v := ?vv9) rfl (by kernel_rfl) (by kernel_rfl) (by kernel_rfl) (fun _ _ _ h => h) (Or.inl ⟨by rfl, ?hy9⟩) (by assumption) ?_
      case hy9 => (intro w hSw; (try dsimp only at hSw); go_simp; try (with_reducible rfl))
      try simp only [Act.put, List.setIfInBounds_toArray, List.set_cons_zero, List.set_cons_succ]
      refine wpAnyH_take (i := 9) (oi := ⟨_, _, _, _, _, _⟩) (v := ?vv10) rfl (by kernel_rfl) (by kernel_rfl) (by kernel_rfl) (fun _ _ _ h => h) (Or.inl ⟨by rfl, ?hy10⟩) (by assumption) ?_
      case hy10 => (intro w hSw; (try dsimp only at hSw); go_simp; try (with_reducible rfl))
      try simp only [Act.put, List.setIfInBounds_toArray, List.set_cons_zero, List.set_cons_succ]
      refine wpAnyH_take (i := 10) (oi := ⟨_, _, _, _, _, _⟩) (v := ?vv11) rfl (by kernel_rfl) (by kernel_rfl) (by kernel_rfl) (fun _ _ _ h => h) (Or.inl ⟨by rfl, ?hy11⟩) (by assumption) ?_
      case hy11 => (intro w hSw; (try dsimp only at hSw); go_simp; try (with_reducible rfl))
      try simp only [Act.put, List.setIfInBounds_toArray, List.set_cons_zero, List.set_cons_succ]
      refine wpAnyH_ready (rs := [11]) (by kernel_rfl) (by simp) (AllReadyH.cons (o := ⟨_, _, _, _, _, _⟩) rfl (fun K9 hK9 => ?_) AllReadyH.nil)
      go_simp
      go_at_call 17; with_reducible refine (powerI_b y (kk : Int) z HZ.out _).mono ?_; rintro e w5 ⟨rfl, hb5⟩; have HBC := Lib.hid (HBC.out.trans (hb5.mono HBC.out.size)); clear hb5
      refine hK9.out _ _ ?_ (fun hHeld => ?_)
      · exact ⟨HC1.out _ HBC.out, HC2.out _ HBC.out, HBC.out⟩
      clear hK9 K9
      try simp only [Act.put, List.setIfInBounds_toArray, List.set_cons_zero, List.set_cons_succ]
      refine wpAnyH_take (i := 12) (oi := ⟨_, _, _, _, _, _⟩) (v := ?vv12) rfl (by kernel_rfl) (by kernel_rfl) (by kernel_rfl) (fun _ _ _ h => h) (Or.inl ⟨by rfl, ?hy12⟩) (by assumption) ?_
      case hy12 => (intro w hSw; (try dsimp only at hSw); go_simp; try (with_reducible rfl))
      try simp only [Act.put, List.setIfInBounds_toArray, List.set_cons_zero, List.set_cons_succ]
      refine wpAnyH_done (by kernel_rfl) ?_ _
      refine NoPanic.normal ?_
      have hB5 : Below w.heap.size w w5 := HB.out.trans (HBC.out.mono hsize)
      have HB5 := Lib.hid hB5
      clear hHeld
      by_cases hzy : z < x
      · have hr0 : r = false := HNO.out k hlt (stepM_not (fun e => by
          have h4 := e.2.2.2 (by omega)
          rw [HX.out, HY.out, show (k - 1 : Nat) = kk by omega, HZ.out] at h4
          omega))
        subst hr0
        have hdz : decide (z < x) = true := by simpa using hzy
        go_wp2
        go_ret
        exact ⟨rfl, HB5.out⟩
      · have hdz : decide (z < x) = false := by simpa using hzy
        have HSK : Hid (stepM L k = true) := by
          have : stepM L k = true := by
            have hin := HIN.out k hlt
            rw [stepM_iff, HY.out, show (k - 1 : Nat) = kk by omega, HZ.out]
            exact ⟨hin.1, hin.2, fun h => by omega, fun _ => by rw [HX.out]; omega⟩
          exact this
        go_wp2
        go_roundw
        case rel =>
          refine ⟨k + 1, by omega, .inl (by omega), by go_num, HB5.out, fun j hj hjl => ?_⟩
          by_cases e : j = k
          · subst e; exact HSK.out
          · exact HST.out j (by omega) hjl
        case measure => simp [intOf]; omega
    · have hr1 : r = true := HYES.out hl1 hl7 (fun j hj => HST.out j (by omega) hj)
      subst hr1
      have hdk : decide ((k : Int) < (l : Int)) = false := by simpa using hlt
      go_wp2
      go_ret
      exact ⟨rfl, HB.out⟩

end Go.Proofs.Ytmonaiojejbhkaa
