/-
  WALKS: spec.MaximalSets and spec.MinimalSets.
-/
import Derived.Test.YtmonaiojejbhkaaWSpecOrder
import Derived.Test.YtmonaiojejbhkaaWBest
namespace Go.Proofs.Ytmonaiojejbhkaa
open Go.RowKit
open Sets

theorem any_next (r : Nat → Nat → Bool) (L : List Int) (n s : Nat) (h : n < L.length) : (L.take (n + 1)).any (beatsQ r (s : Int)) = ((L.take n).any (beatsQ r (s : Int)) || beatsQ r (s : Int) (L.getD n 0)) := by
  rw [List.take_succ_eq_append_getElem h, List.any_append, List.getD, List.getElem?_eq_getElem h]
  simp
theorem and_sub3 : ∀ a b : Nat, a < 64 → b < 64 → (bits BinOp.and IntKind.i64 (a : Int) (b : Int) == (b : Int)) = sub b a := by
  refine fin64b ?_
  decide +kernel

set_option maxRecDepth 100000 in
set_option maxHeartbeats 4000000 in
theorem l2Extreme_true (a : Option Addr) (c : Nat) (xs : List Int) (hlen : xs.length ≤ 1099511627776) (hall : allOk xs = true) (w : World) (h : Ints w a xs) :
    Calls Try.prog 87 #[.slice a xs.length c, .bool true] w fun e w' => ∃ v, e = .returned v ∧ OwnInts w' w.heap.size v (best sub (order xs)) ∧ Below w.heap.size w w' := by
  obtain ⟨i0, hi, hz0, hz1, hz2⟩ := info_parts info_int
  have hord : order xs = ord (inZ xs) := by unfold order; rw [if_pos hall]
  have hL := order_sets xs
  have hLn := order_length xs
  have HL := Lib.hid hL
  have HORD := Lib.hid hord
  have H := Lib.hid h
  have HALL := Lib.hid hall
  clear h hall hL hord
  go_enter Try.func87, Try.ntmps87
  go_wp2_with fail
  refine (l2Order_any _ _ xs hlen HALL.out _ H.out).mono ?_
  rintro e w1 ⟨v, rfl, hO, hb1⟩
  rw [← HORD.out] at hO
  generalize hLe : order xs = L at *
  have HLE := Lib.hid hLe
  clear hLe HORD
  obtain ⟨a1, c1, g1, rfl, hg1, hr1⟩ := hO.at
  have hsz1 := hb1.size
  have R1 := Lib.hid hr1
  have B1 := Lib.hid hb1
  clear hO hr1 hb1 hg1
  go_wp2
  go_loopw [6, 7] (fun v i wr => ∃ k : Nat, k ≤ L.length ∧ i = .int .i64 (k : Int) ∧ OwnInts wr w1.heap.size v (kept sub L k) ∧ Below w1.heap.size w1 wr) (fun _ i _ => L.length - (intOf i).toNat)
  case atStart => exact ⟨0, Nat.zero_le _, rfl, OwnInts.lit w1 _ [] (Nat.le_refl _) (by simp), (Below.refl _ _).alloc (Nat.le_refl _) _⟩
  case round =>
    obtain ⟨k, hk, rfl, hO, hB⟩ := hrel
    unfold OwnInts at hO
    have HO := Lib.hid hO
    clear hO
    have hsz := hB.size
    have hl := kept_length sub L k
    obtain ⟨wo, rfl⟩ : ∃ wo : World, wo = wr := ⟨_, rfl⟩
    by_cases hlt : k < L.length
    · obtain ⟨s, hs, hs64⟩ := HL.out k hlt
      have HS := Lib.hid hs
      have R2 := Lib.hid (R1.out.keeps hB)
      obtain ⟨ea, hlt1, hc1, _⟩ := R2.out k hlt
      rw [hs] at hc1
      have EA := Lib.hid ea
      obtain rfl := ea
      have hltk : decide (k < L.length) = true := by simpa using hlt
      clear hs
      go_wp2
      go_loop [8, 9] (fun f i => ∃ n : Nat, n ≤ L.length ∧ i = .int .i64 (n : Int) ∧ f = .bool (!((L.take n).any (beatsQ sub (s : Int))))) (fun _ i => L.length - (intOf i).toNat)
      case atStart => exact ⟨0, Nat.zero_le _, rfl, by simp⟩
      case round =>
        obtain ⟨n, hn, rfl, rfl⟩ := hrel
        by_cases hln : n < L.length
        · obtain ⟨t, ht, ht64⟩ := HL.out n hln
          have HT := Lib.hid ht
          obtain ⟨_, _, hc2, _⟩ := R2.out n hln
          rw [ht] at hc2
          have hnx := any_next sub L n s hln
          rw [ht] at hnx
          have HNX := Lib.hid hnx
          generalize (L.take n).any (beatsQ sub (s : Int)) = f at *
          clear ht hnx
          by_cases e : s = t
          · have hq : ((s : Int) != (t : Int)) = false := by simp; omega
            have hb : beatsQ sub (s : Int) (t : Int) = false := by unfold beatsQ; rw [e]; simp
            have HBQ := Lib.hid hb
            clear e hb
            go_wp2
            go_round
            case rel => exact ⟨n + 1, by omega, by go_num, by rw [HNX.out, HBQ.out, Bool.or_false]⟩
            case measure => simp [intOf]; omega
          · have hq : ((s : Int) != (t : Int)) = true := by simp; omega
            have hb : beatsQ sub (s : Int) (t : Int) = sub s t := by unfold beatsQ; rw [show ((t : Int) != (s : Int)) = true by simp; omega]; rfl
            have HBQ := Lib.hid hb
            clear e hb
            have ha := and_sub2 s t hs64 ht64
            cases hsub : sub s t with
            | true =>
              rw [hsub] at ha
              have HSUB := Lib.hid hsub
              clear hsub
              go_wp2
              go_round
              case rel => exact ⟨n + 1, by omega, by go_num, by rw [HNX.out, HBQ.out, HSUB.out, Bool.or_true]; rfl⟩
              case measure => simp [intOf]; omega
            | false =>
              rw [hsub] at ha
              have HSUB := Lib.hid hsub
              clear hsub
              go_wp2
              go_round
              case rel => exact ⟨n + 1, by omega, by go_num, by rw [HNX.out, HBQ.out, HSUB.out, Bool.or_false]⟩
              case measure => simp [intOf]; omega
        · have E := Lib.hid (show n = L.length by omega)
          have hu := unbeaten_any sub L (s : Int)
          have hf : (!((L.take n).any (beatsQ sub (s : Int)))) = unbeaten sub L (L.getD k 0) := by rw [HS.out, hu, E.out, List.take_length]
          have HF := Lib.hid hf
          clear hu hf
          generalize (L.take n).any (beatsQ sub (s : Int)) = f at *
          cases hfv : f with
          | true =>
            have HU : Hid (unbeaten sub L (L.getD k 0) = false) := by
              have : unbeaten sub L (L.getD k 0) = false := by rw [← HF.out, hfv]; rfl
              exact this
            clear hfv
            go_wp2
            go_roundw
            case rel => exact ⟨k + 1, by omega, by go_num, by rw [kept_miss sub L k hlt HU.out]; exact HO.out, hB⟩
            case measure => simp [intOf]; omega
          | false =>
            have HU : Hid (unbeaten sub L (L.getD k 0) = true) := by
              have : unbeaten sub L (L.getD k 0) = true := by rw [← HF.out, hfv]; rfl
              exact this
            clear hfv
            go_wp2_with (at_builtin; refine wpList_append_own _ rfl _ _ 26 rfl w1.heap.size 3 i0 (.int .i64 0) 1 8 Try.underlying26 hi hz0 hz1 hz2 rfl (by decide) _ _ _ rfl (HO.out.alloc _) ⟨wo.heap.size, 0, none⟩ 1 1 [.int .i64 (s : Int)] rfl rfl ?c1 ?c2 ?c3 ?c4 ?c5 ?_)
            try (case c1 => intro j u hj; exact Mem.cell_new wo _ _ j u hj)
            case c2 => first | rfl | (intro u hu; simp at hu; subst hu; rfl)
            case c3 => unfold maxLen; omega
            case c4 => omega
            case c5 => first | omega | (simp; omega)
            intro v' w3 hown1 hgrow _
            have hB3 : Below w1.heap.size w1 w3 := (hB.alloc hsz _).grown hgrow (by simp; omega) (fun g hg => (HO.out.lt g hg).1)
            have H1 := Lib.hid hown1
            clear hown1 hgrow
            go_wp2
            go_roundw
            case rel => exact ⟨k + 1, by omega, by go_num, by rw [kept_hit sub L k hlt HU.out, HS.out]; exact OwnInts.next H1.out, hB3⟩
            case measure => simp [intOf]; omega
    · have E := Lib.hid (show k = L.length by omega)
      go_wp2
      go_ret
      refine ⟨_, rfl, ?_, B1.out.trans (hB.mono (by omega))⟩
      have h2 := HO.out
      rw [E.out, kept_end] at h2
      rw [HLE.out]
      exact OwnInts.lower (base := w1.heap.size) h2 (by omega)

set_option maxRecDepth 100000 in
set_option maxHeartbeats 4000000 in
theorem l2Extreme_false (a : Option Addr) (c : Nat) (xs : List Int) (hlen : xs.length ≤ 1099511627776) (hall : allOk xs = true) (w : World) (h : Ints w a xs) :
    Calls Try.prog 87 #[.slice a xs.length c, .bool false] w fun e w' => ∃ v, e = .returned v ∧ OwnInts w' w.heap.size v (best (fun s o => sub o s) (order xs)) ∧ Below w.heap.size w w' := by
  obtain ⟨i0, hi, hz0, hz1, hz2⟩ := info_parts info_int
  have hord : order xs = ord (inZ xs) := by unfold order; rw [if_pos hall]
  have hL := order_sets xs
  have hLn := order_length xs
  have HL := Lib.hid hL
  have HORD := Lib.hid hord
  have H := Lib.hid h
  have HALL := Lib.hid hall
  clear h hall hL hord
  go_enter Try.func87, Try.ntmps87
  go_wp2_with fail
  refine (l2Order_any _ _ xs hlen HALL.out _ H.out).mono ?_
  rintro e w1 ⟨v, rfl, hO, hb1⟩
  rw [← HORD.out] at hO
  generalize hLe : order xs = L at *
  have HLE := Lib.hid hLe
  clear hLe HORD
  obtain ⟨a1, c1, g1, rfl, hg1, hr1⟩ := hO.at
  have hsz1 := hb1.size
  have R1 := Lib.hid hr1
  have B1 := Lib.hid hb1
  clear hO hr1 hb1 hg1
  go_wp2
  go_loopw [6, 7] (fun v i wr => ∃ k : Nat, k ≤ L.length ∧ i = .int .i64 (k : Int) ∧ OwnInts wr w1.heap.size v (kept (fun s o => sub o s) L k) ∧ Below w1.heap.size w1 wr) (fun _ i _ => L.length - (intOf i).toNat)
  case atStart => exact ⟨0, Nat.zero_le _, rfl, OwnInts.lit w1 _ [] (Nat.le_refl _) (by simp), (Below.refl _ _).alloc (Nat.le_refl _) _⟩
  case round =>
    obtain ⟨k, hk, rfl, hO, hB⟩ := hrel
    unfold OwnInts at hO
    have HO := Lib.hid hO
    clear hO
    have hsz := hB.size
    have hl := kept_length (fun s o => sub o s) L k
    obtain ⟨wo, rfl⟩ : ∃ wo : World, wo = wr := ⟨_, rfl⟩
    by_cases hlt : k < L.length
    · obtain ⟨s, hs, hs64⟩ := HL.out k hlt
      have HS := Lib.hid hs
      have R2 := Lib.hid (R1.out.keeps hB)
      obtain ⟨ea, hlt1, hc1, _⟩ := R2.out k hlt
      rw [hs] at hc1
      have EA := Lib.hid ea
      obtain rfl := ea
      have hltk : decide (k < L.length) = true := by simpa using hlt
      clear hs
      go_wp2
      go_loop [8, 9] (fun f i => ∃ n : Nat, n ≤ L.length ∧ i = .int .i64 (n : Int) ∧ f = .bool (!((L.take n).any (beatsQ (fun s o => sub o s) (s : Int))))) (fun _ i => L.length - (intOf i).toNat)
      case atStart => exact ⟨0, Nat.zero_le _, rfl, by simp⟩
      case round =>
        obtain ⟨n, hn, rfl, rfl⟩ := hrel
        by_cases hln : n < L.length
        · obtain ⟨t, ht, ht64⟩ := HL.out n hln
          have HT := Lib.hid ht
          obtain ⟨_, _, hc2, _⟩ := R2.out n hln
          rw [ht] at hc2
          have hnx := any_next (fun s o => sub o s) L n s hln
          rw [ht] at hnx
          have HNX := Lib.hid hnx
          generalize (L.take n).any (beatsQ (fun s o => sub o s) (s : Int)) = f at *
          clear ht hnx
          by_cases e : s = t
          · have hq : ((s : Int) != (t : Int)) = false := by simp; omega
            have hb : beatsQ (fun s o => sub o s) (s : Int) (t : Int) = false := by unfold beatsQ; rw [e]; simp
            have HBQ := Lib.hid hb
            clear e hb
            go_wp2
            go_round
            case rel => exact ⟨n + 1, by omega, by go_num, by rw [HNX.out, HBQ.out, Bool.or_false]⟩
            case measure => simp [intOf]; omega
          · have hq : ((s : Int) != (t : Int)) = true := by simp; omega
            have hb : beatsQ (fun s o => sub o s) (s : Int) (t : Int) = sub t s := by unfold beatsQ; rw [show ((t : Int) != (s : Int)) = true by simp; omega]; rfl
            have HBQ := Lib.hid hb
            clear e hb
            have ha := and_sub3 s t hs64 ht64
            cases hsub : sub t s with
            | true =>
              rw [hsub] at ha
              have HSUB := Lib.hid hsub
              clear hsub
              go_wp2
              go_round
              case rel => exact ⟨n + 1, by omega, by go_num, by rw [HNX.out, HBQ.out, HSUB.out, Bool.or_true]; rfl⟩
              case measure => simp [intOf]; omega
            | false =>
              rw [hsub] at ha
              have HSUB := Lib.hid hsub
              clear hsub
              go_wp2
              go_round
              case rel => exact ⟨n + 1, by omega, by go_num, by rw [HNX.out, HBQ.out, HSUB.out, Bool.or_false]⟩
              case measure => simp [intOf]; omega
        · have E := Lib.hid (show n = L.length by omega)
          have hu := unbeaten_any (fun s o => sub o s) L (s : Int)
          have hf : (!((L.take n).any (beatsQ (fun s o => sub o s) (s : Int)))) = unbeaten (fun s o => sub o s) L (L.getD k 0) := by rw [HS.out, hu, E.out, List.take_length]
          have HF := Lib.hid hf
          clear hu hf
          generalize (L.take n).any (beatsQ (fun s o => sub o s) (s : Int)) = f at *
          cases hfv : f with
          | true =>
            have HU : Hid (unbeaten (fun s o => sub o s) L (L.getD k 0) = false) := by
              have : unbeaten (fun s o => sub o s) L (L.getD k 0) = false := by rw [← HF.out, hfv]; rfl
              exact this
            clear hfv
            go_wp2
            go_roundw
            case rel => exact ⟨k + 1, by omega, by go_num, by rw [kept_miss (fun s o => sub o s) L k hlt HU.out]; exact HO.out, hB⟩
            case measure => simp [intOf]; omega
          | false =>
            have HU : Hid (unbeaten (fun s o => sub o s) L (L.getD k 0) = true) := by
              have : unbeaten (fun s o => sub o s) L (L.getD k 0) = true := by rw [← HF.out, hfv]; rfl
              exact this
            clear hfv
            go_wp2_with (at_builtin; refine wpList_append_own _ rfl _ _ 26 rfl w1.heap.size 3 i0 (.int .i64 0) 1 8 Try.underlying26 hi hz0 hz1 hz2 rfl (by decide) _ _ _ rfl (HO.out.alloc _) ⟨wo.heap.size, 0, none⟩ 1 1 [.int .i64 (s : Int)] rfl rfl ?c1 ?c2 ?c3 ?c4 ?c5 ?_)
            try (case c1 => intro j u hj; exact Mem.cell_new wo _ _ j u hj)
            case c2 => first | rfl | (intro u hu; simp at hu; subst hu; rfl)
            case c3 => unfold maxLen; omega
            case c4 => omega
            case c5 => first | omega | (simp; omega)
            intro v' w3 hown1 hgrow _
            have hB3 : Below w1.heap.size w1 w3 := (hB.alloc hsz _).grown hgrow (by simp; omega) (fun g hg => (HO.out.lt g hg).1)
            have H1 := Lib.hid hown1
            clear hown1 hgrow
            go_wp2
            go_roundw
            case rel => exact ⟨k + 1, by omega, by go_num, by rw [kept_hit (fun s o => sub o s) L k hlt HU.out, HS.out]; exact OwnInts.next H1.out, hB3⟩
            case measure => simp [intOf]; omega
    · have E := Lib.hid (show k = L.length by omega)
      go_wp2
      go_ret
      refine ⟨_, rfl, ?_, B1.out.trans (hB.mono (by omega))⟩
      have h2 := HO.out
      rw [E.out, kept_end] at h2
      rw [HLE.out]
      exact OwnInts.lower (base := w1.heap.size) h2 (by omega)

end Go.Proofs.Ytmonaiojejbhkaa
