/-
  TEXTS of one claim, put together: WSpecBest, WCx4, WCx5.
-/
import Derived.Test.YtfnpkglijknnoaaJg4
import Derived.Test.YtfnpkglijknnoaaJg5
/-! WALKS: spec.MaximalSets and spec.MinimalSets. -/

namespace Go.Proofs.Ytfnpkglijknnoaa
open Go.RowKit
open Sets

theorem any_next (r : Nat → Nat → Bool) (L : List Int) (n s : Nat) (h : n < L.length) : (L.take (n + 1)).any (beatsQ r (s : Int)) = ((L.take n).any (beatsQ r (s : Int)) || beatsQ r (s : Int) (L.getD n 0)) := by
  rw [List.take_succ_eq_append_getElem h, List.any_append, List.getD, List.getElem?_eq_getElem h]
  simp
theorem and_sub3 : ∀ a b : Nat, a < 64 → b < 64 → (bits BinOp.and IntKind.i64 (a : Int) (b : Int) == (b : Int)) = sub b a := by
  refine fin64b ?_
  decide +kernel

set_option maxRecDepth 100000 in
set_option maxHeartbeats 4000000 in
theorem l2Extreme_true (a : Option Addr) (c : Nat) (xs : List Int) (hlen : xs.length ≤ 1099511627776) (hall : allOk xs = true) (w : World) (h : Ints w a xs) :
    Calls Try.prog 60 #[.slice a xs.length c, .bool true] w fun e w' => ∃ v, e = .returned v ∧ OwnInts w' w.heap.size v (best sub (order xs)) ∧ Below w.heap.size w w' := by
  obtain ⟨i0, hi, hz0, hz1, hz2⟩ := info_parts info_int
  have hord : order xs = ord (inZ xs) := by unfold order; rw [if_pos hall]
  have hL := order_sets xs
  have hLn := order_length xs
  have HL := Lib.hid hL
  have HORD := Lib.hid hord
  have H := Lib.hid h
  have HALL := Lib.hid hall
  clear h hall hL hord
  go_enter Try.func60, Try.ntmps60
  go_wp2_with fail
  refine (l2Order_any _ _ xs hlen HALL.out _ H.out).mono ?_
  rintro e w1 ⟨v, rfl, hO, hb1⟩
  rw [← HORD.out] at hO
  generalize hLe : order xs = L at *
  have HLE := Lib.hid hLe
  clear hLe HORD
  obtain ⟨a1, c1, g1, rfl, hg1, hr1⟩ := hO.at
  have hsz1 := hb1.size
  have R1 := Lib.hid hr1
  have B1 := Lib.hid hb1
  clear hO hr1 hb1 hg1
  go_wp2
  go_loopw [6, 7] (fun v i wr => ∃ k : Nat, k ≤ L.length ∧ i = .int .i64 (k : Int) ∧ OwnInts wr w1.heap.size v (kept sub L k) ∧ Below w1.heap.size w1 wr) (fun _ i _ => L.length - (intOf i).toNat)
  case atStart => exact ⟨0, Nat.zero_le _, rfl, OwnInts.lit w1 _ [] (Nat.le_refl _) (by simp), (Below.refl _ _).alloc (Nat.le_refl _) _⟩
  case round =>
    obtain ⟨k, hk, rfl, hO, hB⟩ := hrel
    unfold OwnInts at hO
    have HO := Lib.hid hO
    clear hO
    have hsz := hB.size
    have hl := kept_length sub L k
    obtain ⟨wo, rfl⟩ : ∃ wo : World, wo = wr := ⟨_, rfl⟩
    by_cases hlt : k < L.length
    · obtain ⟨s, hs, hs64⟩ := HL.out k hlt
      have HS := Lib.hid hs
      have R2 := Lib.hid (R1.out.keeps hB)
      obtain ⟨ea, hlt1, hc1, _⟩ := R2.out k hlt
      rw [hs] at hc1
      have EA := Lib.hid ea
      obtain rfl := ea
      have hltk : decide (k < L.length) = true := by simpa using hlt
      clear hs
      go_wp2
      go_loop [8, 9] (fun f i => ∃ n : Nat, n ≤ L.length ∧ i = .int .i64 (n : Int) ∧ f = .bool (!((L.take n).any (beatsQ sub (s : Int))))) (fun _ i => L.length - (intOf i).toNat)
      case atStart => exact ⟨0, Nat.zero_le _, rfl, by simp⟩
      case round =>
        obtain ⟨n, hn, rfl, rfl⟩ := hrel
        by_cases hln : n < L.length
        · obtain ⟨t, ht, ht64⟩ := HL.out n hln
          have HT := Lib.hid ht
          obtain ⟨_, _, hc2, _⟩ := R2.out n hln
          rw [ht] at hc2
          have hnx := any_next sub L n s hln
          rw [ht] at hnx
          have HNX := Lib.hid hnx
          generalize (L.take n).any (beatsQ sub (s : Int)) = f at *
          clear ht hnx
          by_cases e : s = t
          · have hq : ((s : Int) != (t : Int)) = false := by simp; omega
            have hb : beatsQ sub (s : Int) (t : Int) = false := by unfold beatsQ; rw [e]; simp
            have HBQ := Lib.hid hb
            clear e hb
            go_wp2
            go_round
            case rel => exact ⟨n + 1, by omega, by go_num, by rw [HNX.out, HBQ.out, Bool.or_false]⟩
            case measure => simp [intOf]; omega
          · have hq : ((s : Int) != (t : Int)) = true := by simp; omega
            have hb : beatsQ sub (s : Int) (t : Int) = sub s t := by unfold beatsQ; rw [show ((t : Int) != (s : Int)) = true by simp; omega]; rfl
            have HBQ := Lib.hid hb
            clear e hb
            have ha := and_sub2 s t hs64 ht64
            cases hsub : sub s t with
            | true =>
              rw [hsub] at ha
              have HSUB := Lib.hid hsub
              clear hsub
              go_wp2
              go_round
              case rel => exact ⟨n + 1, by omega, by go_num, by rw [HNX.out, HBQ.out, HSUB.out, Bool.or_true]; rfl⟩
              case measure => simp [intOf]; omega
            | false =>
              rw [hsub] at ha
              have HSUB := Lib.hid hsub
              clear hsub
              go_wp2
              go_round
              case rel => exact ⟨n + 1, by omega, by go_num, by rw [HNX.out, HBQ.out, HSUB.out, Bool.or_false]⟩
              case measure => simp [intOf]; omega
        · have E := Lib.hid (show n = L.length by omega)
          have hu := unbeaten_any sub L (s : Int)
          have hf : (!((L.take n).any (beatsQ sub (s : Int)))) = unbeaten sub L (L.getD k 0) := by rw [HS.out, hu, E.out, List.take_length]
          have HF := Lib.hid hf
          clear hu hf
          generalize (L.take n).any (beatsQ sub (s : Int)) = f at *
          cases hfv : f with
          | true =>
            have HU : Hid (unbeaten sub L (L.getD k 0) = false) := by
              have : unbeaten sub L (L.getD k 0) = false := by rw [← HF.out, hfv]; rfl
              exact this
            clear hfv
            go_wp2
            go_roundw
            case rel => exact ⟨k + 1, by omega, by go_num, by rw [kept_miss sub L k hlt HU.out]; exact HO.out, hB⟩
            case measure => simp [intOf]; omega
          | false =>
            have HU : Hid (unbeaten sub L (L.getD k 0) = true) := by
              have : unbeaten sub L (L.getD k 0) = true := by rw [← HF.out, hfv]; rfl
              exact this
            clear hfv
            go_wp2_with (at_builtin; refine wpList_append_own _ rfl _ _ 24 rfl w1.heap.size 3 i0 (.int .i64 0) 1 8 Try.underlying24 hi hz0 hz1 hz2 rfl (by decide) _ _ _ rfl (HO.out.alloc _) ⟨wo.heap.size, 0, none⟩ 1 1 [.int .i64 (s : Int)] rfl rfl ?c1 ?c2 ?c3 ?c4 ?c5 ?_)
            try (case c1 => intro j u hj; exact Mem.cell_new wo _ _ j u hj)
            case c2 => first | rfl | (intro u hu; simp at hu; subst hu; rfl)
            case c3 => unfold maxLen; omega
            case c4 => omega
            case c5 => first | omega | (simp; omega)
            intro v' w3 hown1 hgrow _
            have hB3 : Below w1.heap.size w1 w3 := (hB.alloc hsz _).grown hgrow (by simp; omega) (fun g hg => (HO.out.lt g hg).1)
            have H1 := Lib.hid hown1
            clear hown1 hgrow
            go_wp2
            go_roundw
            case rel => exact ⟨k + 1, by omega, by go_num, by rw [kept_hit sub L k hlt HU.out, HS.out]; exact OwnInts.next H1.out, hB3⟩
            case measure => simp [intOf]; omega
    · have E := Lib.hid (show k = L.length by omega)
      go_wp2
      go_ret
      refine ⟨_, rfl, ?_, B1.out.trans (hB.mono (by omega))⟩
      have h2 := HO.out
      rw [E.out, kept_end] at h2
      rw [HLE.out]
      exact OwnInts.lower (base := w1.heap.size) h2 (by omega)

set_option maxRecDepth 100000 in
set_option maxHeartbeats 4000000 in
theorem l2Extreme_false (a : Option Addr) (c : Nat) (xs : List Int) (hlen : xs.length ≤ 1099511627776) (hall : allOk xs = true) (w : World) (h : Ints w a xs) :
    Calls Try.prog 60 #[.slice a xs.length c, .bool false] w fun e w' => ∃ v, e = .returned v ∧ OwnInts w' w.heap.size v (best (fun s o => sub o s) (order xs)) ∧ Below w.heap.size w w' := by
  obtain ⟨i0, hi, hz0, hz1, hz2⟩ := info_parts info_int
  have hord : order xs = ord (inZ xs) := by unfold order; rw [if_pos hall]
  have hL := order_sets xs
  have hLn := order_length xs
  have HL := Lib.hid hL
  have HORD := Lib.hid hord
  have H := Lib.hid h
  have HALL := Lib.hid hall
  clear h hall hL hord
  go_enter Try.func60, Try.ntmps60
  go_wp2_with fail
  refine (l2Order_any _ _ xs hlen HALL.out _ H.out).mono ?_
  rintro e w1 ⟨v, rfl, hO, hb1⟩
  rw [← HORD.out] at hO
  generalize hLe : order xs = L at *
  have HLE := Lib.hid hLe
  clear hLe HORD
  obtain ⟨a1, c1, g1, rfl, hg1, hr1⟩ := hO.at
  have hsz1 := hb1.size
  have R1 := Lib.hid hr1
  have B1 := Lib.hid hb1
  clear hO hr1 hb1 hg1
  go_wp2
  go_loopw [6, 7] (fun v i wr => ∃ k : Nat, k ≤ L.length ∧ i = .int .i64 (k : Int) ∧ OwnInts wr w1.heap.size v (kept (fun s o => sub o s) L k) ∧ Below w1.heap.size w1 wr) (fun _ i _ => L.length - (intOf i).toNat)
  case atStart => exact ⟨0, Nat.zero_le _, rfl, OwnInts.lit w1 _ [] (Nat.le_refl _) (by simp), (Below.refl _ _).alloc (Nat.le_refl _) _⟩
  case round =>
    obtain ⟨k, hk, rfl, hO, hB⟩ := hrel
    unfold OwnInts at hO
    have HO := Lib.hid hO
    clear hO
    have hsz := hB.size
    have hl := kept_length (fun s o => sub o s) L k
    obtain ⟨wo, rfl⟩ : ∃ wo : World, wo = wr := ⟨_, rfl⟩
    by_cases hlt : k < L.length
    · obtain ⟨s, hs, hs64⟩ := HL.out k hlt
      have HS := Lib.hid hs
      have R2 := Lib.hid (R1.out.keeps hB)
      obtain ⟨ea, hlt1, hc1, _⟩ := R2.out k hlt
      rw [hs] at hc1
      have EA := Lib.hid ea
      obtain rfl := ea
      have hltk : decide (k < L.length) = true := by simpa using hlt
      clear hs
      go_wp2
      go_loop [8, 9] (fun f i => ∃ n : Nat, n ≤ L.length ∧ i = .int .i64 (n : Int) ∧ f = .bool (!((L.take n).any (beatsQ (fun s o => sub o s) (s : Int))))) (fun _ i => L.length - (intOf i).toNat)
      case atStart => exact ⟨0, Nat.zero_le _, rfl, by simp⟩
      case round =>
        obtain ⟨n, hn, rfl, rfl⟩ := hrel
        by_cases hln : n < L.length
        · obtain ⟨t, ht, ht64⟩ := HL.out n hln
          have HT := Lib.hid ht
          obtain ⟨_, _, hc2, _⟩ := R2.out n hln
          rw [ht] at hc2
          have hnx := any_next (fun s o => sub o s) L n s hln
          rw [ht] at hnx
          have HNX := Lib.hid hnx
          generalize (L.take n).any (beatsQ (fun s o => sub o s) (s : Int)) = f at *
          clear ht hnx
          by_cases e : s = t
          · have hq : ((s : Int) != (t : Int)) = false := by simp; omega
            have hb : beatsQ (fun s o => sub o s) (s : Int) (t : Int) = false := by unfold beatsQ; rw [e]; simp
            have HBQ := Lib.hid hb
            clear e hb
            go_wp2
            go_round
            case rel => exact ⟨n + 1, by omega, by go_num, by rw [HNX.out, HBQ.out, Bool.or_false]⟩
            case measure => simp [intOf]; omega
          · have hq : ((s : Int) != (t : Int)) = true := by simp; omega
            have hb : beatsQ (fun s o => sub o s) (s : Int) (t : Int) = sub t s := by unfold beatsQ; rw [show ((t : Int) != (s : Int)) = true by simp; omega]; rfl
            have HBQ := Lib.hid hb
            clear e hb
            have ha := and_sub3 s t hs64 ht64
            cases hsub : sub t s with
            | true =>
              rw [hsub] at ha
              have HSUB := Lib.hid hsub
              clear hsub
              go_wp2
              go_round
              case rel => exact ⟨n + 1, by omega, by go_num, by rw [HNX.out, HBQ.out, HSUB.out, Bool.or_true]; rfl⟩
              case measure => simp [intOf]; omega
            | false =>
              rw [hsub] at ha
              have HSUB := Lib.hid hsub
              clear hsub
              go_wp2
              go_round
              case rel => exact ⟨n + 1, by omega, by go_num, by rw [HNX.out, HBQ.out, HSUB.out, Bool.or_false]⟩
              case measure => simp [intOf]; omega
        · have E := Lib.hid (show n = L.length by omega)
          have hu := unbeaten_any (fun s o => sub o s) L (s : Int)
          have hf : (!((L.take n).any (beatsQ (fun s o => sub o s) (s : Int)))) = unbeaten (fun s o => sub o s) L (L.getD k 0) := by rw [HS.out, hu, E.out, List.take_length]
          have HF := Lib.hid hf
          clear hu hf
          generalize (L.take n).any (beatsQ (fun s o => sub o s) (s : Int)) = f at *
          cases hfv : f with
          | true =>
            have HU : Hid (unbeaten (fun s o => sub o s) L (L.getD k 0) = false) := by
              have : unbeaten (fun s o => sub o s) L (L.getD k 0) = false := by rw [← HF.out, hfv]; rfl
              exact this
            clear hfv
            go_wp2
            go_roundw
            case rel => exact ⟨k + 1, by omega, by go_num, by rw [kept_miss (fun s o => sub o s) L k hlt HU.out]; exact HO.out, hB⟩
            case measure => simp [intOf]; omega
          | false =>
            have HU : Hid (unbeaten (fun s o => sub o s) L (L.getD k 0) = true) := by
              have : unbeaten (fun s o => sub o s) L (L.getD k 0) = true := by rw [← HF.out, hfv]; rfl
              exact this
            clear hfv
            go_wp2_with (at_builtin; refine wpList_append_own _ rfl _ _ 24 rfl w1.heap.size 3 i0 (.int .i64 0) 1 8 Try.underlying24 hi hz0 hz1 hz2 rfl (by decide) _ _ _ rfl (HO.out.alloc _) ⟨wo.heap.size, 0, none⟩ 1 1 [.int .i64 (s : Int)] rfl rfl ?c1 ?c2 ?c3 ?c4 ?c5 ?_)
            try (case c1 => intro j u hj; exact Mem.cell_new wo _ _ j u hj)
            case c2 => first | rfl | (intro u hu; simp at hu; subst hu; rfl)
            case c3 => unfold maxLen; omega
            case c4 => omega
            case c5 => first | omega | (simp; omega)
            intro v' w3 hown1 hgrow _
            have hB3 : Below w1.heap.size w1 w3 := (hB.alloc hsz _).grown hgrow (by simp; omega) (fun g hg => (HO.out.lt g hg).1)
            have H1 := Lib.hid hown1
            clear hown1 hgrow
            go_wp2
            go_roundw
            case rel => exact ⟨k + 1, by omega, by go_num, by rw [kept_hit (fun s o => sub o s) L k hlt HU.out, HS.out]; exact OwnInts.next H1.out, hB3⟩
            case measure => simp [intOf]; omega
    · have E := Lib.hid (show k = L.length by omega)
      go_wp2
      go_ret
      refine ⟨_, rfl, ?_, B1.out.trans (hB.mono (by omega))⟩
      have h2 := HO.out
      rw [E.out, kept_end] at h2
      rw [HLE.out]
      exact OwnInts.lower (base := w1.heap.size) h2 (by omega)

set_option maxRecDepth 100000 in
theorem specMinimal_any (a : Option Addr) (c : Nat) (xs : List Int) (hlen : xs.length ≤ 1099511627776) (w : World) (h : Ints w a xs) :
    Calls Try.prog 28 #[.slice a xs.length c] w fun e w' => ∃ v, e = .returned v ∧ OwnInts w' w.heap.size v (best (fun s o => sub o s) (order xs)) ∧ Below w.heap.size w w' := by
  cases hz : allOk xs with
  | true =>
    have HZ := Lib.hid hz
    have H := Lib.hid h
    clear hz h
    go_enter Try.func28, Try.ntmps28
    go_wp2_with fail
    refine (l2Fine_b _ _ xs true HZ.out hlen _ H.out).mono ?_
    rintro e w' ⟨rfl, rfl⟩
    go_wp2_with fail
    refine (l2Extreme_false _ _ xs hlen HZ.out _ H.out).mono ?_
    rintro e w1 ⟨v, rfl, hO, hb1⟩
    have HO := Lib.hid hO
    clear hO
    go_wp2
    go_ret
    exact ⟨v, rfl, HO.out, hb1⟩
  | false =>
    have e : order xs = [] := by unfold order; rw [if_neg (by rw [hz]; simp)]
    rw [e]
    clear e
    have HZ := Lib.hid hz
    have H := Lib.hid h
    clear hz h
    go_enter Try.func28, Try.ntmps28
    go_wp2_with fail
    refine (l2Fine_b _ _ xs false HZ.out hlen _ H.out).mono ?_
    rintro e w' ⟨rfl, rfl⟩
    go_wp2
    go_ret
    exact ⟨_, rfl, OwnInts.lit w _ [] (Nat.le_refl _) (by simp), (Below.refl _ _).alloc (Nat.le_refl _) _⟩

end Go.Proofs.Ytfnpkglijknnoaa

/-! WALKS: what is a face: impl's and spec's functions. -/

namespace Go.Proofs.Ytfnpkglijknnoaa
open Go.RowKit
open Sets

/-! ### bits -/

theorem wrap_zero (n : Nat) (h : n < 18446744073709551616) (e : IntKind.i64.wrap (n : Int) = 0) : n = 0 := by
  simp [IntKind.wrap, IntKind.bits, IntKind.signed] at e
  split at e <;> omega
theorem andNot_ok (x y : Int) (hx : -9223372036854775808 ≤ x ∧ x ≤ 9223372036854775807) (hy : okZ y = true) (h : bits .andNot .i64 x y = 0) : okZ x = true := by
  obtain ⟨t, rfl, ht⟩ := okZ_cast y hy
  have h' : IntKind.i64.wrap ((BitVec.ofInt 64 x &&& ~~~BitVec.ofInt 64 (t : Int)).toNat : Int) = 0 := h
  have h0 := wrap_zero _ (BitVec.isLt _) h'
  have h1 : BitVec.ofInt 64 x &&& ~~~BitVec.ofInt 64 (t : Int) = 0#64 := BitVec.eq_of_toNat_eq (by rw [h0]; rfl)
  have h2 : BitVec.ofInt 64 x = BitVec.ofInt 64 x &&& BitVec.ofInt 64 (t : Int) := by
    apply BitVec.eq_of_getLsbD_eq
    intro i hi
    have h3 := congrArg (fun b => b.getLsbD i) h1
    simp only [BitVec.getLsbD_and, BitVec.getLsbD_not, BitVec.getLsbD_zero, hi, decide_true, Bool.true_and] at h3
    rw [BitVec.getLsbD_and]
    revert h3
    cases (BitVec.ofInt 64 x).getLsbD i <;> cases (BitVec.ofInt 64 (t : Int)).getLsbD i <;> simp
  have h4 := congrArg BitVec.toNat h2
  rw [BitVec.toNat_and] at h4
  have h5 : (BitVec.ofInt 64 (t : Int)).toNat = t := by simp; omega
  have h6 := Nat.and_le_right (n := (BitVec.ofInt 64 x).toNat) (m := (BitVec.ofInt 64 (t : Int)).toNat)
  rw [← h4, h5] at h6
  have h7 : (BitVec.ofInt 64 x).toNat = (x % 18446744073709551616).toNat := by simp [BitVec.toNat_ofInt]
  rw [h7] at h6
  rw [okZ_iff]
  omega

/-- The number is a set and a subset. -/
def subZ (x y : Int) : Bool := okZ x && sub x.toNat y.toNat

theorem andNot_subZ (x y : Int) (hx : -9223372036854775808 ≤ x ∧ x ≤ 9223372036854775807) (hy : okZ y = true) : (bits BinOp.andNot IntKind.i64 x y == 0) = subZ x y := by
  unfold subZ
  cases h : okZ x with
  | true =>
    obtain ⟨s, rfl, hs⟩ := okZ_cast x h
    obtain ⟨t, rfl, ht⟩ := okZ_cast y hy
    rw [and_sub s t hs ht]; rfl
  | false =>
    rw [Bool.false_and, beq_eq_false_iff_ne]
    intro e
    rw [andNot_ok x y hx hy e] at h; cases h

set_option maxRecDepth 100000 in
theorem isSubset_z (x y : Int) (hx : -9223372036854775808 ≤ x ∧ x ≤ 9223372036854775807) (hy : okZ y = true) (w : World) : Calls Try.prog 85 #[.int .i64 x, .int .i64 y] w fun e w' => e = .returned (.bool (subZ x y)) ∧ w = w' := by
  have h := andNot_subZ x y hx hy
  go_enter Try.func85, Try.ntmps85
  go_wp2
  go_ret
  exact ⟨rfl, rfl⟩

/-! ### is it in a facet? -/

/-- Is the number a set in a facet? -/
def inFZ (xs : List Int) (s : Int) : Bool := xs.any (subZ s)
theorem inFZ_ok (xs : List Int) (s : Int) : inFZ xs s = (okZ s && inF xs s.toNat) := by
  unfold inFZ inF subZ
  cases okZ s <;> simp
theorem inFZ_nat (xs : List Int) (s : Nat) (hs : s < 64) : inFZ xs (s : Int) = inF xs s := by
  rw [inFZ_ok, (okZ_nat s).2 hs]; rfl
theorem hasF_eq (n : Int) (xs : List Int) (s : Int) : hasF n xs s = (isC n xs && inFZ xs s) := by unfold hasF; rw [inFZ_ok, Bool.and_assoc]

set_option maxRecDepth 100000 in
theorem inFacet1_asks (s : Int) (hs : -9223372036854775808 ≤ s ∧ s ≤ 9223372036854775807) (xs : List Int) (hok : allOk xs = true) (B : Nat) (w : World) (hB : B < w.heap.size) (hc : w.cell? ⟨B, 0, none⟩ = some (.int .i64 s)) :
    Asks 86 #[.pointer (some ⟨B, 0, none⟩)] (subZ s) xs w := by
  intro W j hj hb
  have hf := allOk_at xs hok j hj
  generalize xs.getD j 0 = f at *
  have d1 : W.cell? ⟨B, 0, none⟩ = some (.int .i64 s) := (hb.cell (p := ⟨B, 0, none⟩) hB).trans hc
  show Calls Try.prog 86 #[.int .i64 f, .pointer (some ⟨B, 0, none⟩)] W _
  have HS := Lib.hid hs
  have HF := Lib.hid hf
  clear hc hb hok hj hs hf
  go_enter Try.func86, Try.ntmps86
  go_wp2_with fail
  refine (isSubset_z s f HS.out HF.out _).mono ?_
  rintro e w' ⟨rfl, rfl⟩
  go_wp2
  go_ret
  exact ⟨rfl, 0, rfl⟩

set_option maxRecDepth 100000 in
set_option maxHeartbeats 2000000 in
theorem inFacet_any (n : Int) (a : Option Addr) (c : Nat) (xs : List Int) (hok : allOk xs = true) (hlen : xs.length ≤ 1099511627776) (s : Int) (hs : -9223372036854775808 ≤ s ∧ s ≤ 9223372036854775807) (b : Bool) (hb : inFZ xs s = b) (w : World) (h : Ints w a xs) :
    Calls Try.prog 69 #[cx n (.slice a xs.length c), .int .i64 s] w fun e w' => e = .returned (.bool b) ∧ Below w.heap.size w w' := by
  have hb0 : Below w.heap.size w ((w.alloc (Obj.cells #[Value.int IntKind.i64 n, Value.slice a xs.length c] 26)).alloc (Obj.cells #[Value.int IntKind.i64 s] 3)) := ((Below.refl _ _).alloc (Nat.le_refl _) _).alloc (by simp) _
  have eg : ∀ args w, (callFunc 86 args).run Try.prog w = .ok (.enter 86 args) w := enters_of Try.func86 (by kernel_rfl) rfl
  have hc := contains_bel 86 #[.pointer (some ⟨w.heap.size + 1, 0, none⟩)] (subZ s) b a c xs hb _ eg (inFacet1_asks s hs xs hok (w.heap.size + 1) _ (by simp) (by simp)) hlen (h.keeps hb0)
  have HC := Lib.hid hc
  have HB0 := Lib.hid hb0
  clear hc eg h hb hok hb0
  go_enter Try.func69, Try.ntmps69
  go_wp2_with fail
  refine HC.out.mono ?_
  rintro e w1 ⟨rfl, hb1⟩
  go_wp2
  go_ret
  exact ⟨rfl, HB0.out.trans (hb1.mono (by simp; omega))⟩

theorem implIsC_b (n : Int) (a : Option Addr) (c : Nat) (xs : List Int) (hcap : xs.length ≤ c) (b : Bool) (hb : isC n xs = b) (hlen : xs.length ≤ 1099511627776) (w : World) (h : Ints w a xs) :
    Calls Try.prog 42 #[cx n (.slice a xs.length c)] w fun e w' => e = .returned (.bool b) ∧ Below w.heap.size w w' := by
  subst hb; exact implIsC_any n a c xs hcap hlen w h
theorem specIsC_b (n : Int) (a : Option Addr) (c : Nat) (xs : List Int) (b : Bool) (hb : isC n xs = b) (hlen : xs.length ≤ 1099511627776) (w : World) (h : Ints w a xs) :
    Calls Try.prog 29 #[cx n (.slice a xs.length c)] w fun e w' => e = .returned (.bool b) ∧ Below w.heap.size w w' := by
  subst hb; exact specIsC_any n a c xs hlen w h

end Go.Proofs.Ytfnpkglijknnoaa

/-! WALKS: spec's faces; complexes made of sets, by impl and by spec. -/

namespace Go.Proofs.Ytfnpkglijknnoaa
open Go.RowKit
open Sets

theorem any_false {q : Int → Bool} {xs : List Int} (h : ∀ j, j < xs.length → q (xs.getD j 0) = false) : xs.any q = false := any_miss q xs h

set_option maxRecDepth 100000 in
set_option maxHeartbeats 2000000 in
theorem l3Has_any (n : Int) (a : Option Addr) (c : Nat) (xs : List Int) (hok : allOk xs = true) (hlen : xs.length ≤ 1099511627776) (s : Nat) (hs : s < 64) (b : Bool) (hb : inF xs s = b) (w : World) (h : Ints w a xs) :
    Calls Try.prog 59 #[cx n (.slice a xs.length c), .int .i64 (s : Int)] w fun e w' => e = .returned (.bool b) ∧ Below w.heap.size w w' := by
  have hb0 : Below w.heap.size w (w.alloc (Obj.cells #[Value.int IntKind.i64 n, Value.slice a xs.length c] 26)) := (Below.refl _ _).alloc (Nat.le_refl _) _
  have H := Lib.hid (h.keeps hb0)
  have HB0 := Lib.hid hb0
  have HOK := Lib.hid (allOk_at xs hok)
  have HB := Lib.hid hb
  clear h hb0 hok hb
  go_enter Try.func59, Try.ntmps59
  go_wp2
  go_loop [5] (fun i => ∃ k : Nat, k ≤ xs.length ∧ i = .int .i64 (k : Int) ∧ ∀ j, j < k → sub s (xs.getD j 0).toNat = false) (fun i => xs.length - (intOf i).toNat)
  case atStart => exact ⟨0, Nat.zero_le _, rfl, fun j hj => absurd hj (Nat.not_lt_zero _)⟩
  case round =>
    obtain ⟨k, hk, rfl, hq⟩ := hrel
    have HQ := Lib.hid hq
    clear hq
    by_cases hlt : k < xs.length
    · obtain ⟨b0, o, rfl, g⟩ := H.out k hlt
      obtain ⟨t, ht, ht64⟩ := okZ_cast _ (HOK.out k hlt)
      rw [ht] at g
      have HTT := Lib.hid ht
      have ha := and_sub3 t s ht64 hs
      clear ht
      cases hsub : sub s t with
      | true =>
        rw [hsub] at ha
        have HF : Hid (b = true) := by
          have : b = true := by rw [← HB.out]; exact any_hit (fun f => sub s f.toNat) xs k hlt (by rw [HTT.out]; exact hsub)
          exact this
        clear hsub
        go_wp2
        go_ret
        exact ⟨by rw [HF.out]; rfl, HB0.out⟩
      | false =>
        rw [hsub] at ha
        have HSUB := Lib.hid hsub
        clear hsub
        go_wp2
        go_round
        case rel =>
          refine ⟨k + 1, by omega, by go_num, fun j hj => ?_⟩
          by_cases e : j = k
          · subst e; rw [HTT.out]; exact HSUB.out
          · exact HQ.out j (by omega)
        case measure => simp [intOf]; omega
    · have E := Lib.hid (show k = xs.length by omega)
      have HF : Hid (b = false) := by
        have : b = false := by rw [← HB.out]; exact any_miss (fun f => sub s f.toNat) xs (fun j hj => HQ.out j (by rw [E.out]; exact hj))
        exact this
      go_wp2
      go_ret
      exact ⟨by rw [HF.out]; rfl, HB0.out⟩

/-- The numbers below k that meet p. -/
def firsts (p : Nat → Bool) (k : Nat) : List Int := ((List.range k).filter p).map Int.ofNat
theorem firsts_hit (p : Nat → Bool) (k : Nat) (h : p k = true) : firsts p (k + 1) = firsts p k ++ [(k : Int)] := by
  unfold firsts; rw [List.range_succ, List.filter_append, List.map_append]; simp [h]
theorem firsts_miss (p : Nat → Bool) (k : Nat) (h : p k = false) : firsts p (k + 1) = firsts p k := by
  unfold firsts; rw [List.range_succ, List.filter_append, List.map_append]; simp [h]
theorem firsts_length (p : Nat → Bool) (k : Nat) : (firsts p k).length ≤ k := by
  unfold firsts; rw [List.length_map]; exact Nat.le_trans (List.length_filter_le _ _) (by simp)
theorem mem_firsts (p : Nat → Bool) (k : Nat) (x : Int) : x ∈ firsts p k ↔ ∃ t : Nat, x = (t : Int) ∧ t < k ∧ p t = true := by
  unfold firsts
  rw [List.mem_map]
  constructor
  · rintro ⟨t, ht, rfl⟩
    rw [List.mem_filter, List.mem_range] at ht
    exact ⟨t, rfl, ht.1, ht.2⟩
  · rintro ⟨t, rfl, h1, h2⟩
    exact ⟨t, by rw [List.mem_filter, List.mem_range]; exact ⟨h1, h2⟩, rfl⟩
theorem firsts_ok (p : Nat → Bool) : allOk (firsts p 64) = true := by
  unfold allOk
  rw [List.all_eq_true]
  intro x hx
  obtain ⟨t, rfl, ht, _⟩ := (mem_firsts p 64 x).1 hx
  exact (okZ_nat t).2 ht
theorem firsts_ord (p : Nat → Bool) : ord (inZ (firsts p 64)) = ord p := by
  apply ord_congr
  intro t ht
  rw [Bool.eq_iff_iff, inZ_iff, mem_firsts]
  constructor
  · rintro ⟨u, hu, _, h⟩
    have : t = u := by omega
    rw [this]; exact h
  · intro h; exact ⟨t, rfl, ht, h⟩

end Go.Proofs.Ytfnpkglijknnoaa
