/-
  TEXTS of one claim, put together: WBest, WSpecBest, WCx4, WCx5.
-/
import Derived.Test.YtmonaiojejbhkaaJg4
import Derived.Test.YtmonaiojejbhkaaJg5
/-! WALKS: impl.MaximalSets and impl.MinimalSets. -/

namespace Go.Proofs.Ytmonaiojejbhkaa
open Go.RowKit
open Sets

/-- What is asked of the comparison: at two sets it answers r and leaves all as it was. -/
def Beat (g : Nat) (lb : Array Value) (r : Nat → Nat → Bool) : Prop :=
  ∀ (W : World) (s t : Nat), s < 64 → t < 64 → Calls Try.prog g (#[.int .i64 (s : Int), .int .i64 (t : Int)] ++ lb) W fun e w' => e = .returned (.bool (r s t)) ∧ W = w'
/-- y is another one and beats x. -/
def beatsQ (r : Nat → Nat → Bool) (x y : Int) : Bool := y != x && r x.toNat y.toNat
theorem unbeaten_any (r : Nat → Nat → Bool) (all : List Int) (x : Int) : unbeaten r all x = !(all.any (beatsQ r x)) := by
  unfold unbeaten beatsQ
  rw [List.not_any_eq_all_not]
/-- All of the list are sets. -/
def Sets64 (L : List Int) : Prop := ∀ j, j < L.length → ∃ s : Nat, L.getD j 0 = (s : Int) ∧ s < 64
theorem order_sets (xs : List Int) : Sets64 (order xs) := fun j hj => by
  have hm : (order xs).getD j 0 ∈ order xs := by rw [List.getD, List.getElem?_eq_getElem hj]; exact List.getElem_mem hj
  obtain ⟨s, h1, h2, _⟩ := order_mem xs _ hm
  exact ⟨s, h1, h2⟩

theorem contains_bel (g : Nat) (lb : Array Value) (q : Int → Bool) (b : Bool) (a : Option Addr) (c : Nat) (zs : List Int) (hb : zs.any q = b) (w : World) (eg : ∀ args w, (callFunc g args).run Try.prog w = .ok (.enter g args) w)
    (hp : Asks g lb q zs w) (hlen : zs.length ≤ 1099511627776) (h : Ints w a zs) :
    Calls Try.prog 53 #[.slice a zs.length c, .func (.func g) #[] lb] w fun e w' => e = .returned (.bool b) ∧ Below w.heap.size w w' :=
  (containsFunc_any g lb q b a c zs hb w eg hp hlen h).mono fun e w' ⟨he, m, hw⟩ => ⟨he, by subst hw; exact Mem.below_drewN w m⟩

end Go.Proofs.Ytmonaiojejbhkaa

/-! WALKS: spec.MaximalSets and spec.MinimalSets. -/

namespace Go.Proofs.Ytmonaiojejbhkaa
open Go.RowKit
open Sets

theorem any_next (r : Nat → Nat → Bool) (L : List Int) (n s : Nat) (h : n < L.length) : (L.take (n + 1)).any (beatsQ r (s : Int)) = ((L.take n).any (beatsQ r (s : Int)) || beatsQ r (s : Int) (L.getD n 0)) := by
  rw [List.take_succ_eq_append_getElem h, List.any_append, List.getD, List.getElem?_eq_getElem h]
  simp
theorem and_sub3 : ∀ a b : Nat, a < 64 → b < 64 → (bits BinOp.and IntKind.i64 (a : Int) (b : Int) == (b : Int)) = sub b a := by
  refine fin64b ?_
  decide +kernel

set_option maxRecDepth 100000 in
set_option maxHeartbeats 4000000 in
theorem l2Extreme_true (a : Option Addr) (c : Nat) (xs : List Int) (hlen : xs.length ≤ 1099511627776) (hall : allOk xs = true) (w : World) (h : Ints w a xs) :
    Calls Try.prog 87 #[.slice a xs.length c, .bool true] w fun e w' => ∃ v, e = .returned v ∧ OwnInts w' w.heap.size v (best sub (order xs)) ∧ Below w.heap.size w w' := by
  obtain ⟨i0, hi, hz0, hz1, hz2⟩ := info_parts info_int
  have hord : order xs = ord (inZ xs) := by unfold order; rw [if_pos hall]
  have hL := order_sets xs
  have hLn := order_length xs
  have HL := Lib.hid hL
  have HORD := Lib.hid hord
  have H := Lib.hid h
  have HALL := Lib.hid hall
  clear h hall hL hord
  go_enter Try.func87, Try.ntmps87
  go_wp2_with fail
  refine (l2Order_any _ _ xs hlen HALL.out _ H.out).mono ?_
  rintro e w1 ⟨v, rfl, hO, hb1⟩
  rw [← HORD.out] at hO
  generalize hLe : order xs = L at *
  have HLE := Lib.hid hLe
  clear hLe HORD
  obtain ⟨a1, c1, g1, rfl, hg1, hr1⟩ := hO.at
  have hsz1 := hb1.size
  have R1 := Lib.hid hr1
  have B1 := Lib.hid hb1
  clear hO hr1 hb1 hg1
  go_wp2
  go_loopw [6, 7] (fun v i wr => ∃ k : Nat, k ≤ L.length ∧ i = .int .i64 (k : Int) ∧ OwnInts wr w1.heap.size v (kept sub L k) ∧ Below w1.heap.size w1 wr) (fun _ i _ => L.length - (intOf i).toNat)
  case atStart => exact ⟨0, Nat.zero_le _, rfl, OwnInts.lit w1 _ [] (Nat.le_refl _) (by simp), (Below.refl _ _).alloc (Nat.le_refl _) _⟩
  case round =>
    obtain ⟨k, hk, rfl, hO, hB⟩ := hrel
    unfold OwnInts at hO
    have HO := Lib.hid hO
    clear hO
    have hsz := hB.size
    have hl := kept_length sub L k
    obtain ⟨wo, rfl⟩ : ∃ wo : World, wo = wr := ⟨_, rfl⟩
    by_cases hlt : k < L.length
    · obtain ⟨s, hs, hs64⟩ := HL.out k hlt
      have HS := Lib.hid hs
      have R2 := Lib.hid (R1.out.keeps hB)
      obtain ⟨ea, hlt1, hc1, _⟩ := R2.out k hlt
      rw [hs] at hc1
      have EA := Lib.hid ea
      obtain rfl := ea
      have hltk : decide (k < L.length) = true := by simpa using hlt
      clear hs
      go_wp2
      go_loop [8, 9] (fun f i => ∃ n : Nat, n ≤ L.length ∧ i = .int .i64 (n : Int) ∧ f = .bool (!((L.take n).any (beatsQ sub (s : Int))))) (fun _ i => L.length - (intOf i).toNat)
      case atStart => exact ⟨0, Nat.zero_le _, rfl, by simp⟩
      case round =>
        obtain ⟨n, hn, rfl, rfl⟩ := hrel
        by_cases hln : n < L.length
        · obtain ⟨t, ht, ht64⟩ := HL.out n hln
          have HT := Lib.hid ht
          obtain ⟨_, _, hc2, _⟩ := R2.out n hln
          rw [ht] at hc2
          have hnx := any_next sub L n s hln
          rw [ht] at hnx
          have HNX := Lib.hid hnx
          generalize (L.take n).any (beatsQ sub (s : Int)) = f at *
          clear ht hnx
          by_cases e : s = t
          · have hq : ((s : Int) != (t : Int)) = false := by simp; omega
            have hb : beatsQ sub (s : Int) (t : Int) = false := by unfold beatsQ; rw [e]; simp
            have HBQ := Lib.hid hb
            clear e hb
            go_wp2
            go_round
            case rel => exact ⟨n + 1, by omega, by go_num, by rw [HNX.out, HBQ.out, Bool.or_false]⟩
            case measure => simp [intOf]; omega
          · have hq : ((s : Int) != (t : Int)) = true := by simp; omega
            have hb : beatsQ sub (s : Int) (t : Int) = sub s t := by unfold beatsQ; rw [show ((t : Int) != (s : Int)) = true by simp; omega]; rfl
            have HBQ := Lib.hid hb
            clear e hb
            have ha := and_sub2 s t hs64 ht64
            cases hsub : sub s t with
            | true =>
              rw [hsub] at ha
              have HSUB := Lib.hid hsub
              clear hsub
              go_wp2
              go_round
              case rel => exact ⟨n + 1, by omega, by go_num, by rw [HNX.out, HBQ.out, HSUB.out, Bool.or_true]; rfl⟩
              case measure => simp [intOf]; omega
            | false =>
              rw [hsub] at ha
              have HSUB := Lib.hid hsub
              clear hsub
              go_wp2
              go_round
              case rel => exact ⟨n + 1, by omega, by go_num, by rw [HNX.out, HBQ.out, HSUB.out, Bool.or_false]⟩
              case measure => simp [intOf]; omega
        · have E := Lib.hid (show n = L.length by omega)
          have hu := unbeaten_any sub L (s : Int)
          have hf : (!((L.take n).any (beatsQ sub (s : Int)))) = unbeaten sub L (L.getD k 0) := by rw [HS.out, hu, E.out, List.take_length]
          have HF := Lib.hid hf
          clear hu hf
          generalize (L.take n).any (beatsQ sub (s : Int)) = f at *
          cases hfv : f with
          | true =>
            have HU : Hid (unbeaten sub L (L.getD k 0) = false) := by
              have : unbeaten sub L (L.getD k 0) = false := by rw [← HF.out, hfv]; rfl
              exact this
            clear hfv
            go_wp2
            go_roundw
            case rel => exact ⟨k + 1, by omega, by go_num, by rw [kept_miss sub L k hlt HU.out]; exact HO.out, hB⟩
            case measure => simp [intOf]; omega
          | false =>
            have HU : Hid (unbeaten sub L (L.getD k 0) = true) := by
              have : unbeaten sub L (L.getD k 0) = true := by rw [← HF.out, hfv]; rfl
              exact this
            clear hfv
            go_wp2_with (at_builtin; refine wpList_append_own _ rfl _ _ 26 rfl w1.heap.size 3 i0 (.int .i64 0) 1 8 Try.underlying26 hi hz0 hz1 hz2 rfl (by decide) _ _ _ rfl (HO.out.alloc _) ⟨wo.heap.size, 0, none⟩ 1 1 [.int .i64 (s : Int)] rfl rfl ?c1 ?c2 ?c3 ?c4 ?c5 ?_)
            try (case c1 => intro j u hj; exact Mem.cell_new wo _ _ j u hj)
            case c2 => first | rfl | (intro u hu; simp at hu; subst hu; rfl)
            case c3 => unfold maxLen; omega
            case c4 => omega
            case c5 => first | omega | (simp; omega)
            intro v' w3 hown1 hgrow _
            have hB3 : Below w1.heap.size w1 w3 := (hB.alloc hsz _).grown hgrow (by simp; omega) (fun g hg => (HO.out.lt g hg).1)
            have H1 := Lib.hid hown1
            clear hown1 hgrow
            go_wp2
            go_roundw
            case rel => exact ⟨k + 1, by omega, by go_num, by rw [kept_hit sub L k hlt HU.out, HS.out]; exact OwnInts.next H1.out, hB3⟩
            case measure => simp [intOf]; omega
    · have E := Lib.hid (show k = L.length by omega)
      go_wp2
      go_ret
      refine ⟨_, rfl, ?_, B1.out.trans (hB.mono (by omega))⟩
      have h2 := HO.out
      rw [E.out, kept_end] at h2
      rw [HLE.out]
      exact OwnInts.lower (base := w1.heap.size) h2 (by omega)

set_option maxRecDepth 100000 in
set_option maxHeartbeats 4000000 in
theorem l2Extreme_false (a : Option Addr) (c : Nat) (xs : List Int) (hlen : xs.length ≤ 1099511627776) (hall : allOk xs = true) (w : World) (h : Ints w a xs) :
    Calls Try.prog 87 #[.slice a xs.length c, .bool false] w fun e w' => ∃ v, e = .returned v ∧ OwnInts w' w.heap.size v (best (fun s o => sub o s) (order xs)) ∧ Below w.heap.size w w' := by
  obtain ⟨i0, hi, hz0, hz1, hz2⟩ := info_parts info_int
  have hord : order xs = ord (inZ xs) := by unfold order; rw [if_pos hall]
  have hL := order_sets xs
  have hLn := order_length xs
  have HL := Lib.hid hL
  have HORD := Lib.hid hord
  have H := Lib.hid h
  have HALL := Lib.hid hall
  clear h hall hL hord
  go_enter Try.func87, Try.ntmps87
  go_wp2_with fail
  refine (l2Order_any _ _ xs hlen HALL.out _ H.out).mono ?_
  rintro e w1 ⟨v, rfl, hO, hb1⟩
  rw [← HORD.out] at hO
  generalize hLe : order xs = L at *
  have HLE := Lib.hid hLe
  clear hLe HORD
  obtain ⟨a1, c1, g1, rfl, hg1, hr1⟩ := hO.at
  have hsz1 := hb1.size
  have R1 := Lib.hid hr1
  have B1 := Lib.hid hb1
  clear hO hr1 hb1 hg1
  go_wp2
  go_loopw [6, 7] (fun v i wr => ∃ k : Nat, k ≤ L.length ∧ i = .int .i64 (k : Int) ∧ OwnInts wr w1.heap.size v (kept (fun s o => sub o s) L k) ∧ Below w1.heap.size w1 wr) (fun _ i _ => L.length - (intOf i).toNat)
  case atStart => exact ⟨0, Nat.zero_le _, rfl, OwnInts.lit w1 _ [] (Nat.le_refl _) (by simp), (Below.refl _ _).alloc (Nat.le_refl _) _⟩
  case round =>
    obtain ⟨k, hk, rfl, hO, hB⟩ := hrel
    unfold OwnInts at hO
    have HO := Lib.hid hO
    clear hO
    have hsz := hB.size
    have hl := kept_length (fun s o => sub o s) L k
    obtain ⟨wo, rfl⟩ : ∃ wo : World, wo = wr := ⟨_, rfl⟩
    by_cases hlt : k < L.length
    · obtain ⟨s, hs, hs64⟩ := HL.out k hlt
      have HS := Lib.hid hs
      have R2 := Lib.hid (R1.out.keeps hB)
      obtain ⟨ea, hlt1, hc1, _⟩ := R2.out k hlt
      rw [hs] at hc1
      have EA := Lib.hid ea
      obtain rfl := ea
      have hltk : decide (k < L.length) = true := by simpa using hlt
      clear hs
      go_wp2
      go_loop [8, 9] (fun f i => ∃ n : Nat, n ≤ L.length ∧ i = .int .i64 (n : Int) ∧ f = .bool (!((L.take n).any (beatsQ (fun s o => sub o s) (s : Int))))) (fun _ i => L.length - (intOf i).toNat)
      case atStart => exact ⟨0, Nat.zero_le _, rfl, by simp⟩
      case round =>
        obtain ⟨n, hn, rfl, rfl⟩ := hrel
        by_cases hln : n < L.length
        · obtain ⟨t, ht, ht64⟩ := HL.out n hln
          have HT := Lib.hid ht
          obtain ⟨_, _, hc2, _⟩ := R2.out n hln
          rw [ht] at hc2
          have hnx := any_next (fun s o => sub o s) L n s hln
          rw [ht] at hnx
          have HNX := Lib.hid hnx
          generalize (L.take n).any (beatsQ (fun s o => sub o s) (s : Int)) = f at *
          clear ht hnx
          by_cases e : s = t
          · have hq : ((s : Int) != (t : Int)) = false := by simp; omega
            have hb : beatsQ (fun s o => sub o s) (s : Int) (t : Int) = false := by unfold beatsQ; rw [e]; simp
            have HBQ := Lib.hid hb
            clear e hb
            go_wp2
            go_round
            case rel => exact ⟨n + 1, by omega, by go_num, by rw [HNX.out, HBQ.out, Bool.or_false]⟩
            case measure => simp [intOf]; omega
          · have hq : ((s : Int) != (t : Int)) = true := by simp; omega
            have hb : beatsQ (fun s o => sub o s) (s : Int) (t : Int) = sub t s := by unfold beatsQ; rw [show ((t : Int) != (s : Int)) = true by simp; omega]; rfl
            have HBQ := Lib.hid hb
            clear e hb
            have ha := and_sub3 s t hs64 ht64
            cases hsub : sub t s with
            | true =>
              rw [hsub] at ha
              have HSUB := Lib.hid hsub
              clear hsub
              go_wp2
              go_round
              case rel => exact ⟨n + 1, by omega, by go_num, by rw [HNX.out, HBQ.out, HSUB.out, Bool.or_true]; rfl⟩
              case measure => simp [intOf]; omega
            | false =>
              rw [hsub] at ha
              have HSUB := Lib.hid hsub
              clear hsub
              go_wp2
              go_round
              case rel => exact ⟨n + 1, by omega, by go_num, by rw [HNX.out, HBQ.out, HSUB.out, Bool.or_false]⟩
              case measure => simp [intOf]; omega
        · have E := Lib.hid (show n = L.length by omega)
          have hu := unbeaten_any (fun s o => sub o s) L (s : Int)
          have hf : (!((L.take n).any (beatsQ (fun s o => sub o s) (s : Int)))) = unbeaten (fun s o => sub o s) L (L.getD k 0) := by rw [HS.out, hu, E.out, List.take_length]
          have HF := Lib.hid hf
          clear hu hf
          generalize (L.take n).any (beatsQ (fun s o => sub o s) (s : Int)) = f at *
          cases hfv : f with
          | true =>
            have HU : Hid (unbeaten (fun s o => sub o s) L (L.getD k 0) = false) := by
              have : unbeaten (fun s o => sub o s) L (L.getD k 0) = false := by rw [← HF.out, hfv]; rfl
              exact this
            clear hfv
            go_wp2
            go_roundw
            case rel => exact ⟨k + 1, by omega, by go_num, by rw [kept_miss (fun s o => sub o s) L k hlt HU.out]; exact HO.out, hB⟩
            case measure => simp [intOf]; omega
          | false =>
            have HU : Hid (unbeaten (fun s o => sub o s) L (L.getD k 0) = true) := by
              have : unbeaten (fun s o => sub o s) L (L.getD k 0) = true := by rw [← HF.out, hfv]; rfl
              exact this
            clear hfv
            go_wp2_with (at_builtin; refine wpList_append_own _ rfl _ _ 26 rfl w1.heap.size 3 i0 (.int .i64 0) 1 8 Try.underlying26 hi hz0 hz1 hz2 rfl (by decide) _ _ _ rfl (HO.out.alloc _) ⟨wo.heap.size, 0, none⟩ 1 1 [.int .i64 (s : Int)] rfl rfl ?c1 ?c2 ?c3 ?c4 ?c5 ?_)
            try (case c1 => intro j u hj; exact Mem.cell_new wo _ _ j u hj)
            case c2 => first | rfl | (intro u hu; simp at hu; subst hu; rfl)
            case c3 => unfold maxLen; omega
            case c4 => omega
            case c5 => first | omega | (simp; omega)
            intro v' w3 hown1 hgrow _
            have hB3 : Below w1.heap.size w1 w3 := (hB.alloc hsz _).grown hgrow (by simp; omega) (fun g hg => (HO.out.lt g hg).1)
            have H1 := Lib.hid hown1
            clear hown1 hgrow
            go_wp2
            go_roundw
            case rel => exact ⟨k + 1, by omega, by go_num, by rw [kept_hit (fun s o => sub o s) L k hlt HU.out, HS.out]; exact OwnInts.next H1.out, hB3⟩
            case measure => simp [intOf]; omega
    · have E := Lib.hid (show k = L.length by omega)
      go_wp2
      go_ret
      refine ⟨_, rfl, ?_, B1.out.trans (hB.mono (by omega))⟩
      have h2 := HO.out
      rw [E.out, kept_end] at h2
      rw [HLE.out]
      exact OwnInts.lower (base := w1.heap.size) h2 (by omega)

end Go.Proofs.Ytmonaiojejbhkaa

/-! WALKS: what is a face: impl's and spec's functions. -/

namespace Go.Proofs.Ytmonaiojejbhkaa
open Go.RowKit
open Sets

/-! ### bits -/

theorem wrap_zero (n : Nat) (h : n < 18446744073709551616) (e : IntKind.i64.wrap (n : Int) = 0) : n = 0 := by
  simp [IntKind.wrap, IntKind.bits, IntKind.signed] at e
  split at e <;> omega
theorem andNot_ok (x y : Int) (hx : -9223372036854775808 ≤ x ∧ x ≤ 9223372036854775807) (hy : okZ y = true) (h : bits .andNot .i64 x y = 0) : okZ x = true := by
  obtain ⟨t, rfl, ht⟩ := okZ_cast y hy
  have h' : IntKind.i64.wrap ((BitVec.ofInt 64 x &&& ~~~BitVec.ofInt 64 (t : Int)).toNat : Int) = 0 := h
  have h0 := wrap_zero _ (BitVec.isLt _) h'
  have h1 : BitVec.ofInt 64 x &&& ~~~BitVec.ofInt 64 (t : Int) = 0#64 := BitVec.eq_of_toNat_eq (by rw [h0]; rfl)
  have h2 : BitVec.ofInt 64 x = BitVec.ofInt 64 x &&& BitVec.ofInt 64 (t : Int) := by
    apply BitVec.eq_of_getLsbD_eq
    intro i hi
    have h3 := congrArg (fun b => b.getLsbD i) h1
    simp only [BitVec.getLsbD_and, BitVec.getLsbD_not, BitVec.getLsbD_zero, hi, decide_true, Bool.true_and] at h3
    rw [BitVec.getLsbD_and]
    revert h3
    cases (BitVec.ofInt 64 x).getLsbD i <;> cases (BitVec.ofInt 64 (t : Int)).getLsbD i <;> simp
  have h4 := congrArg BitVec.toNat h2
  rw [BitVec.toNat_and] at h4
  have h5 : (BitVec.ofInt 64 (t : Int)).toNat = t := by simp; omega
  have h6 := Nat.and_le_right (n := (BitVec.ofInt 64 x).toNat) (m := (BitVec.ofInt 64 (t : Int)).toNat)
  rw [← h4, h5] at h6
  have h7 : (BitVec.ofInt 64 x).toNat = (x % 18446744073709551616).toNat := by simp [BitVec.toNat_ofInt]
  rw [h7] at h6
  rw [okZ_iff]
  omega

/-- The number is a set and a subset. -/
def subZ (x y : Int) : Bool := okZ x && sub x.toNat y.toNat

theorem andNot_subZ (x y : Int) (hx : -9223372036854775808 ≤ x ∧ x ≤ 9223372036854775807) (hy : okZ y = true) : (bits BinOp.andNot IntKind.i64 x y == 0) = subZ x y := by
  unfold subZ
  cases h : okZ x with
  | true =>
    obtain ⟨s, rfl, hs⟩ := okZ_cast x h
    obtain ⟨t, rfl, ht⟩ := okZ_cast y hy
    rw [and_sub s t hs ht]; rfl
  | false =>
    rw [Bool.false_and, beq_eq_false_iff_ne]
    intro e
    rw [andNot_ok x y hx hy e] at h; cases h

/-! ### is it in a facet? -/

/-- Is the number a set in a facet? -/
def inFZ (xs : List Int) (s : Int) : Bool := xs.any (subZ s)
theorem inFZ_ok (xs : List Int) (s : Int) : inFZ xs s = (okZ s && inF xs s.toNat) := by
  unfold inFZ inF subZ
  cases okZ s <;> simp
theorem inFZ_nat (xs : List Int) (s : Nat) (hs : s < 64) : inFZ xs (s : Int) = inF xs s := by
  rw [inFZ_ok, (okZ_nat s).2 hs]; rfl
theorem hasF_eq (n : Int) (xs : List Int) (s : Int) : hasF n xs s = (isC n xs && inFZ xs s) := by unfold hasF; rw [inFZ_ok, Bool.and_assoc]

theorem specIsC_b (n : Int) (a : Option Addr) (c : Nat) (xs : List Int) (b : Bool) (hb : isC n xs = b) (hlen : xs.length ≤ 1099511627776) (w : World) (h : Ints w a xs) :
    Calls Try.prog 59 #[cx n (.slice a xs.length c)] w fun e w' => e = .returned (.bool b) ∧ Below w.heap.size w w' := by
  subst hb; exact specIsC_any n a c xs hlen w h

end Go.Proofs.Ytmonaiojejbhkaa

/-! WALKS: spec's faces; complexes made of sets, by impl and by spec. -/

namespace Go.Proofs.Ytmonaiojejbhkaa
open Go.RowKit
open Sets

theorem any_false {q : Int → Bool} {xs : List Int} (h : ∀ j, j < xs.length → q (xs.getD j 0) = false) : xs.any q = false := any_miss q xs h

set_option maxRecDepth 100000 in
set_option maxHeartbeats 2000000 in
theorem l3Has_any (n : Int) (a : Option Addr) (c : Nat) (xs : List Int) (hok : allOk xs = true) (hlen : xs.length ≤ 1099511627776) (s : Nat) (hs : s < 64) (b : Bool) (hb : inF xs s = b) (w : World) (h : Ints w a xs) :
    Calls Try.prog 85 #[cx n (.slice a xs.length c), .int .i64 (s : Int)] w fun e w' => e = .returned (.bool b) ∧ Below w.heap.size w w' := by
  have hb0 : Below w.heap.size w (w.alloc (Obj.cells #[Value.int IntKind.i64 n, Value.slice a xs.length c] 33)) := (Below.refl _ _).alloc (Nat.le_refl _) _
  have H := Lib.hid (h.keeps hb0)
  have HB0 := Lib.hid hb0
  have HOK := Lib.hid (allOk_at xs hok)
  have HB := Lib.hid hb
  clear h hb0 hok hb
  go_enter Try.func85, Try.ntmps85
  go_wp2
  go_loop [5] (fun i => ∃ k : Nat, k ≤ xs.length ∧ i = .int .i64 (k : Int) ∧ ∀ j, j < k → sub s (xs.getD j 0).toNat = false) (fun i => xs.length - (intOf i).toNat)
  case atStart => exact ⟨0, Nat.zero_le _, rfl, fun j hj => absurd hj (Nat.not_lt_zero _)⟩
  case round =>
    obtain ⟨k, hk, rfl, hq⟩ := hrel
    have HQ := Lib.hid hq
    clear hq
    by_cases hlt : k < xs.length
    · obtain ⟨b0, o, rfl, g⟩ := H.out k hlt
      obtain ⟨t, ht, ht64⟩ := okZ_cast _ (HOK.out k hlt)
      rw [ht] at g
      have HTT := Lib.hid ht
      have ha := and_sub3 t s ht64 hs
      clear ht
      cases hsub : sub s t with
      | true =>
        rw [hsub] at ha
        have HF : Hid (b = true) := by
          have : b = true := by rw [← HB.out]; exact any_hit (fun f => sub s f.toNat) xs k hlt (by rw [HTT.out]; exact hsub)
          exact this
        clear hsub
        go_wp2
        go_ret
        exact ⟨by rw [HF.out]; rfl, HB0.out⟩
      | false =>
        rw [hsub] at ha
        have HSUB := Lib.hid hsub
        clear hsub
        go_wp2
        go_round
        case rel =>
          refine ⟨k + 1, by omega, by go_num, fun j hj => ?_⟩
          by_cases e : j = k
          · subst e; rw [HTT.out]; exact HSUB.out
          · exact HQ.out j (by omega)
        case measure => simp [intOf]; omega
    · have E := Lib.hid (show k = xs.length by omega)
      have HF : Hid (b = false) := by
        have : b = false := by rw [← HB.out]; exact any_miss (fun f => sub s f.toNat) xs (fun j hj => HQ.out j (by rw [E.out]; exact hj))
        exact this
      go_wp2
      go_ret
      exact ⟨by rw [HF.out]; rfl, HB0.out⟩

/-- The numbers below k that meet p. -/
def firsts (p : Nat → Bool) (k : Nat) : List Int := ((List.range k).filter p).map Int.ofNat
theorem firsts_hit (p : Nat → Bool) (k : Nat) (h : p k = true) : firsts p (k + 1) = firsts p k ++ [(k : Int)] := by
  unfold firsts; rw [List.range_succ, List.filter_append, List.map_append]; simp [h]
theorem firsts_miss (p : Nat → Bool) (k : Nat) (h : p k = false) : firsts p (k + 1) = firsts p k := by
  unfold firsts; rw [List.range_succ, List.filter_append, List.map_append]; simp [h]
theorem firsts_length (p : Nat → Bool) (k : Nat) : (firsts p k).length ≤ k := by
  unfold firsts; rw [List.length_map]; exact Nat.le_trans (List.length_filter_le _ _) (by simp)
theorem mem_firsts (p : Nat → Bool) (k : Nat) (x : Int) : x ∈ firsts p k ↔ ∃ t : Nat, x = (t : Int) ∧ t < k ∧ p t = true := by
  unfold firsts
  rw [List.mem_map]
  constructor
  · rintro ⟨t, ht, rfl⟩
    rw [List.mem_filter, List.mem_range] at ht
    exact ⟨t, rfl, ht.1, ht.2⟩
  · rintro ⟨t, rfl, h1, h2⟩
    exact ⟨t, by rw [List.mem_filter, List.mem_range]; exact ⟨h1, h2⟩, rfl⟩
theorem firsts_ok (p : Nat → Bool) : allOk (firsts p 64) = true := by
  unfold allOk
  rw [List.all_eq_true]
  intro x hx
  obtain ⟨t, rfl, ht, _⟩ := (mem_firsts p 64 x).1 hx
  exact (okZ_nat t).2 ht
theorem firsts_ord (p : Nat → Bool) : ord (inZ (firsts p 64)) = ord p := by
  apply ord_congr
  intro t ht
  rw [Bool.eq_iff_iff, inZ_iff, mem_firsts]
  constructor
  · rintro ⟨u, hu, _, h⟩
    have : t = u := by omega
    rw [this]; exact h
  · intro h; exact ⟨t, rfl, ht, h⟩

set_option maxRecDepth 100000 in
set_option maxHeartbeats 4000000 in
theorem specFaces_any (n : Int) (a : Option Addr) (c : Nat) (xs : List Int) (hlen : xs.length ≤ 1099511627776) (w : World) (h : Ints w a xs) :
    Calls Try.prog 79 #[cx n (.slice a xs.length c)] w fun e w' => ∃ v, e = .returned v ∧ OwnInts w' w.heap.size v (faces n xs) ∧ Below w.heap.size w w' := by
  obtain ⟨i0, hi, hz0, hz1, hz2⟩ := info_parts info_int
  have hb0 : Below w.heap.size w (w.alloc (Obj.cells #[Value.int IntKind.i64 n, Value.slice a xs.length c] 33)) := (Below.refl _ _).alloc (Nat.le_refl _) _
  have htwo : Two (w.alloc (Obj.cells #[Value.int IntKind.i64 n, Value.slice a xs.length c] 33)) w.heap.size (.int .i64 n) (.slice a xs.length c) := Two.new _ _ _ _
  have H := Lib.hid (h.keeps hb0)
  have HB0 := Lib.hid hb0
  have HT := Lib.hid htwo
  clear h hb0 htwo
  cases hC : isC n xs with
  | false =>
    have HC := Lib.hid hC
    have HF : Hid (faces n xs = []) := by
      have : faces n xs = [] := by unfold faces; rw [if_neg (by rw [hC]; simp)]
      exact this
    clear hC
    have H2 := Lib.hid (H.out.keeps ((Below.refl _ _).alloc (Nat.le_refl _) (Obj.cells #[] 3)))
    have HO0 := Lib.hid (OwnInts.lit (w.alloc (Obj.cells #[Value.int IntKind.i64 n, Value.slice a xs.length c] 33)) w.heap.size [] (by simp) (by simp))
    go_enter Try.func79, Try.ntmps79
    go_wp2
    refine wp_loop_rounds 1 ?_
    rw [rounds_succ]
    go_wp2_with fail
    refine (specIsC_b n _ _ xs false HC.out hlen _ H2.out).mono ?_
    rintro e w1 ⟨rfl, hb1⟩
    have HB1 : Hid (Below w.heap.size w w1) := (HB0.out.alloc (by simp) _).trans (hb1.mono (by simp; omega))
    clear hb1
    go_wp2_with fail
    refine (l2Order_any _ _ [] (by simp) rfl _ (Ints.nil _ _)).mono ?_
    rintro e w2 ⟨v, rfl, hO, hb2⟩
    have HO := Lib.hid hO
    have hsz := HB1.out.size
    clear hO
    go_wp2
    go_ret
    refine ⟨v, rfl, ?_, HB1.out.trans (hb2.mono hsz)⟩
    have h2 := HO.out
    rw [show ord (inZ []) = [] from ord_false] at h2
    rw [HF.out]
    exact OwnInts.lower h2 hsz
  | true =>
    have HC := Lib.hid hC
    have HOK := Lib.hid (isC_ok hC)
    have HF : Hid (faces n xs = ord (inF xs)) := by
      have : faces n xs = ord (inF xs) := by unfold faces; rw [if_pos hC]
      exact this
    clear hC
    go_enter Try.func79, Try.ntmps79
    go_wp2
    have HO0 := Lib.hid (OwnInts.lit (w.alloc (Obj.cells #[Value.int IntKind.i64 n, Value.slice a xs.length c] 33)) (w.heap.size + 1) [] (by simp) (by simp))
    have hszW : (w.alloc (Obj.cells #[Value.int IntKind.i64 n, Value.slice a xs.length c] 33)).heap.size = w.heap.size + 1 := by simp
    generalize (w.alloc (Obj.cells #[Value.int IntKind.i64 n, Value.slice a xs.length c] 33)) = W at *
    have HSZ := Lib.hid hszW
    clear hszW
    go_loopw [3, 4] (fun v i wr => ∃ k : Nat, k ≤ 64 ∧ i = .int .i64 (k : Int) ∧ OwnInts wr W.heap.size v (firsts (inF xs) k) ∧ Below W.heap.size W wr) (fun _ i _ => 64 - (intOf i).toNat)
    case atStart => exact ⟨0, by omega, rfl, by have h := HO0.out; rw [HSZ.out] at h ⊢; exact h, (Below.refl _ _).alloc (Nat.le_refl _) _⟩
    case round =>
      obtain ⟨k, hk, rfl, hO, hB⟩ := hrel
      have HO := Lib.hid hO
      clear hO
      have hsz := hB.size
      have hl := firsts_length (inF xs) k
      obtain ⟨t0, t1, t2, _, _⟩ := HT.out.keeps hB
      by_cases hlt : k < 64
      · have HI := Lib.hid (H.out.keeps hB)
        cases hp : inF xs k with
        | true =>
          have HP := Lib.hid hp
          clear hp
          go_wp2_with fail
          refine (specIsC_b n _ _ xs true HC.out hlen _ HI.out).mono ?_
          rintro e w1 ⟨rfl, hb1⟩
          have HO1 := Lib.hid (OwnInts.keeps HO.out hb1)
          have hB1 : Below W.heap.size W w1 := hB.trans (hb1.mono hsz)
          have HI1 := Lib.hid (HI.out.keeps hb1)
          obtain ⟨s0, s1, s2, _, _⟩ := HT.out.keeps hB1
          have hsz1 := hB1.size
          clear hb1 HO
          go_wp2_with fail
          refine (l3Has_any n _ _ xs HOK.out hlen k hlt true HP.out _ HI1.out).mono ?_
          rintro e w2 ⟨rfl, hb2⟩
          have HO2 := Lib.hid (OwnInts.keeps HO1.out hb2)
          unfold OwnInts at HO2
          have hB2 : Below W.heap.size W w2 := hB1.trans (hb2.mono hsz1)
          have hsz2 := hB2.size
          clear hb2 HO1
          go_wp2_with (at_builtin; refine wpList_append_own _ rfl _ _ 26 rfl W.heap.size 3 i0 (.int .i64 0) 1 8 Try.underlying26 hi hz0 hz1 hz2 rfl (by decide) _ _ _ rfl (HO2.out.alloc _) ⟨w2.heap.size, 0, none⟩ 1 1 [.int .i64 (k : Int)] rfl rfl ?c1 ?c2 ?c3 ?c4 ?c5 ?_)
          case c1 => intro j u hj; exact Mem.cell_new w2 _ _ j u hj
          case c2 => intro u hu; simp at hu; subst hu; rfl
          case c3 => unfold maxLen; omega
          case c4 => omega
          case c5 => simp; omega
          intro v' w3 hown1 hgrow _
          have hB3 : Below W.heap.size W w3 := (hB2.alloc hsz2 _).grown hgrow (by simp; omega) (fun g hg => (HO2.out.lt g hg).1)
          have H1 := Lib.hid hown1
          clear hown1 hgrow
          go_wp2
          go_roundw
          case rel => exact ⟨k + 1, by omega, by go_num, by rw [firsts_hit _ k HP.out]; exact OwnInts.next H1.out, hB3⟩
          case measure => simp [intOf]; omega
        | false =>
          have HP := Lib.hid hp
          clear hp
          go_wp2_with fail
          refine (specIsC_b n _ _ xs true HC.out hlen _ HI.out).mono ?_
          rintro e w1 ⟨rfl, hb1⟩
          have HO1 := Lib.hid (OwnInts.keeps HO.out hb1)
          have hB1 : Below W.heap.size W w1 := hB.trans (hb1.mono hsz)
          have HI1 := Lib.hid (HI.out.keeps hb1)
          obtain ⟨s0, s1, s2, _, _⟩ := HT.out.keeps hB1
          have hsz1 := hB1.size
          clear hb1 HO
          go_wp2_with fail
          refine (l3Has_any n _ _ xs HOK.out hlen k hlt false HP.out _ HI1.out).mono ?_
          rintro e w2 ⟨rfl, hb2⟩
          have HO2 := Lib.hid (OwnInts.keeps HO1.out hb2)
          have hB2 : Below W.heap.size W w2 := hB1.trans (hb2.mono hsz1)
          clear hb2 HO1
          go_wp2
          go_roundw
          case rel => exact ⟨k + 1, by omega, by go_num, by rw [firsts_miss _ k HP.out]; exact HO2.out, hB2⟩
          case measure => simp [intOf]; omega
      · have E := Lib.hid (show k = 64 by omega)
        have hO := HO.out
        rw [E.out] at hO hl
        obtain ⟨a1, c1, g1, rfl, hg1, hr1⟩ := hO.at
        have R1 := Lib.hid hr1
        clear hO hr1 HO
        go_wp2_with fail
        refine (l2Order_any _ _ (firsts (inF xs) 64) (by omega) (firsts_ok _) _ R1.out.ints).mono ?_
        rintro e w1 ⟨v, rfl, hO, hb1⟩
        have HO := Lib.hid hO
        clear hO
        go_wp2
        go_ret
        have hz := HSZ.out
        refine ⟨v, rfl, ?_, HB0.out.trans ((hB.trans (hb1.mono hsz)).mono (by omega))⟩
        rw [HF.out, ← firsts_ord]
        exact HO.out.lower (by omega)

end Go.Proofs.Ytmonaiojejbhkaa
