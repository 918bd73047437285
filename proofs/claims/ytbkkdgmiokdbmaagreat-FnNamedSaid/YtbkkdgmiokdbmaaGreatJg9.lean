/-
  TEXTS of one claim, put together: WContains, WBest, WSpecBest, WCx4.
-/
import Derived.Test.YtbkkdgmiokdbmaaGreatJg0
import Derived.Shelf.Abstract
import Derived.Deep.QuietTactic
import Derived.Test.YtbkkdgmiokdbmaaGreatJg7
import Derived.Test.YtbkkdgmiokdbmaaGreatJg8
/-! WALKS: slices.IndexFunc and slices.ContainsFunc at slices of numbers, at a predicate that is asked of the slice's own numbers alone. -/

namespace Go.Proofs.YtbkkdgmiokdbmaaGreat
open Go.RowKit

/-- What is asked of the predicate: at every number of the list, in every later world, it answers q; it may draw. -/
def Asks (g : Nat) (lb : Array Value) (q : Int → Bool) (zs : List Int) (w : World) : Prop :=
  ∀ (W : World) (j : Nat), j < zs.length → Below w.heap.size w W → Calls Tryz.prog g (#[.int .i64 (zs.getD j 0)] ++ lb) W fun e w' => e = .returned (.bool (q (zs.getD j 0))) ∧ ∃ m, w' = W.drewN m
theorem Asks.at {g : Nat} {lb : Array Value} {q : Int → Bool} {zs : List Int} {w : World} (h : Asks g lb q zs w) (W : World) (j : Nat) (x : Int) (b : Bool) (hx : zs.getD j 0 = x) (hb : q x = b) (hj : j < zs.length) (hB : Below w.heap.size w W) :
    Calls Tryz.prog g (#[.int .i64 x] ++ lb) W fun e w' => e = .returned (.bool b) ∧ ∃ m, w' = W.drewN m := by
  subst hx; subst hb; exact h W j hj hB

theorem any_miss (q : Int → Bool) (zs : List Int) (h : ∀ j, j < zs.length → q (zs.getD j 0) = false) : zs.any q = false := by
  rw [List.any_eq_false]
  intro x hx
  obtain ⟨j, hj, rfl⟩ := List.mem_iff_getElem.1 hx
  have := h j hj
  rw [List.getD, List.getElem?_eq_getElem hj] at this
  simpa using this
theorem any_hit (q : Int → Bool) (zs : List Int) (j : Nat) (hj : j < zs.length) (h : q (zs.getD j 0) = true) : zs.any q = true := by
  rw [List.any_eq_true]
  rw [List.getD, List.getElem?_eq_getElem hj] at h
  exact ⟨_, List.getElem_mem hj, h⟩

end Go.Proofs.YtbkkdgmiokdbmaaGreat

/-! WALKS: impl.MaximalSets and impl.MinimalSets. -/

namespace Go.Proofs.YtbkkdgmiokdbmaaGreat
open Go.RowKit
open Sets

/-- What is asked of the comparison: at two sets it answers r and leaves all as it was. -/
def Beat (g : Nat) (lb : Array Value) (r : Nat → Nat → Bool) : Prop :=
  ∀ (W : World) (s t : Nat), s < 64 → t < 64 → Calls Tryz.prog g (#[.int .i64 (s : Int), .int .i64 (t : Int)] ++ lb) W fun e w' => e = .returned (.bool (r s t)) ∧ W = w'
/-- y is another one and beats x. -/
def beatsQ (r : Nat → Nat → Bool) (x y : Int) : Bool := y != x && r x.toNat y.toNat
theorem unbeaten_any (r : Nat → Nat → Bool) (all : List Int) (x : Int) : unbeaten r all x = !(all.any (beatsQ r x)) := by
  unfold unbeaten beatsQ
  rw [List.not_any_eq_all_not]
/-- All of the list are sets. -/
def Sets64 (L : List Int) : Prop := ∀ j, j < L.length → ∃ s : Nat, L.getD j 0 = (s : Int) ∧ s < 64
theorem order_sets (xs : List Int) : Sets64 (order xs) := fun j hj => by
  have hm : (order xs).getD j 0 ∈ order xs := by rw [List.getD, List.getElem?_eq_getElem hj]; exact List.getElem_mem hj
  obtain ⟨s, h1, h2, _⟩ := order_mem xs _ hm
  exact ⟨s, h1, h2⟩

theorem isSubset_beat : Beat 90 #[] sub := fun W s t hs ht => isSubset_any s t hs ht W

end Go.Proofs.YtbkkdgmiokdbmaaGreat

/-! WALKS: spec.MaximalSets and spec.MinimalSets. -/

namespace Go.Proofs.YtbkkdgmiokdbmaaGreat
open Go.RowKit
open Sets

theorem any_next (r : Nat → Nat → Bool) (L : List Int) (n s : Nat) (h : n < L.length) : (L.take (n + 1)).any (beatsQ r (s : Int)) = ((L.take n).any (beatsQ r (s : Int)) || beatsQ r (s : Int) (L.getD n 0)) := by
  rw [List.take_succ_eq_append_getElem h, List.any_append, List.getD, List.getElem?_eq_getElem h]
  simp
theorem and_sub3 : ∀ a b : Nat, a < 64 → b < 64 → (bits BinOp.and IntKind.i64 (a : Int) (b : Int) == (b : Int)) = sub b a := by
  refine fin64b ?_
  decide +kernel

set_option maxRecDepth 100000 in
set_option maxHeartbeats 4000000 in
theorem l2Extreme_true (a : Option Addr) (c : Nat) (xs : List Int) (hlen : xs.length ≤ 1099511627776) (hall : allOk xs = true) (w : World) (h : Ints w a xs) :
    Calls Tryz.prog 102 #[.slice a xs.length c, .bool true] w fun e w' => ∃ v, e = .returned v ∧ OwnInts w' w.heap.size v (best sub (order xs)) ∧ Below w.heap.size w w' := by
  obtain ⟨i0, hi, hz0, hz1, hz2⟩ := info_parts info_int
  have hord : order xs = ord (inZ xs) := by unfold order; rw [if_pos hall]
  have hL := order_sets xs
  have hLn := order_length xs
  have HL := Lib.hid hL
  have HORD := Lib.hid hord
  have H := Lib.hid h
  have HALL := Lib.hid hall
  clear h hall hL hord
  go_enter Tryz.func102, Tryz.ntmps102
  go_wp2_with fail
  refine (l2Order_any _ _ xs hlen HALL.out _ H.out).mono ?_
  rintro e w1 ⟨v, rfl, hO, hb1⟩
  rw [← HORD.out] at hO
  generalize hLe : order xs = L at *
  have HLE := Lib.hid hLe
  clear hLe HORD
  obtain ⟨a1, c1, g1, rfl, hg1, hr1⟩ := hO.at
  have hsz1 := hb1.size
  have R1 := Lib.hid hr1
  have B1 := Lib.hid hb1
  clear hO hr1 hb1 hg1
  go_wp2
  go_loopw [6, 7] (fun v i wr => ∃ k : Nat, k ≤ L.length ∧ i = .int .i64 (k : Int) ∧ OwnInts wr w1.heap.size v (kept sub L k) ∧ Below w1.heap.size w1 wr) (fun _ i _ => L.length - (intOf i).toNat)
  case atStart => exact ⟨0, Nat.zero_le _, rfl, OwnInts.lit w1 _ [] (Nat.le_refl _) (by simp), (Below.refl _ _).alloc (Nat.le_refl _) _⟩
  case round =>
    obtain ⟨k, hk, rfl, hO, hB⟩ := hrel
    unfold OwnInts at hO
    have HO := Lib.hid hO
    clear hO
    have hsz := hB.size
    have hl := kept_length sub L k
    obtain ⟨wo, rfl⟩ : ∃ wo : World, wo = wr := ⟨_, rfl⟩
    by_cases hlt : k < L.length
    · obtain ⟨s, hs, hs64⟩ := HL.out k hlt
      have HS := Lib.hid hs
      have R2 := Lib.hid (R1.out.keeps hB)
      obtain ⟨ea, hlt1, hc1, _⟩ := R2.out k hlt
      rw [hs] at hc1
      have EA := Lib.hid ea
      obtain rfl := ea
      have hltk : decide (k < L.length) = true := by simpa using hlt
      clear hs
      go_wp2
      go_loop [8, 9] (fun f i => ∃ n : Nat, n ≤ L.length ∧ i = .int .i64 (n : Int) ∧ f = .bool (!((L.take n).any (beatsQ sub (s : Int))))) (fun _ i => L.length - (intOf i).toNat)
      case atStart => exact ⟨0, Nat.zero_le _, rfl, by simp⟩
      case round =>
        obtain ⟨n, hn, rfl, rfl⟩ := hrel
        by_cases hln : n < L.length
        · obtain ⟨t, ht, ht64⟩ := HL.out n hln
          have HT := Lib.hid ht
          obtain ⟨_, _, hc2, _⟩ := R2.out n hln
          rw [ht] at hc2
          have hnx := any_next sub L n s hln
          rw [ht] at hnx
          have HNX := Lib.hid hnx
          generalize (L.take n).any (beatsQ sub (s : Int)) = f at *
          clear ht hnx
          by_cases e : s = t
          · have hq : ((s : Int) != (t : Int)) = false := by simp; omega
            have hb : beatsQ sub (s : Int) (t : Int) = false := by unfold beatsQ; rw [e]; simp
            have HBQ := Lib.hid hb
            clear e hb
            go_wp2
            go_round
            case rel => exact ⟨n + 1, by omega, by go_num, by rw [HNX.out, HBQ.out, Bool.or_false]⟩
            case measure => simp [intOf]; omega
          · have hq : ((s : Int) != (t : Int)) = true := by simp; omega
            have hb : beatsQ sub (s : Int) (t : Int) = sub s t := by unfold beatsQ; rw [show ((t : Int) != (s : Int)) = true by simp; omega]; rfl
            have HBQ := Lib.hid hb
            clear e hb
            have ha := and_sub2 s t hs64 ht64
            cases hsub : sub s t with
            | true =>
              rw [hsub] at ha
              have HSUB := Lib.hid hsub
              clear hsub
              go_wp2
              go_round
              case rel => exact ⟨n + 1, by omega, by go_num, by rw [HNX.out, HBQ.out, HSUB.out, Bool.or_true]; rfl⟩
              case measure => simp [intOf]; omega
            | false =>
              rw [hsub] at ha
              have HSUB := Lib.hid hsub
              clear hsub
              go_wp2
              go_round
              case rel => exact ⟨n + 1, by omega, by go_num, by rw [HNX.out, HBQ.out, HSUB.out, Bool.or_false]⟩
              case measure => simp [intOf]; omega
        · have E := Lib.hid (show n = L.length by omega)
          have hu := unbeaten_any sub L (s : Int)
          have hf : (!((L.take n).any (beatsQ sub (s : Int)))) = unbeaten sub L (L.getD k 0) := by rw [HS.out, hu, E.out, List.take_length]
          have HF := Lib.hid hf
          clear hu hf
          generalize (L.take n).any (beatsQ sub (s : Int)) = f at *
          cases hfv : f with
          | true =>
            have HU : Hid (unbeaten sub L (L.getD k 0) = false) := by
              have : unbeaten sub L (L.getD k 0) = false := by rw [← HF.out, hfv]; rfl
              exact this
            clear hfv
            go_wp2
            go_roundw
            case rel => exact ⟨k + 1, by omega, by go_num, by rw [kept_miss sub L k hlt HU.out]; exact HO.out, hB⟩
            case measure => simp [intOf]; omega
          | false =>
            have HU : Hid (unbeaten sub L (L.getD k 0) = true) := by
              have : unbeaten sub L (L.getD k 0) = true := by rw [← HF.out, hfv]; rfl
              exact this
            clear hfv
            go_wp2_with (at_builtin; refine wpList_append_own _ rfl _ _ 24 rfl w1.heap.size 3 i0 (.int .i64 0) 1 8 Tryz.underlying24 hi hz0 hz1 hz2 rfl (by decide) _ _ _ rfl (HO.out.alloc _) ⟨wo.heap.size, 0, none⟩ 1 1 [.int .i64 (s : Int)] rfl rfl ?c1 ?c2 ?c3 ?c4 ?c5 ?_)
            try (case c1 => intro j u hj; exact Mem.cell_new wo _ _ j u hj)
            case c2 => first | rfl | (intro u hu; simp at hu; subst hu; rfl)
            case c3 => unfold maxLen; omega
            case c4 => omega
            case c5 => first | omega | (simp; omega)
            intro v' w3 hown1 hgrow _
            have hB3 : Below w1.heap.size w1 w3 := (hB.alloc hsz _).grown hgrow (by simp; omega) (fun g hg => (HO.out.lt g hg).1)
            have H1 := Lib.hid hown1
            clear hown1 hgrow
            go_wp2
            go_roundw
            case rel => exact ⟨k + 1, by omega, by go_num, by rw [kept_hit sub L k hlt HU.out, HS.out]; exact OwnInts.next H1.out, hB3⟩
            case measure => simp [intOf]; omega
    · have E := Lib.hid (show k = L.length by omega)
      go_wp2
      go_ret
      refine ⟨_, rfl, ?_, B1.out.trans (hB.mono (by omega))⟩
      have h2 := HO.out
      rw [E.out, kept_end] at h2
      rw [HLE.out]
      exact OwnInts.lower (base := w1.heap.size) h2 (by omega)

set_option maxRecDepth 100000 in
set_option maxHeartbeats 4000000 in
theorem l2Extreme_false (a : Option Addr) (c : Nat) (xs : List Int) (hlen : xs.length ≤ 1099511627776) (hall : allOk xs = true) (w : World) (h : Ints w a xs) :
    Calls Tryz.prog 102 #[.slice a xs.length c, .bool false] w fun e w' => ∃ v, e = .returned v ∧ OwnInts w' w.heap.size v (best (fun s o => sub o s) (order xs)) ∧ Below w.heap.size w w' := by
  obtain ⟨i0, hi, hz0, hz1, hz2⟩ := info_parts info_int
  have hord : order xs = ord (inZ xs) := by unfold order; rw [if_pos hall]
  have hL := order_sets xs
  have hLn := order_length xs
  have HL := Lib.hid hL
  have HORD := Lib.hid hord
  have H := Lib.hid h
  have HALL := Lib.hid hall
  clear h hall hL hord
  go_enter Tryz.func102, Tryz.ntmps102
  go_wp2_with fail
  refine (l2Order_any _ _ xs hlen HALL.out _ H.out).mono ?_
  rintro e w1 ⟨v, rfl, hO, hb1⟩
  rw [← HORD.out] at hO
  generalize hLe : order xs = L at *
  have HLE := Lib.hid hLe
  clear hLe HORD
  obtain ⟨a1, c1, g1, rfl, hg1, hr1⟩ := hO.at
  have hsz1 := hb1.size
  have R1 := Lib.hid hr1
  have B1 := Lib.hid hb1
  clear hO hr1 hb1 hg1
  go_wp2
  go_loopw [6, 7] (fun v i wr => ∃ k : Nat, k ≤ L.length ∧ i = .int .i64 (k : Int) ∧ OwnInts wr w1.heap.size v (kept (fun s o => sub o s) L k) ∧ Below w1.heap.size w1 wr) (fun _ i _ => L.length - (intOf i).toNat)
  case atStart => exact ⟨0, Nat.zero_le _, rfl, OwnInts.lit w1 _ [] (Nat.le_refl _) (by simp), (Below.refl _ _).alloc (Nat.le_refl _) _⟩
  case round =>
    obtain ⟨k, hk, rfl, hO, hB⟩ := hrel
    unfold OwnInts at hO
    have HO := Lib.hid hO
    clear hO
    have hsz := hB.size
    have hl := kept_length (fun s o => sub o s) L k
    obtain ⟨wo, rfl⟩ : ∃ wo : World, wo = wr := ⟨_, rfl⟩
    by_cases hlt : k < L.length
    · obtain ⟨s, hs, hs64⟩ := HL.out k hlt
      have HS := Lib.hid hs
      have R2 := Lib.hid (R1.out.keeps hB)
      obtain ⟨ea, hlt1, hc1, _⟩ := R2.out k hlt
      rw [hs] at hc1
      have EA := Lib.hid ea
      obtain rfl := ea
      have hltk : decide (k < L.length) = true := by simpa using hlt
      clear hs
      go_wp2
      go_loop [8, 9] (fun f i => ∃ n : Nat, n ≤ L.length ∧ i = .int .i64 (n : Int) ∧ f = .bool (!((L.take n).any (beatsQ (fun s o => sub o s) (s : Int))))) (fun _ i => L.length - (intOf i).toNat)
      case atStart => exact ⟨0, Nat.zero_le _, rfl, by simp⟩
      case round =>
        obtain ⟨n, hn, rfl, rfl⟩ := hrel
        by_cases hln : n < L.length
        · obtain ⟨t, ht, ht64⟩ := HL.out n hln
          have HT := Lib.hid ht
          obtain ⟨_, _, hc2, _⟩ := R2.out n hln
          rw [ht] at hc2
          have hnx := any_next (fun s o => sub o s) L n s hln
          rw [ht] at hnx
          have HNX := Lib.hid hnx
          generalize (L.take n).any (beatsQ (fun s o => sub o s) (s : Int)) = f at *
          clear ht hnx
          by_cases e : s = t
          · have hq : ((s : Int) != (t : Int)) = false := by simp; omega
            have hb : beatsQ (fun s o => sub o s) (s : Int) (t : Int) = false := by unfold beatsQ; rw [e]; simp
            have HBQ := Lib.hid hb
            clear e hb
            go_wp2
            go_round
            case rel => exact ⟨n + 1, by omega, by go_num, by rw [HNX.out, HBQ.out, Bool.or_false]⟩
            case measure => simp [intOf]; omega
          · have hq : ((s : Int) != (t : Int)) = true := by simp; omega
            have hb : beatsQ (fun s o => sub o s) (s : Int) (t : Int) = sub t s := by unfold beatsQ; rw [show ((t : Int) != (s : Int)) = true by simp; omega]; rfl
            have HBQ := Lib.hid hb
            clear e hb
            have ha := and_sub3 s t hs64 ht64
            cases hsub : sub t s with
            | true =>
              rw [hsub] at ha
              have HSUB := Lib.hid hsub
              clear hsub
              go_wp2
              go_round
              case rel => exact ⟨n + 1, by omega, by go_num, by rw [HNX.out, HBQ.out, HSUB.out, Bool.or_true]; rfl⟩
              case measure => simp [intOf]; omega
            | false =>
              rw [hsub] at ha
              have HSUB := Lib.hid hsub
              clear hsub
              go_wp2
              go_round
              case rel => exact ⟨n + 1, by omega, by go_num, by rw [HNX.out, HBQ.out, HSUB.out, Bool.or_false]⟩
              case measure => simp [intOf]; omega
        · have E := Lib.hid (show n = L.length by omega)
          have hu := unbeaten_any (fun s o => sub o s) L (s : Int)
          have hf : (!((L.take n).any (beatsQ (fun s o => sub o s) (s : Int)))) = unbeaten (fun s o => sub o s) L (L.getD k 0) := by rw [HS.out, hu, E.out, List.take_length]
          have HF := Lib.hid hf
          clear hu hf
          generalize (L.take n).any (beatsQ (fun s o => sub o s) (s : Int)) = f at *
          cases hfv : f with
          | true =>
            have HU : Hid (unbeaten (fun s o => sub o s) L (L.getD k 0) = false) := by
              have : unbeaten (fun s o => sub o s) L (L.getD k 0) = false := by rw [← HF.out, hfv]; rfl
              exact this
            clear hfv
            go_wp2
            go_roundw
            case rel => exact ⟨k + 1, by omega, by go_num, by rw [kept_miss (fun s o => sub o s) L k hlt HU.out]; exact HO.out, hB⟩
            case measure => simp [intOf]; omega
          | false =>
            have HU : Hid (unbeaten (fun s o => sub o s) L (L.getD k 0) = true) := by
              have : unbeaten (fun s o => sub o s) L (L.getD k 0) = true := by rw [← HF.out, hfv]; rfl
              exact this
            clear hfv
            go_wp2_with (at_builtin; refine wpList_append_own _ rfl _ _ 24 rfl w1.heap.size 3 i0 (.int .i64 0) 1 8 Tryz.underlying24 hi hz0 hz1 hz2 rfl (by decide) _ _ _ rfl (HO.out.alloc _) ⟨wo.heap.size, 0, none⟩ 1 1 [.int .i64 (s : Int)] rfl rfl ?c1 ?c2 ?c3 ?c4 ?c5 ?_)
            try (case c1 => intro j u hj; exact Mem.cell_new wo _ _ j u hj)
            case c2 => first | rfl | (intro u hu; simp at hu; subst hu; rfl)
            case c3 => unfold maxLen; omega
            case c4 => omega
            case c5 => first | omega | (simp; omega)
            intro v' w3 hown1 hgrow _
            have hB3 : Below w1.heap.size w1 w3 := (hB.alloc hsz _).grown hgrow (by simp; omega) (fun g hg => (HO.out.lt g hg).1)
            have H1 := Lib.hid hown1
            clear hown1 hgrow
            go_wp2
            go_roundw
            case rel => exact ⟨k + 1, by omega, by go_num, by rw [kept_hit (fun s o => sub o s) L k hlt HU.out, HS.out]; exact OwnInts.next H1.out, hB3⟩
            case measure => simp [intOf]; omega
    · have E := Lib.hid (show k = L.length by omega)
      go_wp2
      go_ret
      refine ⟨_, rfl, ?_, B1.out.trans (hB.mono (by omega))⟩
      have h2 := HO.out
      rw [E.out, kept_end] at h2
      rw [HLE.out]
      exact OwnInts.lower (base := w1.heap.size) h2 (by omega)

end Go.Proofs.YtbkkdgmiokdbmaaGreat

/-! WALKS: what is a face: impl's and spec's functions. -/

namespace Go.Proofs.YtbkkdgmiokdbmaaGreat
open Go.RowKit
open Sets

/-! ### bits -/

theorem wrap_zero (n : Nat) (h : n < 18446744073709551616) (e : IntKind.i64.wrap (n : Int) = 0) : n = 0 := by
  simp [IntKind.wrap, IntKind.bits, IntKind.signed] at e
  split at e <;> omega
theorem andNot_ok (x y : Int) (hx : -9223372036854775808 ≤ x ∧ x ≤ 9223372036854775807) (hy : okZ y = true) (h : bits .andNot .i64 x y = 0) : okZ x = true := by
  obtain ⟨t, rfl, ht⟩ := okZ_cast y hy
  have h' : IntKind.i64.wrap ((BitVec.ofInt 64 x &&& ~~~BitVec.ofInt 64 (t : Int)).toNat : Int) = 0 := h
  have h0 := wrap_zero _ (BitVec.isLt _) h'
  have h1 : BitVec.ofInt 64 x &&& ~~~BitVec.ofInt 64 (t : Int) = 0#64 := BitVec.eq_of_toNat_eq (by rw [h0]; rfl)
  have h2 : BitVec.ofInt 64 x = BitVec.ofInt 64 x &&& BitVec.ofInt 64 (t : Int) := by
    apply BitVec.eq_of_getLsbD_eq
    intro i hi
    have h3 := congrArg (fun b => b.getLsbD i) h1
    simp only [BitVec.getLsbD_and, BitVec.getLsbD_not, BitVec.getLsbD_zero, hi, decide_true, Bool.true_and] at h3
    rw [BitVec.getLsbD_and]
    revert h3
    cases (BitVec.ofInt 64 x).getLsbD i <;> cases (BitVec.ofInt 64 (t : Int)).getLsbD i <;> simp
  have h4 := congrArg BitVec.toNat h2
  rw [BitVec.toNat_and] at h4
  have h5 : (BitVec.ofInt 64 (t : Int)).toNat = t := by simp; omega
  have h6 := Nat.and_le_right (n := (BitVec.ofInt 64 x).toNat) (m := (BitVec.ofInt 64 (t : Int)).toNat)
  rw [← h4, h5] at h6
  have h7 : (BitVec.ofInt 64 x).toNat = (x % 18446744073709551616).toNat := by simp [BitVec.toNat_ofInt]
  rw [h7] at h6
  rw [okZ_iff]
  omega

/-- The number is a set and a subset. -/
def subZ (x y : Int) : Bool := okZ x && sub x.toNat y.toNat

theorem andNot_subZ (x y : Int) (hx : -9223372036854775808 ≤ x ∧ x ≤ 9223372036854775807) (hy : okZ y = true) : (bits BinOp.andNot IntKind.i64 x y == 0) = subZ x y := by
  unfold subZ
  cases h : okZ x with
  | true =>
    obtain ⟨s, rfl, hs⟩ := okZ_cast x h
    obtain ⟨t, rfl, ht⟩ := okZ_cast y hy
    rw [and_sub s t hs ht]; rfl
  | false =>
    rw [Bool.false_and, beq_eq_false_iff_ne]
    intro e
    rw [andNot_ok x y hx hy e] at h; cases h

set_option maxRecDepth 100000 in
theorem isSubset_z (x y : Int) (hx : -9223372036854775808 ≤ x ∧ x ≤ 9223372036854775807) (hy : okZ y = true) (w : World) : Calls Tryz.prog 90 #[.int .i64 x, .int .i64 y] w fun e w' => e = .returned (.bool (subZ x y)) ∧ w = w' := by
  have h := andNot_subZ x y hx hy
  go_enter Tryz.func90, Tryz.ntmps90
  go_wp2
  go_ret
  exact ⟨rfl, rfl⟩

/-! ### is it in a facet? -/

/-- Is the number a set in a facet? -/
def inFZ (xs : List Int) (s : Int) : Bool := xs.any (subZ s)
theorem inFZ_ok (xs : List Int) (s : Int) : inFZ xs s = (okZ s && inF xs s.toNat) := by
  unfold inFZ inF subZ
  cases okZ s <;> simp
theorem inFZ_nat (xs : List Int) (s : Nat) (hs : s < 64) : inFZ xs (s : Int) = inF xs s := by
  rw [inFZ_ok, (okZ_nat s).2 hs]; rfl
theorem hasF_eq (n : Int) (xs : List Int) (s : Int) : hasF n xs s = (isC n xs && inFZ xs s) := by unfold hasF; rw [inFZ_ok, Bool.and_assoc]

theorem implIsC_b (n : Int) (a : Option Addr) (c : Nat) (xs : List Int) (hcap : xs.length ≤ c) (b : Bool) (hb : isC n xs = b) (hlen : xs.length ≤ 1099511627776) (w : World) (h : Ints w a xs) :
    Calls Tryz.prog 35 #[cx n (.slice a xs.length c)] w fun e w' => e = .returned (.bool b) ∧ Below w.heap.size w w' := by
  subst hb; exact implIsC_any n a c xs hcap hlen w h
theorem specIsC_b (n : Int) (a : Option Addr) (c : Nat) (xs : List Int) (b : Bool) (hb : isC n xs = b) (hlen : xs.length ≤ 1099511627776) (w : World) (h : Ints w a xs) :
    Calls Tryz.prog 26 #[cx n (.slice a xs.length c)] w fun e w' => e = .returned (.bool b) ∧ Below w.heap.size w w' := by
  subst hb; exact specIsC_any n a c xs hlen w h

end Go.Proofs.YtbkkdgmiokdbmaaGreat
