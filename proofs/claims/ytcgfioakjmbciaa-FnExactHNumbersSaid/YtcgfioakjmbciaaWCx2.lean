/-
  WALKS: impl.IsComplex and spec.IsComplex.
-/
import Derived.Test.YtcgfioakjmbciaaWCx1
import Derived.Test.YtcgfioakjmbciaaWOrder
import Derived.Test.YtcgfioakjmbciaaWSpecOrder
namespace Go.Proofs.Ytcgfioakjmbciaa
open Go.RowKit
open Sets

set_option maxRecDepth 100000 in
theorem pointCount_b (n : Int) (b : Bool) (hb : inB 1 6 n = b) (w : World) : Calls Try.prog 82 #[.int .i64 n] w fun e w' => e = .returned (.bool b) ∧ w = w' := by
  subst hb
  by_cases h1 : 1 ≤ n
  · by_cases h2 : n ≤ 6
    · go_enter Try.func82, Try.ntmps82
      go_wp2
      go_ret
      exact ⟨by rw [inB_true h1 h2]; rfl, rfl⟩
    · go_enter Try.func82, Try.ntmps82
      go_wp2
      go_ret
      exact ⟨by rw [inB_false (fun h => by omega)]; rfl, rfl⟩
  · go_enter Try.func82, Try.ntmps82
    go_wp2
    go_ret
    exact ⟨by rw [inB_false (fun h => by omega)]; rfl, rfl⟩

theorem before_b (a b : Int) (r : Bool) (hr : befZ a b = r) (w : World) : Calls Try.prog 91 #[.int .i64 a, .int .i64 b] w fun e w' => e = .returned (.bool r) ∧ w = w' := by
  subst hr; exact implBefore_any a b w
theorem isSet_b (n s : Int) (r : Bool) (hr : setB n s = r) (w : World) : Calls Try.prog 83 #[.int .i64 n, .int .i64 s] w fun e w' => e = .returned (.bool r) ∧ w = w' := by
  subst hr; exact implIsSet_any n s w
theorem isSubset_b (x y : Int) (hx : okZ x = true) (hy : okZ y = true) (r : Bool) (hr : sub x.toNat y.toNat = r) (w : World) : Calls Try.prog 86 #[.int .i64 x, .int .i64 y] w fun e w' => e = .returned (.bool r) ∧ w = w' := by
  obtain ⟨s, rfl, hs⟩ := okZ_cast x hx
  obtain ⟨t, rfl, ht⟩ := okZ_cast y hy
  subst hr; exact isSubset_any s t hs ht w

theorem all_false {q : Int → Bool} {xs : List Int} {k : Nat} (hk : k < xs.length) (h : q (xs.getD k 0) = false) : xs.all q = false := by
  rw [Bool.eq_false_iff]; intro e
  have := List.all_eq_true.1 e (xs.getD k 0) (by rw [List.getD, List.getElem?_eq_getElem hk]; exact List.getElem_mem hk)
  rw [h] at this; cases this
theorem all_true {q : Int → Bool} {xs : List Int} (h : ∀ j, j < xs.length → q (xs.getD j 0) = true) : xs.all q = true := by
  rw [List.all_eq_true]; intro x hx
  obtain ⟨j, hj, rfl⟩ := List.mem_iff_getElem.1 hx
  have := h j hj
  rwa [List.getD, List.getElem?_eq_getElem hj] at this

set_option maxRecDepth 100000 in
set_option maxHeartbeats 2000000 in
theorem follows_any (a : Option Addr) (c : Nat) (es : List Int) (f : Int) (r : Bool) (hr : (es.all fun x => fits x f) = r) (hlen : es.length ≤ 1099511627776) (w : World) (h : Ints w a es) :
    Calls Try.prog 84 #[.slice a es.length c, .int .i64 f] w fun e w' => e = .returned (.bool r) ∧ w = w' := by
  have H := Lib.hid h
  have HR := Lib.hid hr
  clear h hr
  go_enter Try.func84, Try.ntmps84
  go_wp2
  go_loop [9] (fun i => ∃ k : Nat, k ≤ es.length ∧ i = .int .i64 (k : Int) ∧ ∀ j, j < k → fits (es.getD j 0) f = true) (fun i => es.length - (intOf i).toNat)
  case atStart => exact ⟨0, Nat.zero_le _, rfl, fun j hj => absurd hj (Nat.not_lt_zero _)⟩
  case round =>
    obtain ⟨k, hk, rfl, hq⟩ := hrel
    have HQ := Lib.hid hq
    clear hq
    by_cases hlt : k < es.length
    · obtain ⟨b, o, rfl, g⟩ := H.out k hlt
      obtain ⟨x, hx⟩ : ∃ x, es.getD k 0 = x := ⟨_, rfl⟩
      rw [hx] at g
      have HX := Lib.hid hx
      clear hx
      cases hb : befZ x f with
      | false =>
        have HF : Hid (r = false) := by
          have : r = false := by rw [← HR.out]; exact all_false hlt (by rw [HX.out]; exact fits_no_bef hb)
          exact this
        have HB := Lib.hid hb
        clear hb
        go_wp2_with fail
        refine (before_b x f false HB.out _).mono ?_
        rintro e w' ⟨rfl, rfl⟩
        go_wp2
        go_ret
        exact ⟨by rw [HF.out]; rfl, rfl⟩
      | true =>
        have hz := (befZ_iff x f).1 hb
        have HZ1 := Lib.hid hz.1
        have HZ2 := Lib.hid hz.2.1
        have HB := Lib.hid hb
        cases hs : sub x.toNat f.toNat with
        | true =>
          have HF : Hid (r = false) := by
            have : r = false := by rw [← HR.out]; exact all_false hlt (by rw [HX.out]; exact fits_no_sub hs)
            exact this
          have HS := Lib.hid hs
          clear hb hs hz
          go_wp2_with fail
          refine (before_b x f true HB.out _).mono ?_
          rintro e w' ⟨rfl, rfl⟩
          go_wp2_with fail
          refine (isSubset_b x f HZ1.out HZ2.out true HS.out _).mono ?_
          rintro e w' ⟨rfl, rfl⟩
          go_wp2
          go_ret
          exact ⟨by rw [HF.out]; rfl, rfl⟩
        | false =>
          have HF := Lib.hid ((fits_iff x f).2 ⟨hb, hs⟩)
          have HS := Lib.hid hs
          clear hb hs hz
          go_wp2_with fail
          refine (before_b x f true HB.out _).mono ?_
          rintro e w' ⟨rfl, rfl⟩
          go_wp2_with fail
          refine (isSubset_b x f HZ1.out HZ2.out false HS.out _).mono ?_
          rintro e w' ⟨rfl, rfl⟩
          go_wp2
          go_round
          case rel =>
            refine ⟨k + 1, by omega, by go_num, fun j hj => ?_⟩
            by_cases e : j = k
            · subst e; rw [HX.out]; exact HF.out
            · exact HQ.out j (by omega)
          case measure => simp [intOf]; omega
    · have E := Lib.hid (show k = es.length by omega)
      have HT : Hid (r = true) := by
        have : r = true := by rw [← HR.out]; exact all_true (fun j hj => HQ.out j (by rw [E.out]; exact hj))
        exact this
      go_wp2
      go_ret
      exact ⟨by rw [HT.out]; rfl, rfl⟩

theorem Ints.take {w : World} {a : Option Addr} {xs : List Int} (h : Ints w a xs) (k : Nat) : Ints w a (xs.take k) := fun j hj => by
  rw [List.length_take] at hj
  obtain ⟨b, o, e, hc⟩ := h j (by omega)
  refine ⟨b, o, e, ?_⟩
  rw [List.getD, List.getElem?_take_of_lt (by omega)]
  exact hc

theorem follows_take (a : Option Addr) (c : Nat) (xs : List Int) (k : Nat) (hk : k ≤ xs.length) (f : Int) (r : Bool) (hr : ((xs.take k).all fun x => fits x f) = r) (hlen : xs.length ≤ 1099511627776) (w : World) (h : Ints w a xs) :
    Calls Try.prog 84 #[.slice a k c, .int .i64 f] w fun e w' => e = .returned (.bool r) ∧ w = w' := by
  have e : (xs.take k).length = k := by rw [List.length_take]; omega
  have := follows_any a c (xs.take k) f r hr (by omega) w (h.take k)
  rwa [e] at this

set_option maxRecDepth 100000 in
set_option maxHeartbeats 4000000 in
theorem implIsC_any (n : Int) (a : Option Addr) (c : Nat) (xs : List Int) (hcap : xs.length ≤ c) (hlen : xs.length ≤ 1099511627776) (w : World) (h : Ints w a xs) :
    Calls Try.prog 71 #[cx n (.slice a xs.length c)] w fun e w' => e = .returned (.bool (isC n xs)) ∧ Below w.heap.size w w' := by
  cases hn : inB 1 6 n with
  | false =>
    have HN := Lib.hid hn
    have HC : Hid (isC n xs = false) := by
      have : isC n xs = false := by unfold isC; rw [hn]; rfl
      exact this
    clear hn h
    go_enter Try.func71, Try.ntmps71
    go_wp2_with fail
    refine (pointCount_b n false HN.out _).mono ?_
    rintro e w' ⟨rfl, rfl⟩
    go_wp2
    go_ret
    exact ⟨by rw [HC.out]; rfl, (Below.refl _ _).alloc (Nat.le_refl _) _⟩
  | true =>
    have HN := Lib.hid hn
    have hb0 : Below w.heap.size w (w.alloc (Obj.cells #[Value.int IntKind.i64 n, Value.slice a xs.length c] 26)) := (Below.refl _ _).alloc (Nat.le_refl _) _
    have H := Lib.hid (h.keeps hb0)
    have HB0 := Lib.hid hb0
    clear hn h hb0
    go_enter Try.func71, Try.ntmps71
    go_wp2_with fail
    refine (pointCount_b n true HN.out _).mono ?_
    rintro e w' ⟨rfl, rfl⟩
    go_wp2
    go_loop [12] (fun i => ∃ k : Nat, k ≤ xs.length ∧ i = .int .i64 (k : Int) ∧ ∀ j, j < k → okAt n xs j = true) (fun i => xs.length - (intOf i).toNat)
    case atStart => exact ⟨0, Nat.zero_le _, rfl, fun j hj => absurd hj (Nat.not_lt_zero _)⟩
    case round =>
      obtain ⟨k, hk, rfl, hq⟩ := hrel
      have HQ := Lib.hid hq
      clear hq
      by_cases hlt : k < xs.length
      · have hkc : k ≤ c := by omega
        obtain ⟨b, o, rfl, g⟩ := H.out k hlt
        obtain ⟨x, hx⟩ : ∃ x, xs.getD k 0 = x := ⟨_, rfl⟩
        rw [hx] at g
        have HX := Lib.hid hx
        clear hx
        cases hs : setB n x with
        | false =>
          have HF := Lib.hid (isC_no hlt (okAt_no_set (n := n) (by rw [HX.out]; exact hs)))
          have HS := Lib.hid hs
          clear hs
          go_wp2_with fail
          refine (isSet_b n x false HS.out _).mono ?_
          rintro e w' ⟨rfl, rfl⟩
          go_wp2
          go_ret
          exact ⟨by rw [HF.out]; rfl, HB0.out⟩
        | true =>
          have HS := Lib.hid hs
          cases ha : (xs.take k).all (fun y => fits y x) with
          | false =>
            have HA := Lib.hid ha
            have hno : okAt n xs k = false := by unfold okAt; rw [HX.out, ha, Bool.and_false]
            have HF := Lib.hid (isC_no hlt hno)
            clear hs ha hno
            go_wp2_with fail
            refine (isSet_b n x true HS.out _).mono ?_
            rintro e w' ⟨rfl, rfl⟩
            go_wp2_with fail
            refine (follows_take _ _ xs k hk x false HA.out hlen _ H.out).mono ?_
            rintro e w' ⟨rfl, rfl⟩
            go_wp2
            go_ret
            exact ⟨by rw [HF.out]; rfl, HB0.out⟩
          | true =>
            have HA := Lib.hid ha
            have hyes : okAt n xs k = true := by unfold okAt; rw [HX.out, ha, hs]; rfl
            have HF := Lib.hid hyes
            clear hs ha hyes
            go_wp2_with fail
            refine (isSet_b n x true HS.out _).mono ?_
            rintro e w' ⟨rfl, rfl⟩
            go_wp2_with fail
            refine (follows_take _ _ xs k hk x true HA.out hlen _ H.out).mono ?_
            rintro e w' ⟨rfl, rfl⟩
            go_wp2
            go_round
            case rel =>
              refine ⟨k + 1, by omega, by go_num, fun j hj => ?_⟩
              by_cases e : j = k
              · subst e; exact HF.out
              · exact HQ.out j (by omega)
            case measure => simp [intOf]; omega
      · have E := Lib.hid (show k = xs.length by omega)
        have HT : Hid (isC n xs = true) := by
          have : isC n xs = true := (isC_iff n xs).2 ⟨(inB_iff _ _ _).1 HN.out, fun j hj => HQ.out j (by rw [E.out]; exact hj)⟩
          exact this
        go_wp2
        go_ret
        exact ⟨by rw [HT.out]; rfl, HB0.out⟩

end Go.Proofs.Ytcgfioakjmbciaa
