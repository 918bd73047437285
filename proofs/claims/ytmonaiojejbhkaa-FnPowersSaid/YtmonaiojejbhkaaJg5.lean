/-
  TEXTS of one claim, put together: WCx2, WCx3, WWhereB, WContains.
-/
import Derived.Test.YtmonaiojejbhkaaJg4
import Derived.BigQuiet
import Derived.Test.YtmonaiojejbhkaaJg0
import Derived.Shelf.Abstract
import Derived.Deep.QuietTactic
/-! WALKS: impl.IsComplex and spec.IsComplex. -/

namespace Go.Proofs.Ytmonaiojejbhkaa
open Go.RowKit
open Sets

set_option maxRecDepth 100000 in
theorem pointCount_b (n : Int) (b : Bool) (hb : inB 1 6 n = b) (w : World) : Calls Try.prog 41 #[.int .i64 n] w fun e w' => e = .returned (.bool b) ∧ w = w' := by
  subst hb
  by_cases h1 : 1 ≤ n
  · by_cases h2 : n ≤ 6
    · go_enter Try.func41, Try.ntmps41
      go_wp2
      go_ret
      exact ⟨by rw [inB_true h1 h2]; rfl, rfl⟩
    · go_enter Try.func41, Try.ntmps41
      go_wp2
      go_ret
      exact ⟨by rw [inB_false (fun h => by omega)]; rfl, rfl⟩
  · go_enter Try.func41, Try.ntmps41
    go_wp2
    go_ret
    exact ⟨by rw [inB_false (fun h => by omega)]; rfl, rfl⟩

theorem all_false {q : Int → Bool} {xs : List Int} {k : Nat} (hk : k < xs.length) (h : q (xs.getD k 0) = false) : xs.all q = false := by
  rw [Bool.eq_false_iff]; intro e
  have := List.all_eq_true.1 e (xs.getD k 0) (by rw [List.getD, List.getElem?_eq_getElem hk]; exact List.getElem_mem hk)
  rw [h] at this; cases this
theorem all_true {q : Int → Bool} {xs : List Int} (h : ∀ j, j < xs.length → q (xs.getD j 0) = true) : xs.all q = true := by
  rw [List.all_eq_true]; intro x hx
  obtain ⟨j, hj, rfl⟩ := List.mem_iff_getElem.1 hx
  have := h j hj
  rwa [List.getD, List.getElem?_eq_getElem hj] at this

theorem Ints.take {w : World} {a : Option Addr} {xs : List Int} (h : Ints w a xs) (k : Nat) : Ints w a (xs.take k) := fun j hj => by
  rw [List.length_take] at hj
  obtain ⟨b, o, e, hc⟩ := h j (by omega)
  refine ⟨b, o, e, ?_⟩
  rw [List.getD, List.getElem?_take_of_lt (by omega)]
  exact hc

end Go.Proofs.Ytmonaiojejbhkaa

/-! WALKS: spec.IsComplex. -/

namespace Go.Proofs.Ytmonaiojejbhkaa
open Go.RowKit
open Sets

theorem specIsSet_b (n s : Int) (r : Bool) (hr : setB n s = r) (w : World) : Calls Try.prog 75 #[.int .i64 n, .int .i64 s] w fun e w' => e = .returned (.bool r) ∧ w = w' := by
  subst hr; exact specIsSet_any n s w
theorem l2Before_b (x y : Int) (hx : okZ x = true) (hy : okZ y = true) (r : Bool) (hr : befZ x y = r) (w : World) : Calls Try.prog 76 #[.int .i64 x, .int .i64 y] w fun e w' => e = .returned (.bool r) ∧ w = w' := by
  obtain ⟨s, rfl, hs⟩ := okZ_cast x hx
  obtain ⟨t, rfl, ht⟩ := okZ_cast y hy
  subst hr; rw [befZ_nat s t hs ht]; exact l2Before_any s t hs ht w
theorem and_subZ (x y : Int) (hx : okZ x = true) (hy : okZ y = true) : (bits BinOp.and IntKind.i64 x y == x) = sub x.toNat y.toNat := by
  obtain ⟨s, rfl, hs⟩ := okZ_cast x hx
  obtain ⟨t, rfl, ht⟩ := okZ_cast y hy
  exact and_sub2 s t hs ht

theorem bdrew {B : Nat} {w W : World} (h : Below B w W) (n : Nat) : Below B w (W.drewN n) := ⟨h.os, h.tape, h.output, h.size, h.block⟩

theorem quietly {f : FuncId} {args : Array Value} {w : World} {m n : Nat} {v : Value}
    (h : Calls Try.prog f args (w.drewN (m + n)) fun e w' => e = .returned v ∧ w.drewN (m + n) = w') : Calls Try.prog f args (w.drewN (m + n)) fun e w'' => e = .returned v ∧ ∃ n, w'' = w.drewN (m + n) :=
  h.mono fun _ _ ⟨he, hw⟩ => ⟨he, n, hw.symm⟩

set_option maxRecDepth 100000 in
set_option maxHeartbeats 4000000 in
theorem specIsC_any (n : Int) (a : Option Addr) (c : Nat) (xs : List Int) (hlen : xs.length ≤ 1099511627776) (w : World) (h : Ints w a xs) :
    Calls Try.prog 59 #[cx n (.slice a xs.length c)] w fun e w' => e = .returned (.bool (isC n xs)) ∧ Below w.heap.size w w' := by
  have hb0 : Below w.heap.size w (w.alloc (Obj.cells #[Value.int IntKind.i64 n, Value.slice a xs.length c] 33)) := (Below.refl _ _).alloc (Nat.le_refl _) _
  have htwo : Two (w.alloc (Obj.cells #[Value.int IntKind.i64 n, Value.slice a xs.length c] 33)) w.heap.size (.int .i64 n) (.slice a xs.length c) := Two.new _ _ _ _
  have H := Lib.hid (h.keeps hb0)
  have HB0 := Lib.hid hb0
  have HT := Lib.hid htwo
  clear h hb0 htwo
  go_enter Try.func59, Try.ntmps59
  go_wp2
  generalize (w.alloc (Obj.cells #[Value.int IntKind.i64 n, Value.slice a xs.length c] 33)) = W at *
  go_loopw [3] (fun i wr => ∃ k m : Nat, k ≤ xs.length ∧ i = .int .i64 (k : Int) ∧ wr = W.drewN m ∧ ∀ j, j < k → okAt n xs j = true) (fun i _ => xs.length - (intOf i).toNat)
  case atStart => exact ⟨0, 0, Nat.zero_le _, rfl, rfl, fun j hj => absurd hj (Nat.not_lt_zero _)⟩
  case round =>
    obtain ⟨k, m, hk, rfl, rfl, hq⟩ := hrel
    have HQ := Lib.hid hq
    clear hq
    by_cases hlt : k < xs.length
    · obtain ⟨b, o, rfl, g⟩ := H.out k hlt
      obtain ⟨x, hx⟩ : ∃ x, xs.getD k 0 = x := ⟨_, rfl⟩
      rw [hx] at g
      have HX := Lib.hid hx
      clear hx
      obtain ⟨t1, t2, t3, _, _⟩ := HT.out
      cases hs : setB n x with
      | false =>
        have HF := Lib.hid (isC_no hlt (okAt_no_set (n := n) (by rw [HX.out]; exact hs)))
        have HS := Lib.hid hs
        clear hs
        go_wp2
        go_quiet (first | (go_at_call 75; refine quietly (specIsSet_b n x false HS.out _)))
        go_wp2
        go_ret
        exact ⟨by rw [HF.out]; rfl, bdrew (bdrew HB0.out _) _⟩
      | true =>
        have HS := Lib.hid hs
        clear hs
        by_cases hk0 : k = 0
        · subst hk0
          have hg : decide ((0 : Int) < ((0 : Nat) : Int)) = false := by simp
          rw [Nat.add_zero] at g
          have HO0 : Hid (okAt n xs 0 = true) := by
            have : okAt n xs 0 = true := okAt_next hlt (fun j hj => absurd hj (Nat.not_lt_zero _)) (by rw [HX.out]; exact HS.out) (Or.inl rfl) (fun i hi => absurd hi (Nat.not_lt_zero _))
            exact this
          go_wp2
          go_quiet (first | (go_at_call 75; refine quietly (specIsSet_b n x true HS.out _)))
          go_wp2
          go_loopw [4] (fun i wr => ∃ q : Nat, q = 0 ∧ i = .int .i64 (q : Int) ∧ wr = (W.drewN m).drewN nq) (fun i _ => 0)
          case atStart => exact ⟨0, rfl, rfl, rfl⟩
          case round =>
            obtain ⟨q, rfl, rfl, rfl⟩ := hrel
            go_wp2
            go_roundw
            case rel =>
              refine ⟨1, m + nq, by omega, by go_num, rfl, fun j hj => ?_⟩
              obtain rfl : j = 0 := by omega
              exact HO0.out
            case measure => simp [intOf]; omega
        · obtain ⟨p, rfl⟩ : ∃ p, k = p + 1 := ⟨k - 1, by omega⟩
          have hg : decide ((0 : Int) < ((p + 1 : Nat) : Int)) = true := by simp only [decide_eq_true_eq]; omega
          obtain ⟨y, hy⟩ : ∃ y, xs.getD p 0 = y := ⟨_, rfl⟩
          have HY := Lib.hid hy
          obtain ⟨_, _, e2, g2⟩ := H.out p (by omega)
          injection e2 with e2
          injection e2 with e3 e4
          subst e3 e4
          rw [hy] at g2
          have HZY : Hid (okZ y = true) := by
            have : okZ y = true := setB_ok (n := n) (by rw [← HY.out]; exact ((okAt_iff n xs p (by omega)).1 (HQ.out p (by omega))).1)
            exact this
          have HZX : Hid (okZ x = true) := by
            have : okZ x = true := setB_ok HS.out
            exact this
          clear hy hk0
          cases hb : befZ y x with
          | false =>
            have HF : Hid (isC n xs = false) := by
              have : isC n xs = false := isC_no hlt (okAt_no_fit (i := p) hlt (by omega) (by rw [HX.out, HY.out]; exact fits_no_bef hb))
              exact this
            have HB := Lib.hid hb
            clear hb
            go_wp2
            go_quiet (first | (go_at_call 75; refine quietly (specIsSet_b n x true HS.out _)) | (go_at_call 76; refine quietly (l2Before_b y x HZY.out HZX.out false HB.out _)))
            go_wp2
            go_ret
            exact ⟨by rw [HF.out]; rfl, bdrew (bdrew HB0.out _) _⟩
          | true =>
            have HB := Lib.hid hb
            clear hb
            go_wp2
            go_quiet (first | (go_at_call 75; refine quietly (specIsSet_b n x true HS.out _)) | (go_at_call 76; refine quietly (l2Before_b y x HZY.out HZX.out true HB.out _)))
            go_wp2
            go_loopw [4] (fun i wr => ∃ q r : Nat, q ≤ p + 1 ∧ i = .int .i64 (q : Int) ∧ wr = W.drewN r ∧ ∀ j, j < q → sub (xs.getD j 0).toNat x.toNat = false) (fun i _ => p + 1 - (intOf i).toNat)
            case atStart => exact ⟨0, m + nq, Nat.zero_le _, rfl, by rw [World.drewN_drewN], fun j hj => absurd hj (Nat.not_lt_zero _)⟩
            case round =>
              obtain ⟨q, r, hq, rfl, rfl, hqs⟩ := hrel
              have HQS := Lib.hid hqs
              clear hqs
              by_cases hlq : q < p + 1
              · obtain ⟨z, hz⟩ : ∃ z, xs.getD q 0 = z := ⟨_, rfl⟩
                have HZ := Lib.hid hz
                obtain ⟨_, _, e2, g3⟩ := H.out q (by omega)
                injection e2 with e2
                injection e2 with e3 e4
                subst e3 e4
                rw [hz] at g3
                have HZZ : Hid (okZ z = true) := by
                  have : okZ z = true := setB_ok (n := n) (by rw [← HZ.out]; exact ((okAt_iff n xs q (by omega)).1 (HQ.out q (by omega))).1)
                  exact this
                have ha := and_subZ z x HZZ.out HZX.out
                clear hz
                cases hsub : sub z.toNat x.toNat with
                | true =>
                  rw [hsub] at ha
                  have HF : Hid (isC n xs = false) := by
                    have : isC n xs = false := isC_no hlt (okAt_no_fit (i := q) hlt (by omega) (by rw [HX.out, HZ.out]; exact fits_no_sub hsub))
                    exact this
                  clear hsub
                  go_wp2
                  go_quiet (fail)
                  go_wp2
                  go_ret
                  exact ⟨by rw [HF.out]; rfl, bdrew (bdrew HB0.out _) _⟩
                | false =>
                  rw [hsub] at ha
                  have HS2 := Lib.hid hsub
                  clear hsub
                  go_wp2
                  go_quiet (fail)
                  go_wp2
                  go_roundw
                  case rel =>
                    refine ⟨q + 1, _, by omega, by go_num, rfl, fun j hj => ?_⟩
                    by_cases e : j = q
                    · subst e; rw [HZ.out]; exact HS2.out
                    · exact HQS.out j (by omega)
                  case measure => simp [intOf]; omega
              · have hqe : q = p + 1 := by omega
                have HO1 : Hid (okAt n xs (p + 1) = true) := by
                  have : okAt n xs (p + 1) = true := okAt_next hlt HQ.out (by rw [HX.out]; exact HS.out) (Or.inr (by rw [Nat.add_sub_cancel, HX.out, HY.out]; exact HB.out)) (fun i hi => by rw [HX.out]; exact HQS.out i (by omega))
                  exact this
                go_wp2
                go_roundw
                case rel =>
                  refine ⟨p + 2, r, by omega, by go_num, rfl, fun j hj => ?_⟩
                  by_cases e : j = p + 1
                  · subst e; exact HO1.out
                  · exact HQ.out j (by omega)
                case measure => simp [intOf]; omega
    · have E := Lib.hid (show k = xs.length by omega)
      have HTT : ∀ b, inB 1 6 n = b → isC n xs = b := fun b hb => by
        cases b with
        | false => unfold isC; rw [hb]; rfl
        | true => exact (isC_iff n xs).2 ⟨(inB_iff _ _ _).1 hb, fun j hj => HQ.out j (by rw [E.out]; exact hj)⟩
      have HT2 := Lib.hid HTT
      clear HTT
      obtain ⟨t1, t2, t3, _, _⟩ := HT.out
      cases hn : inB 1 6 n with
      | false =>
        have HN := Lib.hid hn
        clear hn
        go_wp2_with fail
        refine (in_b n 1 6 false HN.out _).mono ?_
        rintro e w' ⟨rfl, rfl⟩
        go_wp2
        go_ret
        exact ⟨by rw [HT2.out _ HN.out]; rfl, bdrew HB0.out _⟩
      | true =>
        have HN := Lib.hid hn
        clear hn
        go_wp2_with fail
        refine (in_b n 1 6 true HN.out _).mono ?_
        rintro e w' ⟨rfl, rfl⟩
        go_wp2
        go_ret
        exact ⟨by rw [HT2.out _ HN.out]; rfl, bdrew HB0.out _⟩

end Go.Proofs.Ytmonaiojejbhkaa

/-! WALKS: impl.setsWhere at a predicate that may make memory of its own. -/

namespace Go.Proofs.Ytmonaiojejbhkaa
open Go.RowKit
open Sets

/-- What is asked of the predicate: at every set, in every later world, it answers p and keeps all that was there. -/
def PredB (g : Nat) (lb : Array Value) (p : Nat → Bool) (w : World) : Prop :=
  ∀ (W : World) (s : Nat), s < 64 → Below w.heap.size w W → Calls Try.prog g (#[.int .i64 (s : Int)] ++ lb) W fun e w' => e = .returned (.bool (p s)) ∧ Below W.heap.size W w'
theorem PredB.at {g : Nat} {lb : Array Value} {p : Nat → Bool} {w : World} (h : PredB g lb p w) (W : World) (s : Nat) (b : Bool) (hb : p s = b) (hs : s < 64) (hB : Below w.heap.size w W) :
    Calls Try.prog g (#[.int .i64 (s : Int)] ++ lb) W fun e w' => e = .returned (.bool b) ∧ Below W.heap.size W w' := by
  subst hb; exact h W s hs hB

end Go.Proofs.Ytmonaiojejbhkaa

/-! WALKS: slices.IndexFunc and slices.ContainsFunc at slices of numbers, at a predicate that is asked of the slice's own numbers alone. -/

namespace Go.Proofs.Ytmonaiojejbhkaa
open Go.RowKit

/-- What is asked of the predicate: at every number of the list, in every later world, it answers q; it may draw. -/
def Asks (g : Nat) (lb : Array Value) (q : Int → Bool) (zs : List Int) (w : World) : Prop :=
  ∀ (W : World) (j : Nat), j < zs.length → Below w.heap.size w W → Calls Try.prog g (#[.int .i64 (zs.getD j 0)] ++ lb) W fun e w' => e = .returned (.bool (q (zs.getD j 0))) ∧ ∃ m, w' = W.drewN m
theorem Asks.at {g : Nat} {lb : Array Value} {q : Int → Bool} {zs : List Int} {w : World} (h : Asks g lb q zs w) (W : World) (j : Nat) (x : Int) (b : Bool) (hx : zs.getD j 0 = x) (hb : q x = b) (hj : j < zs.length) (hB : Below w.heap.size w W) :
    Calls Try.prog g (#[.int .i64 x] ++ lb) W fun e w' => e = .returned (.bool b) ∧ ∃ m, w' = W.drewN m := by
  subst hx; subst hb; exact h W j hj hB

theorem any_miss (q : Int → Bool) (zs : List Int) (h : ∀ j, j < zs.length → q (zs.getD j 0) = false) : zs.any q = false := by
  rw [List.any_eq_false]
  intro x hx
  obtain ⟨j, hj, rfl⟩ := List.mem_iff_getElem.1 hx
  have := h j hj
  rw [List.getD, List.getElem?_eq_getElem hj] at this
  simpa using this
theorem any_hit (q : Int → Bool) (zs : List Int) (j : Nat) (hj : j < zs.length) (h : q (zs.getD j 0) = true) : zs.any q = true := by
  rw [List.any_eq_true]
  rw [List.getD, List.getElem?_eq_getElem hj] at h
  exact ⟨_, List.getElem_mem hj, h⟩

set_option maxRecDepth 100000 in
set_option maxHeartbeats 2000000 in
theorem indexFunc_any (g : Nat) (lb : Array Value) (q : Int → Bool) (a : Option Addr) (c : Nat) (zs : List Int) (w : World) (eg : ∀ args w, (callFunc g args).run Try.prog w = .ok (.enter g args) w)
    (hp : Asks g lb q zs w) (hlen : zs.length ≤ 1099511627776) (h : Ints w a zs) :
    Calls Try.prog 74 #[.slice a zs.length c, .func (.func g) #[] lb] w fun e w' => ∃ k : Int, e = .returned (.int .i64 k) ∧ -1 ≤ k ∧ k ≤ 1099511627776 ∧ decide (0 ≤ k) = zs.any q ∧ ∃ m, w' = w.drewN m := by
  have HP := Lib.hid hp
  have H := Lib.hid h
  clear hp h
  go_enter Try.func74, Try.ntmps74
  go_wp2
  go_loopw [8] (fun i wr => ∃ k n : Nat, k ≤ zs.length ∧ i = .int .i64 (k : Int) ∧ (∀ j, j < k → q (zs.getD j 0) = false) ∧ wr = w.drewN n) (fun i _ => zs.length - (intOf i).toNat)
  case atStart => exact ⟨0, 0, Nat.zero_le _, rfl, fun j hj => absurd hj (Nat.not_lt_zero _), rfl⟩
  case round =>
    obtain ⟨k, n, hk, rfl, hq, rfl⟩ := hrel
    have HQ := Lib.hid hq
    clear hq
    have hB : Below w.heap.size w (w.drewN n) := Mem.below_drewN w n
    by_cases hlt : k < zs.length
    · obtain ⟨b, o, rfl, hc⟩ := H.out k hlt
      obtain ⟨x, hx⟩ : ∃ x, zs.getD k 0 = x := ⟨_, rfl⟩
      rw [hx] at hc
      have HX := Lib.hid hx
      clear hx
      cases hqx : q x with
      | true =>
        have HQX := Lib.hid hqx
        clear hqx
        go_wp2_with (go_at_fn g; refine (HP.out.at _ k x true HX.out HQX.out hlt hB).mono ?_; rintro e w' ⟨rfl, m, rfl⟩)
        go_ret
        refine ⟨(k : Int), rfl, by omega, by omega, ?_, _, rfl⟩
        rw [any_hit q zs k hlt (by rw [HX.out]; exact HQX.out)]
        simp
      | false =>
        have HQX := Lib.hid hqx
        clear hqx
        go_wp2_with (go_at_fn g; refine (HP.out.at _ k x false HX.out HQX.out hlt hB).mono ?_; rintro e w' ⟨rfl, m, rfl⟩)
        go_roundw
        case rel =>
          refine ⟨k + 1, _, by omega, by go_num, fun j hj => ?_, rfl⟩
          by_cases e : j = k
          · subst e; rw [HX.out]; exact HQX.out
          · exact HQ.out j (by omega)
        case measure => simp [intOf]; omega
    · have E := Lib.hid (show k = zs.length by omega)
      have hany : zs.any q = false := any_miss q zs (fun j hj => HQ.out j (by rw [E.out]; exact hj))
      have HA := Lib.hid hany
      clear hany
      go_wp2
      go_ret
      exact ⟨-1, rfl, by omega, by omega, by rw [HA.out]; rfl, _, rfl⟩

set_option maxRecDepth 100000 in
set_option maxHeartbeats 2000000 in
theorem containsFunc_any (g : Nat) (lb : Array Value) (q : Int → Bool) (b : Bool) (a : Option Addr) (c : Nat) (zs : List Int) (hb : zs.any q = b) (w : World) (eg : ∀ args w, (callFunc g args).run Try.prog w = .ok (.enter g args) w)
    (hp : Asks g lb q zs w) (hlen : zs.length ≤ 1099511627776) (h : Ints w a zs) :
    Calls Try.prog 53 #[.slice a zs.length c, .func (.func g) #[] lb] w fun e w' => e = .returned (.bool b) ∧ ∃ m, w' = w.drewN m := by
  have hc := indexFunc_any g lb q a c zs w eg hp hlen h
  rw [hb] at hc
  have HC := Lib.hid hc
  clear hc hp h hb eg
  go_enter Try.func53, Try.ntmps53
  go_wp2_with fail
  refine HC.out.mono ?_
  rintro e w' ⟨k, rfl, h1, h2, hk, m, rfl⟩
  have HK := Lib.hid hk
  clear hk
  go_wp2
  go_ret
  exact ⟨by rw [← HK.out]; rfl, _, rfl⟩

end Go.Proofs.Ytmonaiojejbhkaa
