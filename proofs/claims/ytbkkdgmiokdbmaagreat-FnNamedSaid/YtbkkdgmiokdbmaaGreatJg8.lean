/-
  TEXTS of one claim, put together: WCx3, WSet3, WNamS1, WWhereB.
-/
import Derived.Test.YtbkkdgmiokdbmaaGreatJg7
import Derived.BigQuiet
import Derived.Test.YtbkkdgmiokdbmaaGreatJg1
import Derived.Test.YtbkkdgmiokdbmaaGreatJg6
/-! WALKS: spec.IsComplex. -/

namespace Go.Proofs.YtbkkdgmiokdbmaaGreat
open Go.RowKit
open Sets

theorem specIsSet_b (n s : Int) (r : Bool) (hr : setB n s = r) (w : World) : Calls Tryz.prog 44 #[.int .i64 n, .int .i64 s] w fun e w' => e = .returned (.bool r) ∧ w = w' := by
  subst hr; exact specIsSet_any n s w
theorem l2Before_b (x y : Int) (hx : okZ x = true) (hy : okZ y = true) (r : Bool) (hr : befZ x y = r) (w : World) : Calls Tryz.prog 63 #[.int .i64 x, .int .i64 y] w fun e w' => e = .returned (.bool r) ∧ w = w' := by
  obtain ⟨s, rfl, hs⟩ := okZ_cast x hx
  obtain ⟨t, rfl, ht⟩ := okZ_cast y hy
  subst hr; rw [befZ_nat s t hs ht]; exact l2Before_any s t hs ht w
theorem and_subZ (x y : Int) (hx : okZ x = true) (hy : okZ y = true) : (bits BinOp.and IntKind.i64 x y == x) = sub x.toNat y.toNat := by
  obtain ⟨s, rfl, hs⟩ := okZ_cast x hx
  obtain ⟨t, rfl, ht⟩ := okZ_cast y hy
  exact and_sub2 s t hs ht

theorem bdrew {B : Nat} {w W : World} (h : Below B w W) (n : Nat) : Below B w (W.drewN n) := ⟨h.os, h.tape, h.output, h.size, h.block⟩

theorem quietly {f : FuncId} {args : Array Value} {w : World} {m n : Nat} {v : Value}
    (h : Calls Tryz.prog f args (w.drewN (m + n)) fun e w' => e = .returned v ∧ w.drewN (m + n) = w') : Calls Tryz.prog f args (w.drewN (m + n)) fun e w'' => e = .returned v ∧ ∃ n, w'' = w.drewN (m + n) :=
  h.mono fun _ _ ⟨he, hw⟩ => ⟨he, n, hw.symm⟩

set_option maxRecDepth 100000 in
set_option maxHeartbeats 4000000 in
theorem specIsC_any (n : Int) (a : Option Addr) (c : Nat) (xs : List Int) (hlen : xs.length ≤ 1099511627776) (w : World) (h : Ints w a xs) :
    Calls Tryz.prog 26 #[cx n (.slice a xs.length c)] w fun e w' => e = .returned (.bool (isC n xs)) ∧ Below w.heap.size w w' := by
  have hb0 : Below w.heap.size w (w.alloc (Obj.cells #[Value.int IntKind.i64 n, Value.slice a xs.length c] 26)) := (Below.refl _ _).alloc (Nat.le_refl _) _
  have htwo : Two (w.alloc (Obj.cells #[Value.int IntKind.i64 n, Value.slice a xs.length c] 26)) w.heap.size (.int .i64 n) (.slice a xs.length c) := Two.new _ _ _ _
  have H := Lib.hid (h.keeps hb0)
  have HB0 := Lib.hid hb0
  have HT := Lib.hid htwo
  clear h hb0 htwo
  go_enter Tryz.func26, Tryz.ntmps26
  go_wp2
  generalize (w.alloc (Obj.cells #[Value.int IntKind.i64 n, Value.slice a xs.length c] 26)) = W at *
  go_loopw [3] (fun i wr => ∃ k m : Nat, k ≤ xs.length ∧ i = .int .i64 (k : Int) ∧ wr = W.drewN m ∧ ∀ j, j < k → okAt n xs j = true) (fun i _ => xs.length - (intOf i).toNat)
  case atStart => exact ⟨0, 0, Nat.zero_le _, rfl, rfl, fun j hj => absurd hj (Nat.not_lt_zero _)⟩
  case round =>
    obtain ⟨k, m, hk, rfl, rfl, hq⟩ := hrel
    have HQ := Lib.hid hq
    clear hq
    by_cases hlt : k < xs.length
    · obtain ⟨b, o, rfl, g⟩ := H.out k hlt
      obtain ⟨x, hx⟩ : ∃ x, xs.getD k 0 = x := ⟨_, rfl⟩
      rw [hx] at g
      have HX := Lib.hid hx
      clear hx
      obtain ⟨t1, t2, t3, _, _⟩ := HT.out
      cases hs : setB n x with
      | false =>
        have HF := Lib.hid (isC_no hlt (okAt_no_set (n := n) (by rw [HX.out]; exact hs)))
        have HS := Lib.hid hs
        clear hs
        go_wp2
        go_quiet (first | (go_at_call 44; refine quietly (specIsSet_b n x false HS.out _)))
        go_wp2
        go_ret
        exact ⟨by rw [HF.out]; rfl, bdrew (bdrew HB0.out _) _⟩
      | true =>
        have HS := Lib.hid hs
        clear hs
        by_cases hk0 : k = 0
        · subst hk0
          have hg : decide ((0 : Int) < ((0 : Nat) : Int)) = false := by simp
          rw [Nat.add_zero] at g
          have HO0 : Hid (okAt n xs 0 = true) := by
            have : okAt n xs 0 = true := okAt_next hlt (fun j hj => absurd hj (Nat.not_lt_zero _)) (by rw [HX.out]; exact HS.out) (Or.inl rfl) (fun i hi => absurd hi (Nat.not_lt_zero _))
            exact this
          go_wp2
          go_quiet (first | (go_at_call 44; refine quietly (specIsSet_b n x true HS.out _)))
          go_wp2
          go_loopw [4] (fun i wr => ∃ q : Nat, q = 0 ∧ i = .int .i64 (q : Int) ∧ wr = (W.drewN m).drewN nq) (fun i _ => 0)
          case atStart => exact ⟨0, rfl, rfl, rfl⟩
          case round =>
            obtain ⟨q, rfl, rfl, rfl⟩ := hrel
            go_wp2
            go_roundw
            case rel =>
              refine ⟨1, m + nq, by omega, by go_num, rfl, fun j hj => ?_⟩
              obtain rfl : j = 0 := by omega
              exact HO0.out
            case measure => simp [intOf]; omega
        · obtain ⟨p, rfl⟩ : ∃ p, k = p + 1 := ⟨k - 1, by omega⟩
          have hg : decide ((0 : Int) < ((p + 1 : Nat) : Int)) = true := by simp only [decide_eq_true_eq]; omega
          obtain ⟨y, hy⟩ : ∃ y, xs.getD p 0 = y := ⟨_, rfl⟩
          have HY := Lib.hid hy
          obtain ⟨_, _, e2, g2⟩ := H.out p (by omega)
          injection e2 with e2
          injection e2 with e3 e4
          subst e3 e4
          rw [hy] at g2
          have HZY : Hid (okZ y = true) := by
            have : okZ y = true := setB_ok (n := n) (by rw [← HY.out]; exact ((okAt_iff n xs p (by omega)).1 (HQ.out p (by omega))).1)
            exact this
          have HZX : Hid (okZ x = true) := by
            have : okZ x = true := setB_ok HS.out
            exact this
          clear hy hk0
          cases hb : befZ y x with
          | false =>
            have HF : Hid (isC n xs = false) := by
              have : isC n xs = false := isC_no hlt (okAt_no_fit (i := p) hlt (by omega) (by rw [HX.out, HY.out]; exact fits_no_bef hb))
              exact this
            have HB := Lib.hid hb
            clear hb
            go_wp2
            go_quiet (first | (go_at_call 44; refine quietly (specIsSet_b n x true HS.out _)) | (go_at_call 63; refine quietly (l2Before_b y x HZY.out HZX.out false HB.out _)))
            go_wp2
            go_ret
            exact ⟨by rw [HF.out]; rfl, bdrew (bdrew HB0.out _) _⟩
          | true =>
            have HB := Lib.hid hb
            clear hb
            go_wp2
            go_quiet (first | (go_at_call 44; refine quietly (specIsSet_b n x true HS.out _)) | (go_at_call 63; refine quietly (l2Before_b y x HZY.out HZX.out true HB.out _)))
            go_wp2
            go_loopw [4] (fun i wr => ∃ q r : Nat, q ≤ p + 1 ∧ i = .int .i64 (q : Int) ∧ wr = W.drewN r ∧ ∀ j, j < q → sub (xs.getD j 0).toNat x.toNat = false) (fun i _ => p + 1 - (intOf i).toNat)
            case atStart => exact ⟨0, m + nq, Nat.zero_le _, rfl, by rw [World.drewN_drewN], fun j hj => absurd hj (Nat.not_lt_zero _)⟩
            case round =>
              obtain ⟨q, r, hq, rfl, rfl, hqs⟩ := hrel
              have HQS := Lib.hid hqs
              clear hqs
              by_cases hlq : q < p + 1
              · obtain ⟨z, hz⟩ : ∃ z, xs.getD q 0 = z := ⟨_, rfl⟩
                have HZ := Lib.hid hz
                obtain ⟨_, _, e2, g3⟩ := H.out q (by omega)
                injection e2 with e2
                injection e2 with e3 e4
                subst e3 e4
                rw [hz] at g3
                have HZZ : Hid (okZ z = true) := by
                  have : okZ z = true := setB_ok (n := n) (by rw [← HZ.out]; exact ((okAt_iff n xs q (by omega)).1 (HQ.out q (by omega))).1)
                  exact this
                have ha := and_subZ z x HZZ.out HZX.out
                clear hz
                cases hsub : sub z.toNat x.toNat with
                | true =>
                  rw [hsub] at ha
                  have HF : Hid (isC n xs = false) := by
                    have : isC n xs = false := isC_no hlt (okAt_no_fit (i := q) hlt (by omega) (by rw [HX.out, HZ.out]; exact fits_no_sub hsub))
                    exact this
                  clear hsub
                  go_wp2
                  go_quiet (fail)
                  go_wp2
                  go_ret
                  exact ⟨by rw [HF.out]; rfl, bdrew (bdrew HB0.out _) _⟩
                | false =>
                  rw [hsub] at ha
                  have HS2 := Lib.hid hsub
                  clear hsub
                  go_wp2
                  go_quiet (fail)
                  go_wp2
                  go_roundw
                  case rel =>
                    refine ⟨q + 1, _, by omega, by go_num, rfl, fun j hj => ?_⟩
                    by_cases e : j = q
                    · subst e; rw [HZ.out]; exact HS2.out
                    · exact HQS.out j (by omega)
                  case measure => simp [intOf]; omega
              · have hqe : q = p + 1 := by omega
                have HO1 : Hid (okAt n xs (p + 1) = true) := by
                  have : okAt n xs (p + 1) = true := okAt_next hlt HQ.out (by rw [HX.out]; exact HS.out) (Or.inr (by rw [Nat.add_sub_cancel, HX.out, HY.out]; exact HB.out)) (fun i hi => by rw [HX.out]; exact HQS.out i (by omega))
                  exact this
                go_wp2
                go_roundw
                case rel =>
                  refine ⟨p + 2, r, by omega, by go_num, rfl, fun j hj => ?_⟩
                  by_cases e : j = p + 1
                  · subst e; exact HO1.out
                  · exact HQ.out j (by omega)
                case measure => simp [intOf]; omega
    · have E := Lib.hid (show k = xs.length by omega)
      have HTT : ∀ b, inB 1 6 n = b → isC n xs = b := fun b hb => by
        cases b with
        | false => unfold isC; rw [hb]; rfl
        | true => exact (isC_iff n xs).2 ⟨(inB_iff _ _ _).1 hb, fun j hj => HQ.out j (by rw [E.out]; exact hj)⟩
      have HT2 := Lib.hid HTT
      clear HTT
      obtain ⟨t1, t2, t3, _, _⟩ := HT.out
      cases hn : inB 1 6 n with
      | false =>
        have HN := Lib.hid hn
        clear hn
        go_wp2_with fail
        refine (in_b n 1 6 false HN.out _).mono ?_
        rintro e w' ⟨rfl, rfl⟩
        go_wp2
        go_ret
        exact ⟨by rw [HT2.out _ HN.out]; rfl, bdrew HB0.out _⟩
      | true =>
        have HN := Lib.hid hn
        clear hn
        go_wp2_with fail
        refine (in_b n 1 6 true HN.out _).mono ?_
        rintro e w' ⟨rfl, rfl⟩
        go_wp2
        go_ret
        exact ⟨by rw [HT2.out _ HN.out]; rfl, bdrew HB0.out _⟩

end Go.Proofs.YtbkkdgmiokdbmaaGreat

/-! WALKS: the points of a set; its subsets; lists in order. -/

namespace Go.Proofs.YtbkkdgmiokdbmaaGreat
open Go.RowKit
open Sets

/-- Is point i in s? -/
def ptB (s i : Nat) : Bool := s / 2 ^ i % 2 == 1

theorem shr_and (s i : Nat) (hs : s < 64) : bits BinOp.and IntKind.i64 ((s : Int) / 2 ^ i) 1 = ((s / 2 ^ i % 2 : Nat) : Int) := by
  have h : s / 2 ^ i < 64 := Nat.lt_of_le_of_lt (Nat.div_le_self _ _) hs
  have := and_one (s / 2 ^ i) h
  rw [← this]
  congr 1
theorem ptB_int (s i : Nat) (hs : s < 64) : (bits BinOp.and IntKind.i64 ((s : Int) / 2 ^ i) 1 == 1) = ptB s i := by
  rw [shr_and s i hs]
  unfold ptB
  rw [Bool.eq_iff_iff, beq_iff_eq, beq_iff_eq]
  omega

set_option maxRecDepth 100000 in
set_option maxHeartbeats 2000000 in
theorem hasPoint_any (s i : Nat) (hs : s < 64) (hi : i < 6) (w : World) : Calls Tryz.prog 72 #[.int .i64 (s : Int), .int .i64 (i : Int)] w fun e w' => e = .returned (.bool (ptB s i)) ∧ w = w' := by
  go_enter Tryz.func72, Tryz.ntmps72
  go_wp2
  go_ret
  exact ⟨ret_bool (ptB_int s i hs), rfl⟩

theorem hasPoint_b (s i : Nat) (b : Bool) (hb : ptB s i = b) (hs : s < 64) (hi : i < 6) (w : World) : Calls Tryz.prog 72 #[.int .i64 (s : Int), .int .i64 (i : Int)] w fun e w' => e = .returned (.bool b) ∧ w = w' := by
  subst hb; exact hasPoint_any s i hs hi w

theorem pts_hit (s i : Nat) (h : ptB s i = true) : pts s (i + 1) = pts s i ++ [(i : Int)] := by
  rw [pts_next, if_pos (by unfold ptB at h; simpa using h)]
theorem pts_miss (s i : Nat) (h : ptB s i = false) : pts s (i + 1) = pts s i := by
  rw [pts_next, if_neg (by unfold ptB at h; simpa using h), List.append_nil]

theorem points_nat (s : Nat) (h : s < 64) : points (s : Int) = pts s 6 := by unfold points; rw [if_pos ((okZ_nat s).2 h)]; rfl
theorem points_no (x : Int) (h : okZ x = false) : points x = [] := by unfold points; rw [if_neg (by rw [h]; simp)]

end Go.Proofs.YtbkkdgmiokdbmaaGreat

/-! WALKS: spec's chapter 9: is a number in a list; names; a set's new names. -/

namespace Go.Proofs.YtbkkdgmiokdbmaaGreat
open Go.RowKit
open Sets Nam

theorem take_miss (xs : List Int) (x : Int) (h : ∀ j, j < xs.length → xs.getD j 0 ≠ x) : xs.contains x = false := by
  rw [Bool.eq_false_iff]; intro e
  rw [List.contains_iff_mem] at e
  obtain ⟨j, hj, rfl⟩ := List.mem_iff_getElem.1 e
  exact h j hj (by rw [List.getD, List.getElem?_eq_getElem hj]; rfl)
theorem take_hit (xs : List Int) (k : Nat) (h : k < xs.length) : xs.contains (xs.getD k 0) = true := by
  rw [List.contains_iff_mem, List.getD, List.getElem?_eq_getElem h]; exact List.getElem_mem h

set_option maxRecDepth 100000 in
set_option maxHeartbeats 2000000 in
theorem l2Has_any (a : Option Addr) (c : Nat) (xs : List Int) (l : Nat) (hl : xs.length = l) (hlen : l ≤ 1099511627776) (x : Int) (b : Bool) (hb : xs.contains x = b) (w : World) (h : Ints w a xs) :
    Calls Tryz.prog 69 #[.slice a l c, .int .i64 x] w fun e w' => e = .returned (.bool b) ∧ w = w' := by
  have HH := Lib.hid h
  have HB := Lib.hid hb
  have HL := Lib.hid hl
  clear h hb hl
  go_enter Tryz.func69, Tryz.ntmps69
  go_wp2
  go_loop [5] (fun i => ∃ k : Nat, k ≤ l ∧ i = .int .i64 (k : Int) ∧ ∀ j, j < k → xs.getD j 0 ≠ x) (fun i => l - (intOf i).toNat)
  case atStart => exact ⟨0, Nat.zero_le _, rfl, fun j hj => absurd hj (Nat.not_lt_zero _)⟩
  case round =>
    obtain ⟨k, hk, rfl, hq⟩ := hrel
    have HQ := Lib.hid hq
    clear hq
    by_cases hlt : k < l
    · obtain ⟨b1, o1, rfl, g1⟩ := HH.out k (by rw [HL.out]; exact hlt)
      obtain ⟨y, hy⟩ : ∃ y, xs.getD k 0 = y := ⟨_, rfl⟩
      rw [hy] at g1
      have HY := Lib.hid hy
      clear hy
      by_cases e : y = x
      · subst e
        have HR : Hid (b = true) := by
          have : b = true := by rw [← HB.out, ← HY.out]; exact take_hit xs k (by rw [HL.out]; exact hlt)
          exact this
        go_wp2
        go_ret
        exact ⟨by rw [HR.out]; rfl, rfl⟩
      · have hne : (y == x) = false := by rw [beq_eq_false_iff_ne]; exact e
        go_wp2
        go_round
        case rel =>
          refine ⟨k + 1, by omega, by go_num, fun j hj => ?_⟩
          by_cases e2 : j = k
          · subst e2; rw [HY.out]; exact e
          · exact HQ.out j (by omega)
        case measure => simp [intOf]; omega
    · have HR : Hid (b = false) := by
        have : b = false := by rw [← HB.out]; exact take_miss xs x fun j hj => HQ.out j (by rw [HL.out] at hj; omega)
        exact this
      go_wp2
      go_ret
      exact ⟨by rw [HR.out]; rfl, rfl⟩

theorem quietly0 {f : FuncId} {args : Array Value} {w : World} {n : Nat} {v : Value}
    (h : Calls Tryz.prog f args (w.drewN n) fun e w' => e = .returned v ∧ w.drewN n = w') : Calls Tryz.prog f args (w.drewN n) fun e w'' => e = .returned v ∧ ∃ n, w'' = w.drewN n :=
  h.mono fun _ _ ⟨he, hw⟩ => ⟨he, n, hw.symm⟩

theorem Ints.takeN {w : World} {a : Option Addr} {xs : List Int} (h : Ints w a xs) (k : Nat) : Ints w a (xs.take k) := fun j hj => by
  rw [List.length_take] at hj
  obtain ⟨b, o, e, hc⟩ := h j (by omega)
  refine ⟨b, o, e, ?_⟩
  rw [List.getD, List.getElem?_take_of_lt (by omega)]; exact hc

set_option maxRecDepth 100000 in
set_option maxHeartbeats 4000000 in
theorem l9Names_any (n : Int) (a : Option Addr) (c : Nat) (xs : List Int) (hcap : xs.length ≤ c) (hlen : xs.length ≤ 1099511627776) (hn : -9223372036854775807 ≤ n ∧ n ≤ 9223372036854775807) (b : Bool) (hb : nmsB n xs = b) (w : World) (h : Ints w a xs) :
    Calls Tryz.prog 38 #[.slice a xs.length c, .int .i64 n] w fun e w' => e = .returned (.bool b) ∧ Below w.heap.size w w' := by
  have HH := Lib.hid h
  have HB := Lib.hid hb
  clear h hb
  go_enter Tryz.func38, Tryz.ntmps38
  go_wp2
  go_loopw [5] (fun i wr => ∃ k : Nat, k ≤ xs.length ∧ i = .int .i64 (k : Int) ∧ (∀ j, j < k → nmAt n xs j = true) ∧ Below w.heap.size w wr) (fun i _ => xs.length - (intOf i).toNat)
  case atStart => exact ⟨0, Nat.zero_le _, rfl, fun j hj => absurd hj (Nat.not_lt_zero _), Below.refl _ _⟩
  case round =>
    obtain ⟨k, hk, rfl, hq, hB⟩ := hrel
    have HQ := Lib.hid hq
    have HBW := Lib.hid hB
    have hsz := hB.size
    clear hq hB
    by_cases hlt : k < xs.length
    · have hI := HH.out.keeps HBW.out
      obtain ⟨b1, o1, rfl, g1⟩ := hI k hlt
      have HT := Lib.hid (Ints.takeN hI k)
      have htl : (xs.take k).length = k := by rw [List.length_take]; omega
      obtain ⟨x, hx⟩ : ∃ x, xs.getD k 0 = x := ⟨_, rfl⟩
      rw [hx] at g1
      have hat : nmAt n xs k = (inB 0 (n - 1) x && !(xs.take k).contains x) := by unfold nmAt; rw [hx]
      have hkc : ¬ (c < k) := by omega
      have HAT := Lib.hid hat
      have HTL := Lib.hid htl
      clear hx hI hat htl
      have hwn : IntKind.i64.wrap (n - 1) = n - 1 := IntWalk.i64_in _ (by omega)
      cases h1 : inB 0 (n - 1) x with
      | false =>
        have H1b := Lib.hid h1
        have H1 : Hid (inB 0 (IntKind.i64.wrap (n - 1)) x = false) := by rw [hwn]; exact h1
        have HR : Hid (b = false) := by
          have : b = false := by rw [← HB.out]; exact nms_no hlt (by rw [HAT.out, h1]; rfl)
          exact this
        clear h1 hwn
        go_wp2
        go_quiet (first | (go_at_call 64; refine quietly0 (in_b _ _ _ false (by with_reducible first | exact H1.out | exact H1b.out) _)))
        go_wp2
        go_ret
        exact ⟨by rw [HR.out]; rfl, bdrew HBW.out _⟩
      | true =>
        have H1b := Lib.hid h1
        have H1 : Hid (inB 0 (IntKind.i64.wrap (n - 1)) x = true) := by rw [hwn]; exact h1
        cases hq : (xs.take k).contains x with
        | true =>
          have HC := Lib.hid hq
          have HR : Hid (b = false) := by
            have : b = false := by rw [← HB.out]; exact nms_no hlt (by rw [HAT.out, h1, hq]; rfl)
            exact this
          clear h1 hwn hq
          go_wp2
          go_quiet (first | (go_at_call 64; refine quietly0 (in_b _ _ _ true (by with_reducible first | exact H1.out | exact H1b.out) _)) | (go_at_call 69; refine quietly0 (l2Has_any _ _ (xs.take k) k HTL.out (by omega) x true HC.out _ HT.out)))
          go_wp2
          go_ret
          exact ⟨by rw [HR.out]; rfl, bdrew HBW.out _⟩
        | false =>
          have HC := Lib.hid hq
          have HR : Hid (nmAt n xs k = true) := by
            have : nmAt n xs k = true := by rw [HAT.out, h1, hq]; rfl
            exact this
          clear h1 hwn hq
          go_wp2
          go_quiet (first | (go_at_call 64; refine quietly0 (in_b _ _ _ true (by with_reducible first | exact H1.out | exact H1b.out) _)) | (go_at_call 69; refine quietly0 (l2Has_any _ _ (xs.take k) k HTL.out (by omega) x false HC.out _ HT.out)))
          go_wp2
          go_roundw
          case rel =>
            refine ⟨k + 1, by omega, by go_num, fun j hj => ?_, bdrew HBW.out _⟩
            by_cases e : j = k
            · subst e; exact HR.out
            · exact HQ.out j (by omega)
          case measure => simp [intOf]; omega
    · have hall := nms_all (n := n) (xs := xs) fun j hj => HQ.out j (by omega)
      rw [HB.out] at hall
      cases hln : ((xs.length : Int) == n) with
      | false =>
        have HR : Hid (b = false) := by
          have : b = false := by rw [hall, hln]; rfl
          exact this
        clear hall
        go_wp2
        go_ret
        exact ⟨by rw [HR.out]; rfl, HBW.out⟩
      | true =>
        have HR : Hid (inB 1 6 n = b) := by
          have : inB 1 6 n = b := by rw [hall, hln]; rfl
          exact this
        clear hall
        go_wp2_with fail
        refine (in_b n 1 6 b HR.out _).mono ?_
        rintro e w' ⟨rfl, rfl⟩
        go_wp2
        go_ret
        exact ⟨rfl, HBW.out⟩

end Go.Proofs.YtbkkdgmiokdbmaaGreat

/-! WALKS: impl.setsWhere at a predicate that may make memory of its own. -/

namespace Go.Proofs.YtbkkdgmiokdbmaaGreat
open Go.RowKit
open Sets

/-- What is asked of the predicate: at every set, in every later world, it answers p and keeps all that was there. -/
def PredB (g : Nat) (lb : Array Value) (p : Nat → Bool) (w : World) : Prop :=
  ∀ (W : World) (s : Nat), s < 64 → Below w.heap.size w W → Calls Tryz.prog g (#[.int .i64 (s : Int)] ++ lb) W fun e w' => e = .returned (.bool (p s)) ∧ Below W.heap.size W w'
theorem PredB.at {g : Nat} {lb : Array Value} {p : Nat → Bool} {w : World} (h : PredB g lb p w) (W : World) (s : Nat) (b : Bool) (hb : p s = b) (hs : s < 64) (hB : Below w.heap.size w W) :
    Calls Tryz.prog g (#[.int .i64 (s : Int)] ++ lb) W fun e w' => e = .returned (.bool b) ∧ Below W.heap.size W w' := by
  subst hb; exact h W s hs hB

set_option maxRecDepth 100000 in
set_option maxHeartbeats 4000000 in
theorem setsWhere_bel (g : Nat) (lb : Array Value) (p : Nat → Bool) (w : World) (eg : ∀ args w, (callFunc g args).run Tryz.prog w = .ok (.enter g args) w) (hp : PredB g lb p w) :
    Calls Tryz.prog 92 #[.func (.func g) #[] lb] w fun e w' => ∃ v, e = .returned v ∧ OwnInts w' w.heap.size v (ord p) ∧ Below w.heap.size w w' := by
  obtain ⟨i0, hi, hz0, hz1, hz2⟩ := info_parts info_int
  have HPR := Lib.hid hp
  clear hp
  go_enter Tryz.func92, Tryz.ntmps92
  go_wp2
  go_loopw [3, 6] (fun v i wr => ∃ k : Nat, k ≤ 7 ∧ i = .int .i64 (k : Int) ∧ OwnInts wr w.heap.size v (upto p k 0) ∧ Below w.heap.size w wr) (fun _ i _ => 7 - (intOf i).toNat)
  case atStart => exact ⟨0, by omega, rfl, OwnInts.nil _ _, Below.refl _ _⟩
  case round =>
    obtain ⟨k, hk, rfl, hO, hB⟩ := hrel
    have HO := Lib.hid hO
    clear hO
    obtain ⟨wo, rfl⟩ : ∃ wo : World, wo = wr := ⟨_, rfl⟩
    by_cases hlt : k < 7
    · have hlt7 : decide ((k : Int) < 7) = true := by simp; omega
      go_wp2
      go_loopw [3, 9] (fun v i wr => ∃ n : Nat, n ≤ 64 ∧ i = .int .i64 (n : Int) ∧ OwnInts wr w.heap.size v (upto p k n) ∧ Below w.heap.size w wr) (fun _ i _ => 64 - (intOf i).toNat)
      case atStart => exact ⟨0, by omega, rfl, HO.out, hB⟩
      case round =>
        clear hB HO
        obtain ⟨n, hn, rfl, hO, hB⟩ := hrel
        have HO := Lib.hid hO
        clear hO
        have hsz := hB.size
        have hl := upto_length p k n
        by_cases hln : n < 64
        · have hpn := pc_le n
          by_cases hq : pc n = k
          · have hq' : ((pc n : Int) == (k : Int)) = true := by rw [hq]; simp
            have HQ := Lib.hid hq
            clear hq
            cases hp : p n with
            | true =>
              have HP := Lib.hid hp
              clear hp
              go_wp2_with fail
              refine (implSizeOf_nat n hln _).mono ?_
              rintro e w' ⟨rfl, rfl⟩
              go_wp2_with fail
              go_at_fn g
              refine (HPR.out.at _ n true HP.out hln hB).mono ?_
              rintro e w2 ⟨rfl, hb2⟩
              have hB2 : Below w.heap.size w w2 := hB.trans (hb2.mono hsz)
              have HO2 := Lib.hid (OwnInts.keeps HO.out hb2)
              unfold OwnInts at HO2
              have hsz2 := hB2.size
              clear hb2 HO
              go_wp2_with (at_builtin; refine wpList_append_own _ rfl _ _ 24 rfl w.heap.size 3 i0 (.int .i64 0) 1 8 Tryz.underlying24 hi hz0 hz1 hz2 rfl (by decide) _ _ _ rfl (HO2.out.alloc _) ⟨w2.heap.size, 0, none⟩ 1 1 [.int .i64 (n : Int)] rfl rfl ?c1 ?c2 ?c3 ?c4 ?c5 ?_)
              case c1 => intro j u hj; exact Mem.cell_new w2 _ _ j u hj
              case c2 => intro u hu; simp at hu; subst hu; rfl
              case c3 => unfold maxLen; omega
              case c4 => omega
              case c5 => simp; omega
              intro v' w1 hown1 hgrow _
              have hB1 : Below w.heap.size w w1 := (hB2.alloc hsz2 _).grown hgrow (by simp; omega) (fun g hg => (HO2.out.lt g hg).1)
              have H1 := Lib.hid hown1
              clear hown1 hgrow
              go_wp2
              go_roundw
              case rel => exact ⟨n + 1, by omega, by go_num, by rw [upto_hit p k n HQ.out HP.out]; exact OwnInts.next H1.out, hB1⟩
              case measure => simp [intOf]; omega
            | false =>
              have HP := Lib.hid hp
              clear hp
              go_wp2_with fail
              refine (implSizeOf_nat n hln _).mono ?_
              rintro e w' ⟨rfl, rfl⟩
              go_wp2_with fail
              go_at_fn g
              refine (HPR.out.at _ n false HP.out hln hB).mono ?_
              rintro e w2 ⟨rfl, hb2⟩
              have hB2 : Below w.heap.size w w2 := hB.trans (hb2.mono hsz)
              have HO2 := Lib.hid (OwnInts.keeps HO.out hb2)
              clear hb2 HO
              go_wp2
              go_roundw
              case rel => exact ⟨n + 1, by omega, by go_num, by rw [upto_miss p k n (fun h => by rw [HP.out] at h; simp at h)]; exact HO2.out, hB2⟩
              case measure => simp [intOf]; omega
          · have hq' : ((pc n : Int) == (k : Int)) = false := by simp; omega
            have HQ := Lib.hid hq
            clear hq
            go_wp2_with fail
            refine (implSizeOf_nat n hln _).mono ?_
            rintro e w' ⟨rfl, rfl⟩
            go_wp2
            go_roundw
            case rel => exact ⟨n + 1, by omega, by go_num, by rw [upto_miss p k n (fun h => HQ.out h.1)]; exact HO.out, hB⟩
            case measure => simp [intOf]; omega
        · have E := Lib.hid (show n = 64 by omega)
          go_wp2
          go_roundw
          case rel =>
            have h2 := HO.out
            rw [E.out, upto_line] at h2
            exact ⟨k + 1, by omega, by go_num, h2, hB⟩
          case measure => simp [intOf]; omega
    · have E := Lib.hid (show k = 7 by omega)
      go_wp2
      go_ret
      have h2 := HO.out
      rw [E.out, upto_end] at h2
      exact ⟨_, rfl, h2, hB⟩

end Go.Proofs.YtbkkdgmiokdbmaaGreat
