/-
  WALKS of chapter 4: DimOf, IsSimplex, UsedPoints, DegreeOf, by impl and by spec.
-/
import Derived.Test.YtlggglegoonapaaWCx5
import Derived.Test.YtlggglegoonapaaCnt
namespace Go.Proofs.Ytlggglegoonapaa
open Go.RowKit
open Sets

theorem implIsC_len (n : Int) (a : Option Addr) (c : Nat) (xs : List Int) (l : Nat) (hl : xs.length = l) (hcap : l ≤ c) (b : Bool) (hb : isC n xs = b) (hlen : l ≤ 1099511627776) (w : World) (h : Ints w a xs) :
    Calls Try.prog 52 #[cx n (.slice a l c)] w fun e w' => e = .returned (.bool b) ∧ Below w.heap.size w w' := by
  subst hl; exact implIsC_b n a c xs hcap b hb hlen w h

theorem specIsC_len (n : Int) (a : Option Addr) (c : Nat) (xs : List Int) (l : Nat) (hl : xs.length = l) (b : Bool) (hb : isC n xs = b) (hlen : l ≤ 1099511627776) (w : World) (h : Ints w a xs) :
    Calls Try.prog 54 #[cx n (.slice a l c)] w fun e w' => e = .returned (.bool b) ∧ Below w.heap.size w w' := by
  subst hl; exact specIsC_b n a c xs b hb hlen w h

set_option maxRecDepth 100000 in
set_option maxHeartbeats 2000000 in
theorem implDim_any (n : Int) (a : Option Addr) (c : Nat) (xs : List Int) (hcap : xs.length ≤ c) (hlen : xs.length ≤ 1099511627776) (w : World) (h : Ints w a xs) :
    Calls Try.prog 19 #[cx n (.slice a xs.length c)] w fun e w' => e = .returned (.int .i64 (dimZ n xs)) ∧ Below w.heap.size w w' := by
  have hb0 : Below w.heap.size w (w.alloc (Obj.cells #[Value.int IntKind.i64 n, Value.slice a xs.length c] 26)) := (Below.refl _ _).alloc (Nat.le_refl _) _
  have htwo : Two (w.alloc (Obj.cells #[Value.int IntKind.i64 n, Value.slice a xs.length c] 26)) w.heap.size (.int .i64 n) (.slice a xs.length c) := Two.new _ _ _ _
  have H := Lib.hid (h.keeps hb0)
  have HB0 := Lib.hid hb0
  have HT := Lib.hid htwo
  clear h hb0 htwo
  cases hC : isC n xs with
  | false =>
    have HC := Lib.hid hC
    have HF := Lib.hid (dimZ_no hC)
    clear hC
    go_enter Try.func19, Try.ntmps19
    go_wp2_with fail
    refine (implIsC_b n _ _ xs hcap false HC.out hlen _ H.out).mono ?_
    rintro e w1 ⟨rfl, hb1⟩
    obtain ⟨t0, t1, t2, _, _⟩ := HT.out.keeps hb1
    go_wp2
    go_ret
    exact ⟨by rw [HF.out]; rfl, HB0.out.trans (hb1.mono (by simp))⟩
  | true =>
    have HC := Lib.hid hC
    obtain ⟨l, hl⟩ : ∃ l, xs.length = l := ⟨_, rfl⟩
    have HL := Lib.hid hl
    rw [hl] at hcap hlen HT HB0 H ⊢
    cases l with
    | zero =>
      have HF : Hid (dimZ n xs = -2) := by
        have : dimZ n xs = -2 := by rw [List.eq_nil_of_length_eq_zero hl]; exact dimZ_nil n
        exact this
      clear hC hl
      go_enter Try.func19, Try.ntmps19
      go_wp2_with fail
      refine (implIsC_len n _ _ xs 0 HL.out hcap true HC.out hlen _ H.out).mono ?_
      rintro e w1 ⟨rfl, hb1⟩
      obtain ⟨t0, t1, t2, _, _⟩ := HT.out.keeps hb1
      go_wp2
      go_ret
      exact ⟨by rw [HF.out]; rfl, HB0.out.trans (hb1.mono (by simp))⟩
    | succ m =>
      obtain ⟨s, hs, hs64⟩ := isC_at hC m (by omega)
      have HF : Hid (dimZ n xs = (pc s : Int) - 1) := by
        have : dimZ n xs = (pc s : Int) - 1 := by rw [dimZ_yes hC (by omega), hl, Nat.add_sub_cancel, hs]; rfl
        exact this
      have HS := Lib.hid hs
      have hps := pc_le s
      have hz : (((m + 1 : Nat) : Int) == 0) = false := by simp; omega
      clear hC hs hl
      go_enter Try.func19, Try.ntmps19
      go_wp2_with fail
      refine (implIsC_len n _ _ xs (m + 1) HL.out hcap true HC.out hlen _ H.out).mono ?_
      rintro e w1 ⟨rfl, hb1⟩
      obtain ⟨t0, t1, t2, _, _⟩ := HT.out.keeps hb1
      obtain ⟨b0, o, rfl, g⟩ := H.out.keeps hb1 m (by rw [HL.out]; omega)
      rw [HS.out] at g
      go_wp2_with fail
      refine (implSizeOf_nat s hs64 _).mono ?_
      rintro e w' ⟨rfl, rfl⟩
      go_wp2
      go_ret
      exact ⟨by rw [HF.out]; rfl, HB0.out.trans (hb1.mono (by simp))⟩

set_option maxRecDepth 100000 in
set_option maxHeartbeats 2000000 in
theorem specDim_any (n : Int) (a : Option Addr) (c : Nat) (xs : List Int) (hlen : xs.length ≤ 1099511627776) (w : World) (h : Ints w a xs) :
    Calls Try.prog 20 #[cx n (.slice a xs.length c)] w fun e w' => e = .returned (.int .i64 (dimZ n xs)) ∧ Below w.heap.size w w' := by
  have hb0 : Below w.heap.size w (w.alloc (Obj.cells #[Value.int IntKind.i64 n, Value.slice a xs.length c] 26)) := (Below.refl _ _).alloc (Nat.le_refl _) _
  have htwo : Two (w.alloc (Obj.cells #[Value.int IntKind.i64 n, Value.slice a xs.length c] 26)) w.heap.size (.int .i64 n) (.slice a xs.length c) := Two.new _ _ _ _
  have H := Lib.hid (h.keeps hb0)
  have HB0 := Lib.hid hb0
  have HT := Lib.hid htwo
  clear h hb0 htwo
  cases hC : isC n xs with
  | false =>
    have HC := Lib.hid hC
    have HF := Lib.hid (dimZ_no hC)
    clear hC
    go_enter Try.func20, Try.ntmps20
    go_wp2_with fail
    refine (specIsC_b n _ _ xs false HC.out hlen _ H.out).mono ?_
    rintro e w1 ⟨rfl, hb1⟩
    obtain ⟨t0, t1, t2, _, _⟩ := HT.out.keeps hb1
    go_wp2
    go_ret
    exact ⟨by rw [HF.out]; rfl, HB0.out.trans (hb1.mono (by simp))⟩
  | true =>
    have HC := Lib.hid hC
    obtain ⟨l, hl⟩ : ∃ l, xs.length = l := ⟨_, rfl⟩
    have HL := Lib.hid hl
    rw [hl] at hlen HT HB0 H ⊢
    cases l with
    | zero =>
      have HF : Hid (dimZ n xs = -2) := by
        have : dimZ n xs = -2 := by rw [List.eq_nil_of_length_eq_zero hl]; exact dimZ_nil n
        exact this
      clear hC hl
      go_enter Try.func20, Try.ntmps20
      go_wp2_with fail
      refine (specIsC_len n _ _ xs 0 HL.out true HC.out hlen _ H.out).mono ?_
      rintro e w1 ⟨rfl, hb1⟩
      obtain ⟨t0, t1, t2, _, _⟩ := HT.out.keeps hb1
      go_wp2
      go_ret
      exact ⟨by rw [HF.out]; rfl, HB0.out.trans (hb1.mono (by simp))⟩
    | succ m =>
      obtain ⟨s, hs, hs64⟩ := isC_at hC m (by omega)
      have HF : Hid (dimZ n xs = (pc s : Int) - 1) := by
        have : dimZ n xs = (pc s : Int) - 1 := by rw [dimZ_yes hC (by omega), hl, Nat.add_sub_cancel, hs]; rfl
        exact this
      have HS := Lib.hid hs
      have hps := pc_le s
      have hz : (((m + 1 : Nat) : Int) == 0) = false := by simp; omega
      clear hC hs hl
      go_enter Try.func20, Try.ntmps20
      go_wp2_with fail
      refine (specIsC_len n _ _ xs (m + 1) HL.out true HC.out hlen _ H.out).mono ?_
      rintro e w1 ⟨rfl, hb1⟩
      obtain ⟨t0, t1, t2, _, _⟩ := HT.out.keeps hb1
      obtain ⟨b0, o, rfl, g⟩ := H.out.keeps hb1 m (by rw [HL.out]; omega)
      rw [HS.out] at g
      go_wp2_with fail
      refine (l2Size_any s hs64 _).mono ?_
      rintro e w' ⟨rfl, rfl⟩
      go_wp2
      go_ret
      exact ⟨by rw [HF.out]; rfl, HB0.out.trans (hb1.mono (by simp))⟩

set_option maxRecDepth 100000 in
set_option maxHeartbeats 2000000 in
theorem implSimplex_any (n : Int) (a : Option Addr) (c : Nat) (xs : List Int) (hcap : xs.length ≤ c) (hlen : xs.length ≤ 1099511627776) (w : World) (h : Ints w a xs) :
    Calls Try.prog 29 #[cx n (.slice a xs.length c)] w fun e w' => e = .returned (.bool (simplexB n xs)) ∧ Below w.heap.size w w' := by
  have hb0 : Below w.heap.size w (w.alloc (Obj.cells #[Value.int IntKind.i64 n, Value.slice a xs.length c] 26)) := (Below.refl _ _).alloc (Nat.le_refl _) _
  have htwo : Two (w.alloc (Obj.cells #[Value.int IntKind.i64 n, Value.slice a xs.length c] 26)) w.heap.size (.int .i64 n) (.slice a xs.length c) := Two.new _ _ _ _
  have H := Lib.hid (h.keeps hb0)
  have HB0 := Lib.hid hb0
  have HT := Lib.hid htwo
  clear h hb0 htwo
  obtain ⟨b, hb⟩ : ∃ b, (xs.length == 1) = b := ⟨_, rfl⟩
  have hb' : ((xs.length : Int) == 1) = b := by rw [← hb, Bool.eq_iff_iff, beq_iff_eq, beq_iff_eq]; omega
  obtain ⟨q, hq⟩ : ∃ q, isC n xs = q := ⟨_, rfl⟩
  have HF : Hid (simplexB n xs = (q && b)) := by
    have : simplexB n xs = (q && b) := by unfold simplexB; rw [hq, hb]
    exact this
  have HC := Lib.hid hq
  clear hb hq
  cases q <;> cases b <;>
  · go_enter Try.func29, Try.ntmps29
    go_wp2_with fail
    refine (implIsC_b n _ _ xs hcap _ HC.out hlen _ H.out).mono ?_
    rintro e w1 ⟨rfl, hb1⟩
    obtain ⟨t0, t1, t2, _, _⟩ := HT.out.keeps hb1
    go_wp2
    go_ret
    exact ⟨by rw [HF.out]; rfl, HB0.out.trans (hb1.mono (by simp))⟩

set_option maxRecDepth 100000 in
set_option maxHeartbeats 2000000 in
theorem specSimplex_any (n : Int) (a : Option Addr) (c : Nat) (xs : List Int) (hlen : xs.length ≤ 1099511627776) (w : World) (h : Ints w a xs) :
    Calls Try.prog 30 #[cx n (.slice a xs.length c)] w fun e w' => e = .returned (.bool (simplexB n xs)) ∧ Below w.heap.size w w' := by
  have hb0 : Below w.heap.size w (w.alloc (Obj.cells #[Value.int IntKind.i64 n, Value.slice a xs.length c] 26)) := (Below.refl _ _).alloc (Nat.le_refl _) _
  have htwo : Two (w.alloc (Obj.cells #[Value.int IntKind.i64 n, Value.slice a xs.length c] 26)) w.heap.size (.int .i64 n) (.slice a xs.length c) := Two.new _ _ _ _
  have H := Lib.hid (h.keeps hb0)
  have HB0 := Lib.hid hb0
  have HT := Lib.hid htwo
  clear h hb0 htwo
  obtain ⟨b, hb⟩ : ∃ b, (xs.length == 1) = b := ⟨_, rfl⟩
  have hb' : ((xs.length : Int) == 1) = b := by rw [← hb, Bool.eq_iff_iff, beq_iff_eq, beq_iff_eq]; omega
  obtain ⟨q, hq⟩ : ∃ q, isC n xs = q := ⟨_, rfl⟩
  have HF : Hid (simplexB n xs = (q && b)) := by
    have : simplexB n xs = (q && b) := by unfold simplexB; rw [hq, hb]
    exact this
  have HC := Lib.hid hq
  clear hb hq
  cases q <;> cases b <;>
  · go_enter Try.func30, Try.ntmps30
    go_wp2_with fail
    refine (specIsC_b n _ _ xs _ HC.out hlen _ H.out).mono ?_
    rintro e w1 ⟨rfl, hb1⟩
    obtain ⟨t0, t1, t2, _, _⟩ := HT.out.keeps hb1
    go_wp2
    go_ret
    exact ⟨by rw [HF.out]; rfl, HB0.out.trans (hb1.mono (by simp))⟩

/-! ### used points -/

theorem or_nat : ∀ a b : Nat, a < 64 → b < 64 → bits BinOp.or IntKind.i64 (a : Int) (b : Int) = ((a ||| b : Nat) : Int) := by
  refine fin64b ?_
  decide +kernel
theorem used_yes {n : Int} {xs : List Int} (h : isC n xs = true) : used n xs = (orN xs : Int) := by unfold used; rw [if_pos h]
theorem used_no {n : Int} {xs : List Int} (h : isC n xs = false) : used n xs = 0 := by unfold used; rw [if_neg (by rw [h]; simp)]

set_option maxRecDepth 100000 in
set_option maxHeartbeats 2000000 in
theorem implUsed_any (n : Int) (a : Option Addr) (c : Nat) (xs : List Int) (hcap : xs.length ≤ c) (hlen : xs.length ≤ 1099511627776) (w : World) (h : Ints w a xs) :
    Calls Try.prog 27 #[cx n (.slice a xs.length c)] w fun e w' => e = .returned (.int .i64 (used n xs)) ∧ Below w.heap.size w w' := by
  have hb0 : Below w.heap.size w (w.alloc (Obj.cells #[Value.int IntKind.i64 n, Value.slice a xs.length c] 26)) := (Below.refl _ _).alloc (Nat.le_refl _) _
  have htwo : Two (w.alloc (Obj.cells #[Value.int IntKind.i64 n, Value.slice a xs.length c] 26)) w.heap.size (.int .i64 n) (.slice a xs.length c) := Two.new _ _ _ _
  have H := Lib.hid (h.keeps hb0)
  have HB0 := Lib.hid hb0
  have HT := Lib.hid htwo
  clear h hb0 htwo
  cases hC : isC n xs with
  | false =>
    have HC := Lib.hid hC
    have HF := Lib.hid (used_no hC)
    clear hC
    go_enter Try.func27, Try.ntmps27
    go_wp2_with fail
    refine (implIsC_b n _ _ xs hcap false HC.out hlen _ H.out).mono ?_
    rintro e w1 ⟨rfl, hb1⟩
    go_wp2
    go_ret
    exact ⟨by rw [HF.out]; rfl, HB0.out.trans (hb1.mono (by simp))⟩
  | true =>
    have HC := Lib.hid hC
    have HF := Lib.hid (used_yes hC)
    clear hC
    go_enter Try.func27, Try.ntmps27
    go_wp2_with fail
    refine (implIsC_b n _ _ xs hcap true HC.out hlen _ H.out).mono ?_
    rintro e w1 ⟨rfl, hb1⟩
    have H1 := Lib.hid (H.out.keeps hb1)
    have HB1 : Hid (Below w.heap.size w w1) := HB0.out.trans (hb1.mono (by simp))
    obtain ⟨t0, t1, t2, _, _⟩ := HT.out.keeps hb1
    clear hb1
    go_wp2
    go_loop [3, 12] (fun v i => ∃ k : Nat, k ≤ xs.length ∧ i = .int .i64 (k : Int) ∧ v = .int .i64 (orN (xs.take k) : Int)) (fun _ i => xs.length - (intOf i).toNat)
    case atStart => exact ⟨0, Nat.zero_le _, rfl, rfl⟩
    case round =>
      obtain ⟨k, hk, rfl, rfl⟩ := hrel
      by_cases hlt : k < xs.length
      · obtain ⟨b0, o, rfl, g⟩ := H1.out k hlt
        obtain ⟨t, ht, ht64⟩ := isC_at HC.out k hlt
        have hu := orN_lt _ (allOk_take xs k (isC_ok HC.out))
        have hn := orN_take xs k hlt
        rw [ht] at g hn
        have ho := or_nat _ t hu ht64
        have e2 : (t : Int).toNat = t := rfl
        rw [e2] at hn
        have HN := Lib.hid hn
        clear hn ht e2
        generalize orN (xs.take k) = u at *
        go_wp2
        go_round
        case rel => exact ⟨k + 1, by omega, by go_num, by rw [HN.out]⟩
        case measure => simp [intOf]; omega
      · have E := Lib.hid (show k = xs.length by omega)
        go_wp2
        go_ret
        exact ⟨by rw [HF.out, E.out, List.take_length]; rfl, HB1.out⟩

set_option maxRecDepth 100000 in
set_option maxHeartbeats 2000000 in
theorem specUsed_any (n : Int) (a : Option Addr) (c : Nat) (xs : List Int) (hlen : xs.length ≤ 1099511627776) (w : World) (h : Ints w a xs) :
    Calls Try.prog 28 #[cx n (.slice a xs.length c)] w fun e w' => e = .returned (.int .i64 (used n xs)) ∧ Below w.heap.size w w' := by
  have hb0 : Below w.heap.size w (w.alloc (Obj.cells #[Value.int IntKind.i64 n, Value.slice a xs.length c] 26)) := (Below.refl _ _).alloc (Nat.le_refl _) _
  have htwo : Two (w.alloc (Obj.cells #[Value.int IntKind.i64 n, Value.slice a xs.length c] 26)) w.heap.size (.int .i64 n) (.slice a xs.length c) := Two.new _ _ _ _
  have H := Lib.hid (h.keeps hb0)
  have HB0 := Lib.hid hb0
  have HT := Lib.hid htwo
  clear h hb0 htwo
  cases hC : isC n xs with
  | false =>
    have HC := Lib.hid hC
    have HF := Lib.hid (used_no hC)
    clear hC
    obtain ⟨t0, t1, t2, _, _⟩ := HT.out
    by_cases h0 : 0 < xs.length
    · go_enter Try.func28, Try.ntmps28
      go_wp2
      refine wp_loop_rounds 1 ?_
      rw [rounds_succ]
      go_wp2_with fail
      refine (specIsC_b n _ _ xs false HC.out hlen _ H.out).mono ?_
      rintro e w1 ⟨rfl, hb1⟩
      go_wp2
      go_ret
      exact ⟨by rw [HF.out]; rfl, HB0.out.trans (hb1.mono (by simp))⟩
    · go_enter Try.func28, Try.ntmps28
      go_wp2
      refine wp_loop_rounds 1 ?_
      rw [rounds_succ]
      go_wp2
      go_ret
      exact ⟨by rw [HF.out]; rfl, HB0.out⟩
  | true =>
    have HC := Lib.hid hC
    have HF := Lib.hid (used_yes hC)
    clear hC
    go_enter Try.func28, Try.ntmps28
    go_wp2
    have hszW : w.heap.size ≤ (w.alloc (Obj.cells #[Value.int IntKind.i64 n, Value.slice a xs.length c] 26)).heap.size := by simp
    generalize (w.alloc (Obj.cells #[Value.int IntKind.i64 n, Value.slice a xs.length c] 26)) = W at *
    have HSZ := Lib.hid hszW
    clear hszW
    go_loopw [3, 4] (fun v i wr => ∃ k : Nat, k ≤ xs.length ∧ i = .int .i64 (k : Int) ∧ v = .int .i64 (orN (xs.take k) : Int) ∧ Below W.heap.size W wr) (fun _ i _ => xs.length - (intOf i).toNat)
    case atStart => exact ⟨0, Nat.zero_le _, rfl, rfl, Below.refl _ _⟩
    case round =>
      obtain ⟨k, hk, rfl, rfl, hB⟩ := hrel
      obtain ⟨t0, t1, t2, _, _⟩ := HT.out.keeps hB
      by_cases hlt : k < xs.length
      · have H1 := Lib.hid (H.out.keeps hB)
        obtain ⟨t, ht, ht64⟩ := isC_at HC.out k hlt
        have hu := orN_lt _ (allOk_take xs k (isC_ok HC.out))
        have hn := orN_take xs k hlt
        rw [ht] at hn
        have HTE := Lib.hid ht
        have ho := or_nat _ t hu ht64
        have e2 : (t : Int).toNat = t := rfl
        rw [e2] at hn
        have HN := Lib.hid hn
        clear hn ht e2
        generalize orN (xs.take k) = u at *
        go_wp2_with fail
        refine (specIsC_b n _ _ xs true HC.out hlen _ H1.out).mono ?_
        rintro e w1 ⟨rfl, hb1⟩
        have hB1 : Below W.heap.size W w1 := hB.trans (hb1.mono hB.size)
        obtain ⟨s0, s1, s2, _, _⟩ := HT.out.keeps hB1
        obtain ⟨b0, o, rfl, g⟩ := H1.out.keeps hb1 k hlt
        rw [HTE.out] at g
        clear hb1 t1 t2
        go_wp2
        go_roundw
        case rel => exact ⟨k + 1, by omega, by go_num, by rw [HN.out], hB1⟩
        case measure => simp [intOf]; omega
      · have E := Lib.hid (show k = xs.length by omega)
        go_wp2
        go_ret
        exact ⟨by rw [HF.out, E.out, List.take_length]; rfl, HB0.out.trans (hB.mono HSZ.out)⟩

/-! ### degrees -/

theorem deg_yes {n : Int} {xs : List Int} {s : Int} (h : isC n xs = true) (k : okZ s = true) : deg n xs s = (degN xs s.toNat : Int) := by unfold deg; rw [if_pos (by rw [h, k]; rfl)]
theorem deg_no {n : Int} {xs : List Int} {s : Int} (h : isC n xs = false) : deg n xs s = -1 := by unfold deg; rw [if_neg (by rw [h]; simp)]
theorem deg_no2 {n : Int} {xs : List Int} {s : Int} (h : okZ s = false) : deg n xs s = -1 := by unfold deg; rw [if_neg (by rw [h]; simp)]

set_option maxRecDepth 100000 in
theorem l1Bit_b (b : Bool) (w : World) : Calls Try.prog 60 #[.bool b] w fun e w' => e = .returned (.int .i64 (if b = true then 1 else 0)) ∧ w = w' := by
  cases b <;>
  · go_enter Try.func60, Try.ntmps60
    go_wp2
    go_ret
    exact ⟨rfl, rfl⟩

set_option maxRecDepth 100000 in
set_option maxHeartbeats 2000000 in
theorem implDegree_any (n : Int) (a : Option Addr) (c : Nat) (xs : List Int) (hcap : xs.length ≤ c) (hlen : xs.length ≤ 1099511627776) (s : Int) (w : World) (h : Ints w a xs) :
    Calls Try.prog 31 #[cx n (.slice a xs.length c), .int .i64 s] w fun e w' => e = .returned (.int .i64 (deg n xs s)) ∧ Below w.heap.size w w' := by
  have hb0 : Below w.heap.size w (w.alloc (Obj.cells #[Value.int IntKind.i64 n, Value.slice a xs.length c] 26)) := (Below.refl _ _).alloc (Nat.le_refl _) _
  have htwo : Two (w.alloc (Obj.cells #[Value.int IntKind.i64 n, Value.slice a xs.length c] 26)) w.heap.size (.int .i64 n) (.slice a xs.length c) := Two.new _ _ _ _
  have H := Lib.hid (h.keeps hb0)
  have HB0 := Lib.hid hb0
  have HT := Lib.hid htwo
  clear h hb0 htwo
  cases hC : isC n xs with
  | false =>
    have HC := Lib.hid hC
    have HF := Lib.hid (deg_no (s := s) hC)
    clear hC
    go_enter Try.func31, Try.ntmps31
    go_wp2_with fail
    refine (implIsC_b n _ _ xs hcap false HC.out hlen _ H.out).mono ?_
    rintro e w1 ⟨rfl, hb1⟩
    go_wp2
    go_ret
    exact ⟨by rw [HF.out]; rfl, HB0.out.trans (hb1.mono (by simp))⟩
  | true =>
    cases hz : okZ s with
    | false =>
      have HC := Lib.hid hC
      have HZ := Lib.hid hz
      have HF := Lib.hid (deg_no2 (n := n) (xs := xs) hz)
      clear hC hz
      go_enter Try.func31, Try.ntmps31
      go_wp2_with fail
      refine (implIsC_b n _ _ xs hcap true HC.out hlen _ H.out).mono ?_
      rintro e w1 ⟨rfl, hb1⟩
      go_wp2_with fail
      refine (isAny_b s false HZ.out _).mono ?_
      rintro e w' ⟨rfl, rfl⟩
      go_wp2
      go_ret
      exact ⟨by rw [HF.out]; rfl, HB0.out.trans (hb1.mono (by simp))⟩
    | true =>
      have HC := Lib.hid hC
      have HZ := Lib.hid hz
      have HF := Lib.hid (deg_yes hC hz)
      obtain ⟨u, rfl, hu⟩ := okZ_cast s hz
      have HU := Lib.hid hu
      clear hC hz
      go_enter Try.func31, Try.ntmps31
      go_wp2_with fail
      refine (implIsC_b n _ _ xs hcap true HC.out hlen _ H.out).mono ?_
      rintro e w1 ⟨rfl, hb1⟩
      have H1 := Lib.hid (H.out.keeps hb1)
      have HB1 : Hid (Below w.heap.size w w1) := HB0.out.trans (hb1.mono (by simp))
      obtain ⟨t0, t1, t2, _, _⟩ := HT.out.keeps hb1
      clear hb1
      go_wp2_with fail
      refine (isAny_b (u : Int) true HZ.out _).mono ?_
      rintro e w' ⟨rfl, rfl⟩
      go_wp2
      go_loop [5, 19] (fun v i => ∃ k : Nat, k ≤ xs.length ∧ i = .int .i64 (k : Int) ∧ v = .int .i64 (degN (xs.take k) u : Int)) (fun _ i => xs.length - (intOf i).toNat)
      case atStart => exact ⟨0, Nat.zero_le _, rfl, rfl⟩
      case round =>
        obtain ⟨k, hk, rfl, rfl⟩ := hrel
        by_cases hlt : k < xs.length
        · obtain ⟨b0, o, rfl, g⟩ := H1.out k hlt
          obtain ⟨t, ht, ht64⟩ := isC_at HC.out k hlt
          have hn := degN_take xs u k hlt
          have hdl := degN_le (xs.take k) u
          rw [List.length_take] at hdl
          rw [ht] at g hn
          have e2 : (t : Int).toNat = t := rfl
          rw [e2] at hn
          obtain ⟨bb, hbb⟩ : ∃ bb, sub u t = bb := ⟨_, rfl⟩
          rw [hbb] at hn
          have HBB := Lib.hid hbb
          have HN := Lib.hid hn
          clear hn ht e2 hbb
          generalize degN (xs.take k) u = d at *
          have hd : d ≤ xs.length := by omega
          cases bb with
          | false =>
            go_wp2_with fail
            refine (isSubset_any u t HU.out ht64 _).mono ?_
            rw [HBB.out]
            rintro e w' ⟨rfl, rfl⟩
            go_wp2
            go_round
            case rel => exact ⟨k + 1, by omega, by go_num, by rw [HN.out]; rfl⟩
            case measure => simp [intOf]; omega
          | true =>
            go_wp2_with fail
            refine (isSubset_any u t HU.out ht64 _).mono ?_
            rw [HBB.out]
            rintro e w' ⟨rfl, rfl⟩
            go_wp2
            go_round
            case rel => exact ⟨k + 1, by omega, by go_num, by rw [HN.out]; go_num⟩
            case measure => simp [intOf]; omega
        · have E := Lib.hid (show k = xs.length by omega)
          go_wp2
          go_ret
          exact ⟨by rw [HF.out, E.out, List.take_length]; rfl, HB1.out⟩

set_option maxRecDepth 100000 in
set_option maxHeartbeats 2000000 in
theorem specDegree_any (n : Int) (a : Option Addr) (c : Nat) (xs : List Int) (hlen : xs.length ≤ 1099511627776) (s : Int) (w : World) (h : Ints w a xs) :
    Calls Try.prog 32 #[cx n (.slice a xs.length c), .int .i64 s] w fun e w' => e = .returned (.int .i64 (deg n xs s)) ∧ Below w.heap.size w w' := by
  have hb0 : Below w.heap.size w (w.alloc (Obj.cells #[Value.int IntKind.i64 n, Value.slice a xs.length c] 26)) := (Below.refl _ _).alloc (Nat.le_refl _) _
  have htwo : Two (w.alloc (Obj.cells #[Value.int IntKind.i64 n, Value.slice a xs.length c] 26)) w.heap.size (.int .i64 n) (.slice a xs.length c) := Two.new _ _ _ _
  have H := Lib.hid (h.keeps hb0)
  have HB0 := Lib.hid hb0
  have HT := Lib.hid htwo
  clear h hb0 htwo
  cases hC : isC n xs with
  | false =>
    have HC := Lib.hid hC
    have HF := Lib.hid (deg_no (s := s) hC)
    clear hC
    go_enter Try.func32, Try.ntmps32
    go_wp2_with fail
    refine (specIsC_b n _ _ xs false HC.out hlen _ H.out).mono ?_
    rintro e w1 ⟨rfl, hb1⟩
    go_wp2
    go_ret
    exact ⟨by rw [HF.out]; rfl, HB0.out.trans (hb1.mono (by simp))⟩
  | true =>
    cases hz : okZ s with
    | false =>
      have HC := Lib.hid hC
      have HZ := Lib.hid hz
      have HF := Lib.hid (deg_no2 (n := n) (xs := xs) hz)
      clear hC hz
      go_enter Try.func32, Try.ntmps32
      go_wp2_with fail
      refine (specIsC_b n _ _ xs true HC.out hlen _ H.out).mono ?_
      rintro e w1 ⟨rfl, hb1⟩
      go_wp2_with fail
      refine (in_b s 0 63 false HZ.out _).mono ?_
      rintro e w' ⟨rfl, rfl⟩
      go_wp2
      go_ret
      exact ⟨by rw [HF.out]; rfl, HB0.out.trans (hb1.mono (by simp))⟩
    | true =>
      have HC := Lib.hid hC
      have HZ := Lib.hid hz
      have HF := Lib.hid (deg_yes hC hz)
      obtain ⟨u, rfl, hu⟩ := okZ_cast s hz
      have HU := Lib.hid hu
      clear hC hz
      go_enter Try.func32, Try.ntmps32
      go_wp2_with fail
      refine (specIsC_b n _ _ xs true HC.out hlen _ H.out).mono ?_
      rintro e w1 ⟨rfl, hb1⟩
      have H1 := Lib.hid (H.out.keeps hb1)
      have HB1 : Hid (Below w.heap.size w w1) := HB0.out.trans (hb1.mono (by simp))
      obtain ⟨t0, t1, t2, _, _⟩ := HT.out.keeps hb1
      clear hb1
      go_wp2_with fail
      refine (in_b (u : Int) 0 63 true HZ.out _).mono ?_
      rintro e w' ⟨rfl, rfl⟩
      go_wp2
      go_loop [5, 6] (fun v i => ∃ k : Nat, k ≤ xs.length ∧ i = .int .i64 (k : Int) ∧ v = .int .i64 (degN (xs.take k) u : Int)) (fun _ i => xs.length - (intOf i).toNat)
      case atStart => exact ⟨0, Nat.zero_le _, rfl, rfl⟩
      case round =>
        obtain ⟨k, hk, rfl, rfl⟩ := hrel
        by_cases hlt : k < xs.length
        · obtain ⟨b0, o, rfl, g⟩ := H1.out k hlt
          obtain ⟨t, ht, ht64⟩ := isC_at HC.out k hlt
          have hn := degN_take xs u k hlt
          have hdl := degN_le (xs.take k) u
          rw [List.length_take] at hdl
          rw [ht] at g hn
          have e2 : (t : Int).toNat = t := rfl
          rw [e2] at hn
          have ha := and_sub3 t u ht64 HU.out
          obtain ⟨bb, hbb⟩ : ∃ bb, sub u t = bb := ⟨_, rfl⟩
          rw [hbb] at hn ha
          have HN := Lib.hid hn
          clear hn ht e2 hbb
          generalize degN (xs.take k) u = d at *
          have hd : d ≤ xs.length := by omega
          cases bb with
          | false =>
            go_wp2_with fail
            refine (l1Bit_b false _).mono ?_
            rintro e w' ⟨rfl, rfl⟩
            go_wp2
            go_round
            case rel => exact ⟨k + 1, by omega, by go_num, by rw [HN.out]; go_num⟩
            case measure => simp [intOf]; omega
          | true =>
            go_wp2_with fail
            refine (l1Bit_b true _).mono ?_
            rintro e w' ⟨rfl, rfl⟩
            go_wp2
            go_round
            case rel => exact ⟨k + 1, by omega, by go_num, by rw [HN.out]; go_num⟩
            case measure => simp [intOf]; omega
        · have E := Lib.hid (show k = xs.length by omega)
          go_wp2
          go_ret
          exact ⟨by rw [HF.out, E.out, List.take_length]; rfl, HB1.out⟩

end Go.Proofs.Ytlggglegoonapaa
