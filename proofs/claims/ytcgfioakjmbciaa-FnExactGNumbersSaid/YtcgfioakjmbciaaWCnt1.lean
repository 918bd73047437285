/-
  WALKS of chapter 4: DimOf, IsSimplex, UsedPoints, DegreeOf, by impl and by spec.
-/
import Derived.Test.YtcgfioakjmbciaaWCx5
import Derived.Test.YtcgfioakjmbciaaCnt
namespace Go.Proofs.Ytcgfioakjmbciaa
open Go.RowKit
open Sets

theorem l2Size_b (s p : Nat) (hp : pc s = p) (hs : s < 64) (w : World) : Calls Try.prog 55 #[.int .i64 (s : Int)] w fun e w' => e = .returned (.int .i64 (p : Int)) ∧ w = w' := by
  subst hp; exact l2Size_any s hs w

theorem implIsC_len (n : Int) (a : Option Addr) (c : Nat) (xs : List Int) (l : Nat) (hl : xs.length = l) (hcap : l ≤ c) (b : Bool) (hb : isC n xs = b) (hlen : l ≤ 1099511627776) (w : World) (h : Ints w a xs) :
    Calls Try.prog 71 #[cx n (.slice a l c)] w fun e w' => e = .returned (.bool b) ∧ Below w.heap.size w w' := by
  subst hl; exact implIsC_b n a c xs hcap b hb hlen w h

theorem specIsC_len (n : Int) (a : Option Addr) (c : Nat) (xs : List Int) (l : Nat) (hl : xs.length = l) (b : Bool) (hb : isC n xs = b) (hlen : l ≤ 1099511627776) (w : World) (h : Ints w a xs) :
    Calls Try.prog 68 #[cx n (.slice a l c)] w fun e w' => e = .returned (.bool b) ∧ Below w.heap.size w w' := by
  subst hl; exact specIsC_b n a c xs b hb hlen w h

set_option maxRecDepth 100000 in
set_option maxHeartbeats 2000000 in
theorem implDim_any (n : Int) (a : Option Addr) (c : Nat) (xs : List Int) (hcap : xs.length ≤ c) (hlen : xs.length ≤ 1099511627776) (w : World) (h : Ints w a xs) :
    Calls Try.prog 59 #[cx n (.slice a xs.length c)] w fun e w' => e = .returned (.int .i64 (dimZ n xs)) ∧ Below w.heap.size w w' := by
  have hb0 : Below w.heap.size w (w.alloc (Obj.cells #[Value.int IntKind.i64 n, Value.slice a xs.length c] 26)) := (Below.refl _ _).alloc (Nat.le_refl _) _
  have htwo : Two (w.alloc (Obj.cells #[Value.int IntKind.i64 n, Value.slice a xs.length c] 26)) w.heap.size (.int .i64 n) (.slice a xs.length c) := Two.new _ _ _ _
  have H := Lib.hid (h.keeps hb0)
  have HB0 := Lib.hid hb0
  have HT := Lib.hid htwo
  clear h hb0 htwo
  cases hC : isC n xs with
  | false =>
    have HC := Lib.hid hC
    have HF := Lib.hid (dimZ_no hC)
    clear hC
    go_enter Try.func59, Try.ntmps59
    go_wp2_with fail
    refine (implIsC_b n _ _ xs hcap false HC.out hlen _ H.out).mono ?_
    rintro e w1 ⟨rfl, hb1⟩
    obtain ⟨t0, t1, t2, _, _⟩ := HT.out.keeps hb1
    go_wp2
    go_ret
    exact ⟨by rw [HF.out]; rfl, HB0.out.trans (hb1.mono (by simp))⟩
  | true =>
    have HC := Lib.hid hC
    obtain ⟨l, hl⟩ : ∃ l, xs.length = l := ⟨_, rfl⟩
    have HL := Lib.hid hl
    rw [hl] at hcap hlen HT HB0 H ⊢
    cases l with
    | zero =>
      have HF : Hid (dimZ n xs = -2) := by
        have : dimZ n xs = -2 := by rw [List.eq_nil_of_length_eq_zero hl]; exact dimZ_nil n
        exact this
      clear hC hl
      go_enter Try.func59, Try.ntmps59
      go_wp2_with fail
      refine (implIsC_len n _ _ xs 0 HL.out hcap true HC.out hlen _ H.out).mono ?_
      rintro e w1 ⟨rfl, hb1⟩
      obtain ⟨t0, t1, t2, _, _⟩ := HT.out.keeps hb1
      go_wp2
      go_ret
      exact ⟨by rw [HF.out]; rfl, HB0.out.trans (hb1.mono (by simp))⟩
    | succ m =>
      obtain ⟨s, hs, hs64⟩ := isC_at hC m (by omega)
      have HF : Hid (dimZ n xs = (pc s : Int) - 1) := by
        have : dimZ n xs = (pc s : Int) - 1 := by rw [dimZ_yes hC (by omega), hl, Nat.add_sub_cancel, hs]; rfl
        exact this
      have HS := Lib.hid hs
      have hps := pc_le s
      have hz : (((m + 1 : Nat) : Int) == 0) = false := by simp; omega
      clear hC hs hl
      go_enter Try.func59, Try.ntmps59
      go_wp2_with fail
      refine (implIsC_len n _ _ xs (m + 1) HL.out hcap true HC.out hlen _ H.out).mono ?_
      rintro e w1 ⟨rfl, hb1⟩
      obtain ⟨t0, t1, t2, _, _⟩ := HT.out.keeps hb1
      obtain ⟨b0, o, rfl, g⟩ := H.out.keeps hb1 m (by rw [HL.out]; omega)
      rw [HS.out] at g
      go_wp2_with fail
      refine (implSizeOf_nat s hs64 _).mono ?_
      rintro e w' ⟨rfl, rfl⟩
      go_wp2
      go_ret
      exact ⟨by rw [HF.out]; rfl, HB0.out.trans (hb1.mono (by simp))⟩

/-! ### used points -/

theorem or_nat : ∀ a b : Nat, a < 64 → b < 64 → bits BinOp.or IntKind.i64 (a : Int) (b : Int) = ((a ||| b : Nat) : Int) := by
  refine fin64b ?_
  decide +kernel
theorem used_yes {n : Int} {xs : List Int} (h : isC n xs = true) : used n xs = (orN xs : Int) := by unfold used; rw [if_pos h]
theorem used_no {n : Int} {xs : List Int} (h : isC n xs = false) : used n xs = 0 := by unfold used; rw [if_neg (by rw [h]; simp)]

/-! ### degrees -/

theorem deg_yes {n : Int} {xs : List Int} {s : Int} (h : isC n xs = true) (k : okZ s = true) : deg n xs s = (degN xs s.toNat : Int) := by unfold deg; rw [if_pos (by rw [h, k]; rfl)]
theorem deg_no {n : Int} {xs : List Int} {s : Int} (h : isC n xs = false) : deg n xs s = -1 := by unfold deg; rw [if_neg (by rw [h]; simp)]
theorem deg_no2 {n : Int} {xs : List Int} {s : Int} (h : okZ s = false) : deg n xs s = -1 := by unfold deg; rw [if_neg (by rw [h]; simp)]

set_option maxRecDepth 100000 in
theorem l1Bit_b (b : Bool) (w : World) : Calls Try.prog 46 #[.bool b] w fun e w' => e = .returned (.int .i64 (if b = true then 1 else 0)) ∧ w = w' := by
  cases b <;>
  · go_enter Try.func46, Try.ntmps46
    go_wp2
    go_ret
    exact ⟨rfl, rfl⟩

end Go.Proofs.Ytcgfioakjmbciaa
