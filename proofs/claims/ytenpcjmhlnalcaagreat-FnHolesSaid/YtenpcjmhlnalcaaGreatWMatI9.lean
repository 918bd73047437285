/-
  WALKS of chapter 13 (impl): products of matrices.
-/
import Derived.Test.YtenpcjmhlnalcaaGreatJg31
namespace Go.Proofs.YtenpcjmhlnalcaaGreat
open Go.RowKit
open Lin (sm)

/-- The sum of the first k products. -/
def part (A B : Lin.Mat) (k i j : Nat) : Int := sm (List.range k) fun z => Lin.ent A i z * Lin.ent B z j
theorem part_next (A B : Lin.Mat) (k i j : Nat) : part A B (k + 1) i j = part A B k i j + Lin.ent A i k * Lin.ent B k j := by
  unfold part
  rw [List.range_succ, Hom.sm_append]
  show _ + (_ + 0) = _
  rw [Int.add_zero]
theorem prod_le {x y : Int} (hx : -1000 ≤ x ∧ x ≤ 1000) (hy : -1000 ≤ y ∧ y ≤ 1000) : -1000000 ≤ x * y ∧ x * y ≤ 1000000 := by
  have h1 : 0 ≤ (1000 - x) * (1000 - y) := Int.mul_nonneg (by omega) (by omega)
  have h2 : 0 ≤ (1000 + x) * (1000 + y) := Int.mul_nonneg (by omega) (by omega)
  have h3 : 0 ≤ (1000 - x) * (1000 + y) := Int.mul_nonneg (by omega) (by omega)
  have h4 : 0 ≤ (1000 + x) * (1000 - y) := Int.mul_nonneg (by omega) (by omega)
  have e1 : (1000 - x) * (1000 - y) = 1000000 - 1000 * x - 1000 * y + x * y := by grind
  have e2 : (1000 + x) * (1000 + y) = 1000000 + 1000 * x + 1000 * y + x * y := by grind
  have e3 : (1000 - x) * (1000 + y) = 1000000 - 1000 * x + 1000 * y - x * y := by grind
  have e4 : (1000 + x) * (1000 - y) = 1000000 + 1000 * x - 1000 * y - x * y := by grind
  omega
theorem partMx_le (A B : Lin.Mat) (i j l : Nat) (hA : ∀ z, z < l → -1000 ≤ Lin.ent A i z ∧ Lin.ent A i z ≤ 1000) (hB : ∀ z, z < l → -1000 ≤ Lin.ent B z j ∧ Lin.ent B z j ≤ 1000) : ∀ k, k ≤ l → -((k : Int) * 1000000) ≤ part A B k i j ∧ part A B k i j ≤ (k : Int) * 1000000
  | 0, _ => ⟨by unfold part; simp [sm], by unfold part; simp [sm]⟩
  | k + 1, hk => by
    have ih := partMx_le A B i j l hA hB k (by omega)
    have hp := prod_le (hA k (by omega)) (hB k (by omega))
    rw [part_next]
    have e : ((k + 1 : Nat) : Int) * 1000000 = (k : Int) * 1000000 + 1000000 := by omega
    omega
/-- The product while it is summed up: the rows ahead of i; of the row i the first k products, and of the next one the first j columns. -/
def timesTo (A B : Lin.Mat) (l i k j i' j' : Nat) : Int := if i' < i then part A B l i' j' else if i' = i then (if j' < j then part A B (k + 1) i' j' else part A B k i' j') else 0
theorem timesTo_start (A B : Lin.Mat) (l i' j' : Nat) : (0 : Int) = timesTo A B l 0 0 0 i' j' := by
  unfold timesTo
  rw [if_neg (by omega), if_neg (by omega : ¬j' < 0)]
  split <;> rfl
theorem timesTo_col (A B : Lin.Mat) (l i k n i' j' : Nat) (hj : j' < n) : timesTo A B l i k n i' j' = timesTo A B l i (k + 1) 0 i' j' := by
  unfold timesTo
  rw [if_pos hj, if_neg (by omega : ¬j' < 0)]
theorem timesTo_row (A B : Lin.Mat) (l i i' j' : Nat) : timesTo A B l i l 0 i' j' = timesTo A B l (i + 1) 0 0 i' j' := by
  unfold timesTo
  rw [if_neg (by omega : ¬j' < 0), if_neg (by omega : ¬j' < 0)]
  by_cases h : i' < i
  · rw [if_pos h, if_pos (by omega)]
  · rw [if_neg h]
    by_cases h2 : i' = i
    · rw [if_pos h2, if_pos (by omega)]
    · rw [if_neg h2, if_neg (by omega)]
      split <;> rfl
theorem timesTo_end (A B : Lin.Mat) (l i k j i' j' : Nat) (h : i' < i) : timesTo A B l i k j i' j' = part A B l i' j' := if_pos h
theorem timesTo_old (A B : Lin.Mat) (l i k j : Nat) : timesTo A B l i k j i j = part A B k i j := by
  unfold timesTo; rw [if_neg (by omega), if_pos rfl, if_neg (by omega)]
theorem timesTo_new (A B : Lin.Mat) (l i k j : Nat) : timesTo A B l i k (j + 1) i j = part A B k i j + Lin.ent A i k * Lin.ent B k j := by
  unfold timesTo; rw [if_neg (by omega), if_pos rfl, if_pos (by omega), part_next]
theorem timesTo_same (A B : Lin.Mat) (l i k j i' j' : Nat) (h : ¬(i' = i ∧ j' = j)) : timesTo A B l i k (j + 1) i' j' = timesTo A B l i k j i' j' := by
  unfold timesTo
  split
  · rfl
  · split
    · by_cases h2 : j' < j
      · rw [if_pos h2, if_pos (by omega)]
      · rw [if_neg h2, if_neg (by omega)]
    · rfl

end Go.Proofs.YtenpcjmhlnalcaaGreat
