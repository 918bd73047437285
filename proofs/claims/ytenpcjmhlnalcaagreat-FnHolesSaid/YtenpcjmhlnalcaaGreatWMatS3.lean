/-
  WALKS of chapter 13 (spec): products of matrices.
-/
import Derived.Test.YtenpcjmhlnalcaaGreatJg31
import Derived.Test.YtenpcjmhlnalcaaGreatWMatIA
namespace Go.Proofs.YtenpcjmhlnalcaaGreat
open Go.RowKit

/-- The first j numbers of the row i of a product. -/
def rowT (A B : Lin.Mat) (l i j : Nat) : List Int := (List.range j).map fun z => part A B l i z
theorem rowT_length (A B : Lin.Mat) (l i j : Nat) : (rowT A B l i j).length = j := by simp [rowT]
theorem rowT_next (A B : Lin.Mat) (l i j : Nat) : rowT A B l i (j + 1) = rowT A B l i j ++ [part A B l i j] := by unfold rowT; rw [List.range_succ, List.map_append]; rfl
/-- The first i rows of a product. -/
def matT (A B : Lin.Mat) (l n i : Nat) : Lin.Mat := (List.range i).map fun z => rowT A B l z n
theorem matT_length (A B : Lin.Mat) (l n i : Nat) : (matT A B l n i).length = i := by simp [matT]
theorem matT_next (A B : Lin.Mat) (l n i : Nat) : matT A B l n (i + 1) = matT A B l n i ++ [rowT A B l i n] := by unfold matT; rw [List.range_succ, List.map_append]; rfl
theorem matT_end (A B : Lin.Mat) : matT A B B.length (Lin.wid B) A.length = Lin.timesM (Lin.wid B) A B := rfl
theorem ok_no0 (l : Nat) : (true && (true && (decide (0 < l) && decide (0 = l)))) = false := by cases l <;> simp
theorem lit_mx (w wa : World) (base : Nat) (h : Below w.heap.size w wa) (hb : base ≤ w.heap.size) : OwnMx (wa.alloc (.cells #[] 24)) base (.slice (some ⟨wa.heap.size, 0, none⟩) 0 0) [] [] ∧ Below w.heap.size w (wa.alloc (.cells #[] 24)) :=
  ⟨OwnMx.lit wa base (Nat.le_trans hb h.size), h.alloc h.size _⟩

end Go.Proofs.YtenpcjmhlnalcaaGreat
