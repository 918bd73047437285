/-
  WALKS: the laws' own helpers on slices of strings: equal rows, the marks, what is held.
-/
import Derived.Test.YtpakjcagdnnedaaWNum
import Derived.Test.YtpakjcagdnnedaaStrRow
import Derived.Deep.QuietTactic
import Derived.BigQuiet
import Derived.BigRegion
import Derived.Deep.RegionHeld3
import Derived.WalkSmall
namespace Go.Proofs.Ytpakjcagdnnedaa
open Go.RowKit

/-- The mark of a number from 1 on. -/
def mk (k : Nat) : ByteArray := ⟨(109 :: Lib.decDigits k).toArray⟩
def marks (k n : Nat) : List ByteArray := (List.range n).map fun j => mk (k + j)
theorem marks_length (k n : Nat) : (marks k n).length = n := by simp [marks]
theorem marks_at (k n j : Nat) (h : j < n) : (marks k n).getD j ByteArray.empty = mk (k + j) := by
  simp [marks, List.getD, h]

/-! ### as the laws call them -/

end Go.Proofs.Ytpakjcagdnnedaa
