/-
  HOW LONG the facets of made complexes are.
-/
import Derived.Test.YtggpgannmmjcbaaWCx7
namespace Go.Proofs.Ytggpgannmmjcbaa
open Sets

theorem maximal_le (xs : List Int) : (maximal xs).length ≤ 64 := Nat.le_trans (best_length _ _) (order_le xs)
theorem made_le (n : Int) (xs : List Int) : (oL (made n xs)).length ≤ 1048576 := by
  unfold made
  split
  · have := maximal_le xs
    show (maximal xs).length ≤ 1048576
    omega
  · exact Nat.zero_le _
theorem full_le (n : Int) : (oL (full n)).length ≤ 1048576 := by
  unfold full
  split
  · show 1 ≤ 1048576; omega
  · exact Nat.zero_le _
theorem border_le (n : Int) : (oL (border n)).length ≤ 1048576 := by
  unfold border
  split
  · have := maximal_le (firsts (fun _ => true) (2 ^ n.toNat - 1))
    show (maximal _).length ≤ 1048576
    omega
  · exact Nat.zero_le _

end Go.Proofs.Ytggpgannmmjcbaa
