/-
  WALKS: spec.MaximalSets and spec.MinimalSets.
-/
import Derived.Test.YtggpgannmmjcbaaGreatDoorWSpecOrder
import Derived.Test.YtggpgannmmjcbaaGreatDoorWBest
namespace Go.Proofs.YtggpgannmmjcbaaGreatDoor
open Go.RowKit
open Sets

theorem any_next (r : Nat → Nat → Bool) (L : List Int) (n s : Nat) (h : n < L.length) : (L.take (n + 1)).any (beatsQ r (s : Int)) = ((L.take n).any (beatsQ r (s : Int)) || beatsQ r (s : Int) (L.getD n 0)) := by
  rw [List.take_succ_eq_append_getElem h, List.any_append, List.getD, List.getElem?_eq_getElem h]
  simp
theorem and_sub3 : ∀ a b : Nat, a < 64 → b < 64 → (bits BinOp.and IntKind.i64 (a : Int) (b : Int) == (b : Int)) = sub b a := by
  refine fin64b ?_
  decide +kernel

end Go.Proofs.YtggpgannmmjcbaaGreatDoor
