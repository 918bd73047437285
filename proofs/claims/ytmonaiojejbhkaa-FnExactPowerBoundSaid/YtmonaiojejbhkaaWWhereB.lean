/-
  WALKS: impl.setsWhere at a predicate that may make memory of its own.
-/
import Derived.Test.YtmonaiojejbhkaaWWhere
namespace Go.Proofs.Ytmonaiojejbhkaa
open Go.RowKit
open Sets

/-- What is asked of the predicate: at every set, in every later world, it answers p and keeps all that was there. -/
def PredB (g : Nat) (lb : Array Value) (p : Nat → Bool) (w : World) : Prop :=
  ∀ (W : World) (s : Nat), s < 64 → Below w.heap.size w W → Calls Try.prog g (#[.int .i64 (s : Int)] ++ lb) W fun e w' => e = .returned (.bool (p s)) ∧ Below W.heap.size W w'
theorem PredB.at {g : Nat} {lb : Array Value} {p : Nat → Bool} {w : World} (h : PredB g lb p w) (W : World) (s : Nat) (b : Bool) (hb : p s = b) (hs : s < 64) (hB : Below w.heap.size w W) :
    Calls Try.prog g (#[.int .i64 (s : Int)] ++ lb) W fun e w' => e = .returned (.bool b) ∧ Below W.heap.size W w' := by
  subst hb; exact h W s hs hB

end Go.Proofs.Ytmonaiojejbhkaa
