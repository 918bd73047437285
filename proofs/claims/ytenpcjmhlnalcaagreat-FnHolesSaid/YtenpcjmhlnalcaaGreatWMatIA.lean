/-
  WALK of chapter 13 (impl): TimesMatrix.
-/
import Derived.Test.YtenpcjmhlnalcaaGreatWMatI9
namespace Go.Proofs.YtenpcjmhlnalcaaGreat
open Go.RowKit

def timesOk (A B : Lin.Mat) : Bool := fitB A && (fitB B && (decide (0 < B.length) && decide (Lin.wid A = B.length)))
/-- The product; none where it isn't asked for. -/
def timesZ (A B : Lin.Mat) : Lin.Mat := if timesOk A B = true then Lin.timesM (Lin.wid B) A B else []
theorem timesZ_no {A B : Lin.Mat} (h : timesOk A B = false) : timesZ A B = [] := if_neg (by rw [h]; simp)

end Go.Proofs.YtenpcjmhlnalcaaGreat
