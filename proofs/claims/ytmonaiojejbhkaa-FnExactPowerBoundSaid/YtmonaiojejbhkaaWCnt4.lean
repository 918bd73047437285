/-
  WALKS of chapter 4: EulerOf by impl and by spec.
-/
import Derived.Test.YtmonaiojejbhkaaWCnt3
namespace Go.Proofs.Ytmonaiojejbhkaa
open Go.RowKit
open Sets

end Go.Proofs.Ytmonaiojejbhkaa
