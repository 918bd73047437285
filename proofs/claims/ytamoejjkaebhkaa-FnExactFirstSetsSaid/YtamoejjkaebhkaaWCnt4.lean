/-
  WALKS of chapter 4: EulerOf by impl and by spec.
-/
import Derived.Test.YtamoejjkaebhkaaWCnt3
namespace Go.Proofs.Ytamoejjkaebhkaa
open Go.RowKit
open Sets

end Go.Proofs.Ytamoejjkaebhkaa
