/-
  WHAT THE LISTED VARIABLES GIVE THE WALKS that print numbers: the library's table of powers of ten.
-/
import Derived.Test.YtggpgannmmjcbaaDoorWFmt
import Derived.Test.YtggpgannmmjcbaaDoorRows
import Derived.Lib.LaidTab
import Derived.Stop.LaidErr
import Derived.LaidHandle
import Derived.MakeChecks
namespace Go.Proofs.YtggpgannmmjcbaaDoor
open Go.RowKit

theorem tabType3 : (Tryd.prog.globals[0]?).map (·.type) = some 68 := by kernel_rfl
/-- The list of the rows on printing. -/
def laid3 : List (String × DataW Unit) := [("math/bits.deBruijn32tab", Rows.laid_math_bits_deBruijn32tab), ("math/bits.deBruijn64tab", Rows.laid_math_bits_deBruijn64tab), ("internal/strconv.uint64pow10", Rows.laid_internal_strconv_uint64pow10)]
theorem laid_plain3 {W : World} (h : laidMetH Tryd.prog laid3 W) : laidMet Tryd.prog laid3 W := by
  rw [MakeChecks.laidMetH_plain _ _ _ (by kernel_rfl)] at h
  exact h
theorem laidTab3 {W : World} (h : laidMetH Tryd.prog laid3 W) : Tab W :=
  Lib.tabIs_of_head (rest := []) gTab tabType3 Tryd.underlying68 Tryd.underlying59 (by kernel_rfl) (by kernel_rfl) (laid_plain3 h).tail.tail

end Go.Proofs.YtggpgannmmjcbaaDoor
