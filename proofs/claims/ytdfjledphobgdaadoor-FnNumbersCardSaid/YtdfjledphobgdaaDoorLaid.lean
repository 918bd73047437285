/-
  WHAT THE LISTED VARIABLES GIVE THE WALKS: the library's table of powers of ten and its two errors.
-/
import Derived.Test.YtdfjledphobgdaaDoorWParse
import Derived.Test.YtdfjledphobgdaaDoorRows
import Derived.Stop.LaidErr
import Derived.Lib.LaidTab
import Derived.LaidHandle
import Derived.MakeChecks
namespace Go.Proofs.YtdfjledphobgdaaDoor
open Go.RowKit

theorem tabType : (Tryd.prog.globals[0]?).map (·.type) = some 88 := by kernel_rfl
theorem synType : (Tryd.prog.globals[1]?).map (·.type) = some 53 := by kernel_rfl
theorem rngType : (Tryd.prog.globals[2]?).map (·.type) = some 53 := by kernel_rfl
theorem star : "*" ++ "errors.errorString" = "*errors.errorString" := by decide
theorem rowErr (u : TypeId) (h : Tryd.prog.typeName? 3 u = some "*errors.errorString") : u = 100 :=
  typeName_ptr_named (nm := "errors.errorString") (by rw [star]; kernel_rfl) (by kernel_rfl) (by decide) u (by rw [star]; exact h)

/-- The list of the rows on parsing. -/
def laid5 : List (String × DataW Unit) := [("math/bits.deBruijn32tab", Rows.laid_math_bits_deBruijn32tab), ("math/bits.deBruijn64tab", Rows.laid_math_bits_deBruijn64tab), ("internal/strconv.uint64pow10", Rows.laid_internal_strconv_uint64pow10), ("strconv.ErrRange", Rows.laid_strconv_ErrRange), ("strconv.ErrSyntax", Rows.laid_strconv_ErrSyntax)]

theorem laid_plain {W : World} (h : laidMetH Tryd.prog laid5 W) : laidMet Tryd.prog laid5 W := by
  rw [MakeChecks.laidMetH_plain _ _ _ (by kernel_rfl)] at h
  exact h

theorem laidTab {W : World} (h : laidMetH Tryd.prog laid5 W) : Tab W :=
  Lib.tabIs_of_head gTab tabType Tryd.underlying88 Tryd.underlying69 (by kernel_rfl) (by kernel_rfl) (laid_plain h).tail.tail

theorem laidErrs {W : World} (h : laidMetH Tryd.prog laid5 W) : Errs W := by
  have h5 := (laid_plain h).tail.tail.tail
  obtain ⟨a0, s0, hv0, -, -, -⟩ := laid_sentinel h5 gRng rngType Tryd.underlying53 rowErr Tryd.underlying100 Tryd.underlying102 rfl rfl Tryd.underlying9 (by kernel_rfl) (by kernel_rfl)
  obtain ⟨a1, s1, hv1, -, -, -⟩ := laid_sentinel h5.tail gSyn synType Tryd.underlying53 rowErr Tryd.underlying100 Tryd.underlying102 rfl rfl Tryd.underlying9 (by kernel_rfl) (by kernel_rfl)
  exact ⟨⟨_, _, hv1⟩, ⟨_, _, hv0⟩⟩

end Go.Proofs.YtdfjledphobgdaaDoor
