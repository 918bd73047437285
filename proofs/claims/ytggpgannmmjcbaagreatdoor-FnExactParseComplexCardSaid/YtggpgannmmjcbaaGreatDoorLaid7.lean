/-
  WHAT THE LISTED VARIABLES GIVE THE WALKS that read complexes: the table of powers of ten, the two errors, the bound.
-/
import Derived.Test.YtggpgannmmjcbaaGreatDoorWCxRead1
import Derived.Test.YtggpgannmmjcbaaGreatDoorRows
import Derived.Stop.LaidErr
import Derived.Lib.LaidTab
import Derived.LaidHandle
import Derived.MakeChecks
namespace Go.Proofs.YtggpgannmmjcbaaGreatDoor
open Go.RowKit

theorem tabType7 : (Tryz.prog.globals[5]?).map (·.type) = some 108 := by kernel_rfl
theorem synType7 : (Tryz.prog.globals[1]?).map (·.type) = some 63 := by kernel_rfl
theorem rngType7 : (Tryz.prog.globals[2]?).map (·.type) = some 63 := by kernel_rfl
theorem star7 : "*" ++ "errors.errorString" = "*errors.errorString" := by decide
theorem rowErr7 (u : TypeId) (h : Tryz.prog.typeName? 3 u = some "*errors.errorString") : u = 114 :=
  typeName_ptr_named (nm := "errors.errorString") (by rw [star7]; kernel_rfl) (by kernel_rfl) (by decide) u (by rw [star7]; exact h)

/-- The list of the rows on reading complexes. -/
def laid7 : List (String × DataW Unit) := [("math/bits.deBruijn32tab", Rows.laid_math_bits_deBruijn32tab), ("math/bits.deBruijn64tab", Rows.laid_math_bits_deBruijn64tab), ("internal/strconv.uint64pow10", Rows.laid_internal_strconv_uint64pow10), ("unicode/utf8.acceptRanges", Rows.laid_unicode_utf8_acceptRanges), ("strconv.ErrRange", Rows.laid_strconv_ErrRange), ("strconv.ErrSyntax", Rows.laid_strconv_ErrSyntax), ("unicode/utf8.first", Rows.laid_unicode_utf8_first)]

theorem laid_plain7 {W : World} (h : laidMetH Tryz.prog laid7 W) : laidMet Tryz.prog laid7 W := by
  rw [MakeChecks.laidMetH_plain _ _ _ (by kernel_rfl)] at h
  exact h

theorem laidTab7 {W : World} (h : laidMetH Tryz.prog laid7 W) : Tab W :=
  Lib.tabIs_of_head gTab tabType7 Tryz.underlying108 Tryz.underlying90 (by kernel_rfl) (by kernel_rfl) (laid_plain7 h).tail.tail

theorem laidErrs7 {W : World} (h : laidMetH Tryz.prog laid7 W) : Errs W := by
  have h5 := (laid_plain7 h).tail.tail.tail.tail
  obtain ⟨a0, s0, hv0, -, -, -⟩ := laid_sentinel h5 gRng rngType7 Tryz.underlying63 rowErr7 Tryz.underlying114 Tryz.underlying116 rfl rfl Tryz.underlying9 (by kernel_rfl) (by kernel_rfl)
  obtain ⟨a1, s1, hv1, -, -, -⟩ := laid_sentinel h5.tail gSyn synType7 Tryz.underlying63 rowErr7 Tryz.underlying114 Tryz.underlying116 rfl rfl Tryz.underlying9 (by kernel_rfl) (by kernel_rfl)
  exact ⟨⟨_, _, hv1⟩, ⟨_, _, hv0⟩⟩

theorem maxIs7 {W : World} (hsh : W.ShapedOpen Tryz.prog) : MaxIs W := Tryz.laysM146.s1_3 W hsh

theorem libIs7 {W : World} (h : laidMetH Tryz.prog laid7 W) (hsh : W.ShapedOpen Tryz.prog) : LibIs W := ⟨laidTab7 h, laidErrs7 h, maxIs7 hsh⟩

open Sets in
theorem specP_le (l : List UInt8) : (oL (specP l)).length ≤ 1048576 := by
  cases h : specP l with
  | none => simp [oL]
  | some c =>
    obtain ⟨n, xs⟩ := c
    have := isC_le ((specP_iff l n xs).1 h).1
    show xs.length ≤ 1048576
    omega

end Go.Proofs.YtggpgannmmjcbaaGreatDoor
