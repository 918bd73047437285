/-
  BOUNDS of chapter 9's answers: classes.
-/
import Derived.Test.YtbkkdgmiokdbmaaGreatWNamSD
namespace Go.Proofs.YtbkkdgmiokdbmaaGreat
open Go.RowKit
open Sets Nam

theorem clsO_le (n : Int) (xs : List Int) : (clsO n xs).length ≤ 1048576 := by
  cases h : isC n xs with
  | false => rw [clsO_no h]; exact Nat.zero_le _
  | true =>
    rw [clsO_yes h]
    obtain ⟨m, rfl, _, h6⟩ := isC_cast h
    rw [Int.toNat_natCast]
    exact Nat.le_trans (clsU_le m xs m) (by omega)

end Go.Proofs.YtbkkdgmiokdbmaaGreat
