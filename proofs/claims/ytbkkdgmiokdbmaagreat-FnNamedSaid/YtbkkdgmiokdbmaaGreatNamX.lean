/-
  BOUNDS of chapter 9's answers.
-/
import Derived.Test.YtbkkdgmiokdbmaaGreatJg18
import Derived.Test.YtbkkdgmiokdbmaaGreatJg11
namespace Go.Proofs.YtbkkdgmiokdbmaaGreat
open Go.RowKit
open Sets Nam

theorem ren_le (n : Int) (fs xs : List Int) : (oL (renCO n fs xs)).length ≤ 1048576 := by
  cases h : isC n fs with
  | false => rw [renCO_no1 h]; exact Nat.zero_le _
  | true =>
    cases h2 : nmsB n xs with
    | false => rw [renCO_no2 h2]; exact Nat.zero_le _
    | true =>
      rw [renCO_yes h h2]
      obtain ⟨m, rfl, _, _⟩ := isC_cast h
      have hn := (Nms.of h2).names
      rw [Int.toNat_natCast] at hn
      show (renL (toN xs) fs).length ≤ _
      rw [renL_length hn h]
      exact Nat.le_trans (isC_le h) (by decide)

end Go.Proofs.YtbkkdgmiokdbmaaGreat
