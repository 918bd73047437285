/-
  WALKS of chapter 4: FaceCounts and EulerOf by impl; EulerOf and FacesOfSize by spec.
-/
import Derived.Test.YtmonaiojejbhkaaWCnt2
namespace Go.Proofs.Ytmonaiojejbhkaa
open Go.RowKit
open Sets

theorem faces_ok (n : Int) (xs : List Int) : allOk (faces n xs) = true := by
  unfold allOk
  rw [List.all_eq_true]
  intro x hx
  obtain ⟨j, hj, rfl⟩ := List.mem_iff_getElem.1 hx
  obtain ⟨s, hs, hs64⟩ := faces_at n xs j hj
  rw [List.getD, List.getElem?_eq_getElem hj] at hs
  have hs : (faces n xs)[j] = (s : Int) := hs
  rw [hs]; exact (okZ_nat s).2 hs64

theorem intSize (w : World) : (sizeOf 3).run Try.prog w = .ok 1 w := by
  have hi : (Try.prog.info? 3).map (·.size) = some 1 := by kernel_rfl
  cases hq : Try.prog.info? 3 with
  | none => rw [hq] at hi; cases hi
  | some i =>
    rw [hq] at hi
    have : i.size = 1 := by simpa using hi
    simp [sizeOf, typeInfo, hq, this]

end Go.Proofs.Ytmonaiojejbhkaa
