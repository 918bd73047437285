/-
  THE WALK of the law on ParseSet: the law's own text; spec's and impl's answers are premises.
-/
import Derived.Test.YtpcafdambgingaaInts
namespace Go.Proofs.Ytpcafdambgingaa
open Go.RowKit

set_option maxRecDepth 100000 in
set_option maxHeartbeats 4000000 in
theorem exactParseSet_walk (aText : ByteArray) (w : World) (r0 : Int) (r1 : Bool)  
    (hs : ∀ (w : World) , aText.size ≤ 1048576 → Calls Try.prog 19 #[.string aText] w fun e w' => e = .returned (.tuple #[.int .i64 r0, .bool r1]) ∧ Below w.heap.size w w')
    (hi : ∀ (w : World) , aText.size ≤ 1048576 → Calls Try.prog 18 #[.string aText] w fun e w' => e = .returned (.tuple #[.int .i64 r0, .bool r1]) ∧ Below w.heap.size w w') :
    Calls Try.prog 13 #[.string aText] w fun e w' => e = .returned (.bool true) ∧ Below w.heap.size w w' := by
  have HS := Lib.hid hs
  have HI := Lib.hid hi
  clear hs hi
  by_cases hbigaText : 1048576 < (aText.size : Int)
  · go_enter Try.func13, Try.ntmps13
    go_wp2
    go_ret
    exact ⟨rfl, Below.refl _ _⟩
  have hsaText : aText.size ≤ 1048576 := by omega
  go_enter Try.func13, Try.ntmps13
  go_wp2_with fail
  refine ((HS.out _ hsaText).mono ?_)
  rintro e w1 ⟨rfl, hb1⟩
  have hz1 := hb1.size
  have B1 : Hid (Below w.heap.size w w1) := hb1
  clear hb1
  go_wp2_with fail
  refine ((HI.out _ hsaText).mono ?_)
  rintro e w2 ⟨rfl, hb2⟩
  have hz2 := hb2.size
  have B2 : Hid (Below w.heap.size w w2) := B1.out.trans (hb2.mono (by omega))
  clear hb2
  go_wp2
  go_ret
  exact ⟨rfl, B2.out⟩

end Go.Proofs.Ytpcafdambgingaa
