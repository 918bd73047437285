/-
  THE WALK of the law on SetText: the law's own text; spec's and impl's answers are premises.
-/
import Derived.Test.YtpcafdambgingaaInts
namespace Go.Proofs.Ytpcafdambgingaa
open Go.RowKit

set_option maxRecDepth 100000 in
set_option maxHeartbeats 4000000 in
theorem exactSetText_walk (aS : Int) (w : World) (r0 : ByteArray)  
    (hs : ∀ (w : World) ,  Calls Try.prog 42 #[.int .i64 aS] w fun e w' => e = .returned (.string r0) ∧ Below w.heap.size w w')
    (hi : ∀ (w : World) ,  Calls Try.prog 41 #[.int .i64 aS] w fun e w' => e = .returned (.string r0) ∧ Below w.heap.size w w') :
    Calls Try.prog 12 #[.int .i64 aS] w fun e w' => e = .returned (.bool true) ∧ Below w.heap.size w w' := by
  have HS := Lib.hid hs
  have HI := Lib.hid hi
  clear hs hi
  go_enter Try.func12, Try.ntmps12
  go_wp2_with fail
  refine ((HS.out _ ).mono ?_)
  rintro e w1 ⟨rfl, hb1⟩
  have hz1 := hb1.size
  have B1 : Hid (Below w.heap.size w w1) := hb1
  clear hb1
  go_wp2_with fail
  refine ((HI.out _ ).mono ?_)
  rintro e w2 ⟨rfl, hb2⟩
  have hz2 := hb2.size
  have B2 : Hid (Below w.heap.size w w2) := B1.out.trans (hb2.mono (by omega))
  clear hb2
  go_wp2
  go_ret
  exact ⟨rfl, B2.out⟩

end Go.Proofs.Ytpcafdambgingaa
