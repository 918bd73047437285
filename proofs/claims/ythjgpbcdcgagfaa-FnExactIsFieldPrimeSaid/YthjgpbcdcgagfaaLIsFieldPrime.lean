/-
  THE WALK of the law on IsFieldPrime: the law's own text; spec's and impl's answers are premises.
-/
import Derived.Test.YthjgpbcdcgagfaaHas
namespace Go.Proofs.Ythjgpbcdcgagfaa
open Go.RowKit

set_option maxRecDepth 100000 in
set_option maxHeartbeats 4000000 in
theorem exactIsFieldPrime_walk (aP : Int) (w : World) (r0 : Bool)  
    (hs : ∀ (w : World) ,  Calls Try.prog 30 #[.int .i64 aP] w fun e w' => e = .returned (.bool r0) ∧ Below w.heap.size w w')
    (hi : ∀ (w : World) ,  Calls Try.prog 29 #[.int .i64 aP] w fun e w' => e = .returned (.bool r0) ∧ Below w.heap.size w w') :
    Calls Try.prog 5 #[.int .i64 aP] w fun e w' => e = .returned (.bool true) ∧ Below w.heap.size w w' := by
  have HS := Lib.hid hs
  have HI := Lib.hid hi
  clear hs hi
  go_enter Try.func5, Try.ntmps5
  go_wp2_with fail
  refine ((HS.out _ ).mono ?_)
  rintro e w1 ⟨rfl, hb1⟩
  have hz1 := hb1.size
  try simp only [World.size_alloc] at hz1
  have B1 : Hid (Below w.heap.size w w1) := hb1
  clear hb1
  go_wp2_with fail
  refine ((HI.out _ ).mono ?_)
  rintro e w2 ⟨rfl, hb2⟩
  have hz2 := hb2.size
  try simp only [World.size_alloc] at hz2
  have B2 : Hid (Below w.heap.size w w2) := B1.out.trans (hb2.mono (by first | omega | (simp only [World.size_alloc]; omega)))
  clear hb2
  go_wp2
  go_ret
  exact ⟨rfl, B2.out⟩

end Go.Proofs.Ythjgpbcdcgagfaa
