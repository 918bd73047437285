/-
  THE WALK of the law on AreMonomialCounts: the law's own text; spec's and impl's answers are premises.
-/
import Derived.Test.YtmonaiojejbhkaaHas
namespace Go.Proofs.Ytmonaiojejbhkaa
open Go.RowKit

set_option maxRecDepth 100000 in
set_option maxHeartbeats 4000000 in
theorem exactAreMonomialCounts_walk (paList : Option Addr) (caList : Nat) (xaList : List Int) (w : World) (r0 : Bool) (hlenaList : xaList.length ≤ 9223372036854775807) (haList : Ints w paList xaList) 
    (hs : ∀ (w : World) (qaList : Option Addr) (daList : Nat), xaList.length ≤ 1048576 → Ints w qaList xaList → Calls Try.prog 20 #[.slice qaList xaList.length daList] w fun e w' => e = .returned (.bool r0) ∧ Below w.heap.size w w')
    (hi : ∀ (w : World) (qaList : Option Addr) (daList : Nat), xaList.length ≤ 1048576 → Ints w qaList xaList → Calls Try.prog 19 #[.slice qaList xaList.length daList] w fun e w' => e = .returned (.bool r0) ∧ Below w.heap.size w w') :
    Calls Try.prog 5 #[.slice paList xaList.length caList] w fun e w' => e = .returned (.bool true) ∧ Below w.heap.size w w' := by
  have HS := Lib.hid hs
  have HI := Lib.hid hi
  clear hs hi
  have HaList := Lib.hid haList
  clear haList
  by_cases hbigaList : 1048576 < (xaList.length : Int)
  · go_enter Try.func5, Try.ntmps5
    go_wp2
    go_ret
    exact ⟨rfl, Below.refl _ _⟩
  have hsaList : xaList.length ≤ 1048576 := by omega
  go_enter Try.func5, Try.ntmps5
  go_wp2_with fail
  refine (toInt_any _ _ xaList hsaList _ HaList.out).mono ?_
  rintro e w1 ⟨rfl, hlt1, hr1, hb1⟩
  try simp only [World.size_alloc] at hlt1 hr1
  have F1 := Lib.hid hr1
  clear hr1
  have hz1 := hb1.size
  try simp only [World.size_alloc] at hz1
  have B1 : Hid (Below w.heap.size w w1) := hb1
  clear hb1
  go_wp2_with fail
  refine ((HS.out _ _ _ hsaList F1.out.ints).mono ?_)
  rintro e w2 ⟨rfl, hb2⟩
  have hz2 := hb2.size
  try simp only [World.size_alloc] at hz2
  have B2 : Hid (Below w.heap.size w w2) := B1.out.trans (hb2.mono (by first | omega | (simp only [World.size_alloc]; omega)))
  clear hb2
  go_wp2_with fail
  refine (toInt_any _ _ xaList hsaList _ (HaList.out.keeps B2.out)).mono ?_
  rintro e w3 ⟨rfl, hlt3, hr3, hb3⟩
  try simp only [World.size_alloc] at hlt3 hr3
  have F3 := Lib.hid hr3
  clear hr3
  have hz3 := hb3.size
  try simp only [World.size_alloc] at hz3
  have B3 : Hid (Below w.heap.size w w3) := B2.out.trans (hb3.mono (by first | omega | (simp only [World.size_alloc]; omega)))
  clear hb3
  go_wp2_with fail
  refine ((HI.out _ _ _ hsaList F3.out.ints).mono ?_)
  rintro e w4 ⟨rfl, hb4⟩
  have hz4 := hb4.size
  try simp only [World.size_alloc] at hz4
  have R2 := Lib.hid (F3.out.keeps hb4)
  have B4 : Hid (Below w.heap.size w w4) := B3.out.trans (hb4.mono (by first | omega | (simp only [World.size_alloc]; omega)))
  clear hb4
  go_wp2_with fail
  refine (toInt_any _ _ xaList hsaList _ (HaList.out.keeps B4.out)).mono ?_
  rintro e w5 ⟨rfl, hlt5, hr5, hb5⟩
  try simp only [World.size_alloc] at hlt5 hr5
  have F5 := Lib.hid hr5
  clear hr5
  have hz5 := hb5.size
  try simp only [World.size_alloc] at hz5
  have R4 := Lib.hid (R2.out.keeps hb5)
  clear R2
  have B5 : Hid (Below w.heap.size w w5) := B4.out.trans (hb5.mono (by first | omega | (simp only [World.size_alloc]; omega)))
  clear hb5
  go_wp2_with fail
  refine (eqInt_any _ _ _ _ xaList (by omega) _ R4.out.ints F5.out.ints).mono ?_
  rintro e w6 ⟨rfl, hb6⟩
  have hz6 := hb6.size
  try simp only [World.size_alloc] at hz6
  have R5 := Lib.hid (R4.out.keeps hb6)
  clear R4
  have B6 : Hid (Below w.heap.size w w6) := B5.out.trans (hb6.mono (by first | omega | (simp only [World.size_alloc]; omega)))
  clear hb6
  go_wp2
  go_ret
  exact ⟨rfl, B6.out⟩

end Go.Proofs.Ytmonaiojejbhkaa
