/-
  THE WALK of the law on FirstSets: the law's own text; spec's and impl's answers are premises.
-/
import Derived.Test.YtamoejjkaebhkaaHas
namespace Go.Proofs.Ytamoejjkaebhkaa
open Go.RowKit

set_option maxRecDepth 100000 in
set_option maxHeartbeats 4000000 in
theorem exactFirstSets_walk (aK : Int) (aM : Int) (w : World) (r0 : List Int)  (hr0 : r0.length ≤ 1048576)
    (hs : ∀ (w : World) ,  Calls Try.prog 24 #[.int .i64 aK, .int .i64 aM] w fun e w' => ∃ v0, e = .returned v0 ∧ HasInts w' w.heap.size v0 r0 ∧ Below w.heap.size w w')
    (hi : ∀ (w : World) ,  Calls Try.prog 23 #[.int .i64 aK, .int .i64 aM] w fun e w' => ∃ v0, e = .returned v0 ∧ HasInts w' w.heap.size v0 r0 ∧ Below w.heap.size w w') :
    Calls Try.prog 7 #[.int .i64 aK, .int .i64 aM] w fun e w' => e = .returned (.bool true) ∧ Below w.heap.size w w' := by
  have HS := Lib.hid hs
  have HI := Lib.hid hi
  clear hs hi
  go_enter Try.func7, Try.ntmps7
  go_wp2_with fail
  refine ((HS.out _ ).mono ?_)
  rintro e w1 ⟨v1_0, rfl, hO1_0, hb1⟩
  obtain ⟨a1_0, c1_0, g1_0, rfl, _, hg1_0, hr1_0, hd1_0⟩ := hO1_0.ata hb1.size
  try simp only [World.size_alloc] at hg1_0
  have F1_0 := Lib.hid hr1_0
  clear hO1_0 hr1_0
  have hz1 := hb1.size
  try simp only [World.size_alloc] at hz1
  have B1 : Hid (Below w.heap.size w w1) := hb1
  clear hb1
  go_wp2_with fail
  refine ((HI.out _ ).mono ?_)
  rintro e w2 ⟨v2_0, rfl, hO2_0, hb2⟩
  obtain ⟨a2_0, c2_0, g2_0, rfl, _, hg2_0, hr2_0, hd2_0⟩ := hO2_0.ata hb2.size
  try simp only [World.size_alloc] at hg2_0
  have F2_0 := Lib.hid hr2_0
  clear hO2_0 hr2_0
  have hz2 := hb2.size
  try simp only [World.size_alloc] at hz2
  have R1 := Lib.hid (F1_0.out.keeps hb2)
  have B2 : Hid (Below w.heap.size w w2) := B1.out.trans (hb2.mono (by first | omega | (simp only [World.size_alloc]; omega)))
  clear hb2
  go_wp2_with fail
  refine (eqInt_any _ _ _ _ r0 (by omega) _ F2_0.out.ints R1.out.ints).mono ?_
  rintro e w3 ⟨rfl, hb3⟩
  have hz3 := hb3.size
  try simp only [World.size_alloc] at hz3
  have R2 := Lib.hid (R1.out.keeps hb3)
  clear R1
  have R3 := Lib.hid (F2_0.out.keeps hb3)
  have B3 : Hid (Below w.heap.size w w3) := B2.out.trans (hb3.mono (by first | omega | (simp only [World.size_alloc]; omega)))
  clear hb3
  go_wp2_with fail
  refine (markInt_any _ _ _ r0 _ 1 (by first | rfl | omega) (by omega) (by omega) _ R3.out).mono ?_
  rintro e w4 ⟨rfl, hr4, hgb4⟩
  have M4 := Lib.hid hr4
  have G4 := Lib.hid hgb4
  clear hr4 hgb4
  clear R3
  have hz4 := G4.out.size
  try simp only [World.size_alloc] at hz4
  have R4 := Lib.hid (IntsAt.fars F1_0.out R2.out G4.out (by omega))
  clear R2
  have B4 : Hid (Below w.heap.size w w4) := B3.out.trans (Mem.below_of_but G4.out (by first | omega | (simp only [World.size_alloc]; omega)) (by first | omega | (simp only [World.size_alloc]; omega)))
  go_wp2_with fail
  refine (heldInt_any _ _ _ r0.length _ 1 (by first | rfl | omega) (by omega) (by omega) _ M4.out).mono ?_
  rintro e w5 ⟨rfl, hb5⟩
  have hz5 := hb5.size
  try simp only [World.size_alloc] at hz5
  have R5 := Lib.hid (R4.out.keeps hb5)
  clear R4
  have R6 := Lib.hid (M4.out.keeps hb5)
  clear M4
  have B5 : Hid (Below w.heap.size w w5) := B4.out.trans (hb5.mono (by first | omega | (simp only [World.size_alloc]; omega)))
  clear hb5
  go_wp2_with fail
  refine ((HI.out _ ).mono ?_)
  rintro e w6 ⟨v6_0, rfl, hO6_0, hb6⟩
  obtain ⟨a6_0, c6_0, g6_0, rfl, _, hg6_0, hr6_0, hd6_0⟩ := hO6_0.ata hb6.size
  try simp only [World.size_alloc] at hg6_0
  have F6_0 := Lib.hid hr6_0
  clear hO6_0 hr6_0
  have hz6 := hb6.size
  try simp only [World.size_alloc] at hz6
  have R7 := Lib.hid (R5.out.keeps hb6)
  clear R5
  have R8 := Lib.hid (R6.out.keeps hb6)
  clear R6
  have B6 : Hid (Below w.heap.size w w6) := B5.out.trans (hb6.mono (by first | omega | (simp only [World.size_alloc]; omega)))
  clear hb6
  go_wp2_with fail
  refine (eqInt_any _ _ _ _ r0 (by omega) _ F6_0.out.ints R7.out.ints).mono ?_
  rintro e w7 ⟨rfl, hb7⟩
  have hz7 := hb7.size
  try simp only [World.size_alloc] at hz7
  have R9 := Lib.hid (R7.out.keeps hb7)
  clear R7
  have R10 := Lib.hid (R8.out.keeps hb7)
  clear R8
  have R11 := Lib.hid (F6_0.out.keeps hb7)
  have B7 : Hid (Below w.heap.size w w7) := B6.out.trans (hb7.mono (by first | omega | (simp only [World.size_alloc]; omega)))
  clear hb7
  go_wp2_with fail
  refine (heldInt_any _ _ _ r0.length _ 1 (by first | rfl | omega) (by omega) (by omega) _ R10.out).mono ?_
  rintro e w8 ⟨rfl, hb8⟩
  have hz8 := hb8.size
  try simp only [World.size_alloc] at hz8
  have R12 := Lib.hid (R9.out.keeps hb8)
  clear R9
  have R13 := Lib.hid (R10.out.keeps hb8)
  clear R10
  have R14 := Lib.hid (R11.out.keeps hb8)
  clear R11
  have B8 : Hid (Below w.heap.size w w8) := B7.out.trans (hb8.mono (by first | omega | (simp only [World.size_alloc]; omega)))
  clear hb8
  go_wp2
  go_ret
  exact ⟨rfl, B8.out⟩

end Go.Proofs.Ytamoejjkaebhkaa
