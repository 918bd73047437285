/-
  THE WALK of the law on CountsFromH: the law's own text; spec's and impl's answers are premises.
-/
import Derived.Test.YtcgfioakjmbciaaHas
namespace Go.Proofs.Ytcgfioakjmbciaa
open Go.RowKit

set_option maxRecDepth 100000 in
set_option maxHeartbeats 4000000 in
theorem exactCountsFromH_walk (paH : Option Addr) (caH : Nat) (xaH : List Int) (w : World) (r0 : List Int) (hlenaH : xaH.length ≤ 9223372036854775807) (haH : Ints w paH xaH) (hr0 : r0.length ≤ 1048576)
    (hs : ∀ (w : World) (qaH : Option Addr) (daH : Nat), xaH.length ≤ 1048576 → Ints w qaH xaH → Calls Try.prog 19 #[.slice qaH xaH.length daH] w fun e w' => ∃ v0, e = .returned v0 ∧ HasInts w' w.heap.size v0 r0 ∧ Below w.heap.size w w')
    (hi : ∀ (w : World) (qaH : Option Addr) (daH : Nat), xaH.length ≤ 1048576 → Ints w qaH xaH → Calls Try.prog 18 #[.slice qaH xaH.length daH] w fun e w' => ∃ v0, e = .returned v0 ∧ HasInts w' w.heap.size v0 r0 ∧ Below w.heap.size w w') :
    Calls Try.prog 6 #[.slice paH xaH.length caH] w fun e w' => e = .returned (.bool true) ∧ Below w.heap.size w w' := by
  have HS := Lib.hid hs
  have HI := Lib.hid hi
  clear hs hi
  have HaH := Lib.hid haH
  clear haH
  by_cases hbigaH : 1048576 < (xaH.length : Int)
  · go_enter Try.func6, Try.ntmps6
    go_wp2
    go_ret
    exact ⟨rfl, Below.refl _ _⟩
  have hsaH : xaH.length ≤ 1048576 := by omega
  go_enter Try.func6, Try.ntmps6
  go_wp2_with fail
  refine (toInt_any _ _ xaH hsaH _ HaH.out).mono ?_
  rintro e w1 ⟨rfl, hlt1, hr1, hb1⟩
  try simp only [World.size_alloc] at hlt1 hr1
  have F1 := Lib.hid hr1
  clear hr1
  have hz1 := hb1.size
  try simp only [World.size_alloc] at hz1
  have B1 : Hid (Below w.heap.size w w1) := hb1
  clear hb1
  go_wp2_with fail
  refine ((HS.out _ _ _ hsaH F1.out.ints).mono ?_)
  rintro e w2 ⟨v2_0, rfl, hO2_0, hb2⟩
  obtain ⟨a2_0, c2_0, g2_0, rfl, _, hg2_0, hr2_0, hd2_0⟩ := hO2_0.ata hb2.size
  try simp only [World.size_alloc] at hg2_0
  have F2_0 := Lib.hid hr2_0
  clear hO2_0 hr2_0
  have hz2 := hb2.size
  try simp only [World.size_alloc] at hz2
  have B2 : Hid (Below w.heap.size w w2) := B1.out.trans (hb2.mono (by first | omega | (simp only [World.size_alloc]; omega)))
  clear hb2
  go_wp2_with fail
  refine (toInt_any _ _ xaH hsaH _ (HaH.out.keeps B2.out)).mono ?_
  rintro e w3 ⟨rfl, hlt3, hr3, hb3⟩
  try simp only [World.size_alloc] at hlt3 hr3
  have F3 := Lib.hid hr3
  clear hr3
  have hz3 := hb3.size
  try simp only [World.size_alloc] at hz3
  have R2 := Lib.hid (F2_0.out.keeps hb3)
  have B3 : Hid (Below w.heap.size w w3) := B2.out.trans (hb3.mono (by first | omega | (simp only [World.size_alloc]; omega)))
  clear hb3
  go_wp2_with fail
  refine ((HI.out _ _ _ hsaH F3.out.ints).mono ?_)
  rintro e w4 ⟨v4_0, rfl, hO4_0, hb4⟩
  obtain ⟨a4_0, c4_0, g4_0, rfl, _, hg4_0, hr4_0, hd4_0⟩ := hO4_0.ata hb4.size
  try simp only [World.size_alloc] at hg4_0
  have F4_0 := Lib.hid hr4_0
  clear hO4_0 hr4_0
  have hz4 := hb4.size
  try simp only [World.size_alloc] at hz4
  have R3 := Lib.hid (R2.out.keeps hb4)
  clear R2
  have R4 := Lib.hid (F3.out.keeps hb4)
  have B4 : Hid (Below w.heap.size w w4) := B3.out.trans (hb4.mono (by first | omega | (simp only [World.size_alloc]; omega)))
  clear hb4
  go_wp2_with fail
  refine (eqInt_any _ _ _ _ r0 (by omega) _ F4_0.out.ints R3.out.ints).mono ?_
  rintro e w5 ⟨rfl, hb5⟩
  have hz5 := hb5.size
  try simp only [World.size_alloc] at hz5
  have R5 := Lib.hid (R3.out.keeps hb5)
  clear R3
  have R6 := Lib.hid (R4.out.keeps hb5)
  clear R4
  have R7 := Lib.hid (F4_0.out.keeps hb5)
  have B5 : Hid (Below w.heap.size w w5) := B4.out.trans (hb5.mono (by first | omega | (simp only [World.size_alloc]; omega)))
  clear hb5
  go_wp2_with fail
  refine (toInt_any _ _ xaH hsaH _ (HaH.out.keeps B5.out)).mono ?_
  rintro e w6 ⟨rfl, hlt6, hr6, hb6⟩
  try simp only [World.size_alloc] at hlt6 hr6
  have F6 := Lib.hid hr6
  clear hr6
  have hz6 := hb6.size
  try simp only [World.size_alloc] at hz6
  have R9 := Lib.hid (R5.out.keeps hb6)
  clear R5
  have R10 := Lib.hid (R6.out.keeps hb6)
  clear R6
  have R11 := Lib.hid (R7.out.keeps hb6)
  clear R7
  have B6 : Hid (Below w.heap.size w w6) := B5.out.trans (hb6.mono (by first | omega | (simp only [World.size_alloc]; omega)))
  clear hb6
  go_wp2_with fail
  refine (eqInt_any _ _ _ _ xaH (by omega) _ R10.out.ints F6.out.ints).mono ?_
  rintro e w7 ⟨rfl, hb7⟩
  have hz7 := hb7.size
  try simp only [World.size_alloc] at hz7
  have R12 := Lib.hid (R9.out.keeps hb7)
  clear R9
  have R13 := Lib.hid (R10.out.keeps hb7)
  clear R10
  have R14 := Lib.hid (R11.out.keeps hb7)
  clear R11
  have B7 : Hid (Below w.heap.size w w7) := B6.out.trans (hb7.mono (by first | omega | (simp only [World.size_alloc]; omega)))
  clear hb7
  go_wp2_with fail
  refine (markInt_any _ _ _ xaH _ 1 (by first | rfl | omega) (by omega) (by omega) _ R13.out).mono ?_
  rintro e w8 ⟨rfl, hr8, hgb8⟩
  have M8 := Lib.hid hr8
  have G8 := Lib.hid hgb8
  clear hr8 hgb8
  clear R13
  have hz8 := G8.out.size
  try simp only [World.size_alloc] at hz8
  have R15 := Lib.hid (IntsAt.fars F2_0.out R12.out G8.out (by omega))
  clear R12
  have R16 := Lib.hid (R14.out.far G8.out (by omega))
  clear R14
  have B8 : Hid (Below w.heap.size w w8) := B7.out.trans (Mem.below_of_but G8.out (by first | omega | (simp only [World.size_alloc]; omega)) (by first | omega | (simp only [World.size_alloc]; omega)))
  go_wp2_with fail
  refine (eqInt_any _ _ _ _ r0 (by omega) _ R16.out.ints R15.out.ints).mono ?_
  rintro e w9 ⟨rfl, hb9⟩
  have hz9 := hb9.size
  try simp only [World.size_alloc] at hz9
  have R17 := Lib.hid (R15.out.keeps hb9)
  clear R15
  have R18 := Lib.hid (M8.out.keeps hb9)
  clear M8
  have R19 := Lib.hid (R16.out.keeps hb9)
  clear R16
  have B9 : Hid (Below w.heap.size w w9) := B8.out.trans (hb9.mono (by first | omega | (simp only [World.size_alloc]; omega)))
  clear hb9
  go_wp2_with fail
  refine (markInt_any _ _ _ r0 _ 1 (by first | rfl | omega) (by omega) (by omega) _ R19.out).mono ?_
  rintro e w10 ⟨rfl, hr10, hgb10⟩
  have M10 := Lib.hid hr10
  have G10 := Lib.hid hgb10
  clear hr10 hgb10
  clear R19
  have hz10 := G10.out.size
  try simp only [World.size_alloc] at hz10
  have R20 := Lib.hid (IntsAt.fars F2_0.out R17.out G10.out (by omega))
  clear R17
  have R21 := Lib.hid (IntsAt.farl F3.out R18.out G10.out (by omega) (by rw [imarks_length]; exact Nat.le_refl _))
  clear R18
  have B10 : Hid (Below w.heap.size w w10) := B9.out.trans (Mem.below_of_but G10.out (by first | omega | (simp only [World.size_alloc]; omega)) (by first | omega | (simp only [World.size_alloc]; omega)))
  go_wp2_with fail
  refine (heldInt_any _ _ _ r0.length _ 1 (by first | rfl | omega) (by omega) (by omega) _ M10.out).mono ?_
  rintro e w11 ⟨rfl, hb11⟩
  have hz11 := hb11.size
  try simp only [World.size_alloc] at hz11
  have R22 := Lib.hid (R20.out.keeps hb11)
  clear R20
  have R23 := Lib.hid (R21.out.keeps hb11)
  clear R21
  have R24 := Lib.hid (M10.out.keeps hb11)
  clear M10
  have B11 : Hid (Below w.heap.size w w11) := B10.out.trans (hb11.mono (by first | omega | (simp only [World.size_alloc]; omega)))
  clear hb11
  go_wp2_with fail
  refine (toInt_any _ _ xaH hsaH _ (HaH.out.keeps B11.out)).mono ?_
  rintro e w12 ⟨rfl, hlt12, hr12, hb12⟩
  try simp only [World.size_alloc] at hlt12 hr12
  have F12 := Lib.hid hr12
  clear hr12
  have hz12 := hb12.size
  try simp only [World.size_alloc] at hz12
  have R26 := Lib.hid (R22.out.keeps hb12)
  clear R22
  have R27 := Lib.hid (R23.out.keeps hb12)
  clear R23
  have R28 := Lib.hid (R24.out.keeps hb12)
  clear R24
  have B12 : Hid (Below w.heap.size w w12) := B11.out.trans (hb12.mono (by first | omega | (simp only [World.size_alloc]; omega)))
  clear hb12
  go_wp2_with fail
  refine ((HI.out _ _ _ hsaH F12.out.ints).mono ?_)
  rintro e w13 ⟨v13_0, rfl, hO13_0, hb13⟩
  obtain ⟨a13_0, c13_0, g13_0, rfl, _, hg13_0, hr13_0, hd13_0⟩ := hO13_0.ata hb13.size
  try simp only [World.size_alloc] at hg13_0
  have F13_0 := Lib.hid hr13_0
  clear hO13_0 hr13_0
  have hz13 := hb13.size
  try simp only [World.size_alloc] at hz13
  have R29 := Lib.hid (R26.out.keeps hb13)
  clear R26
  have R30 := Lib.hid (R27.out.keeps hb13)
  clear R27
  have R31 := Lib.hid (R28.out.keeps hb13)
  clear R28
  have B13 : Hid (Below w.heap.size w w13) := B12.out.trans (hb13.mono (by first | omega | (simp only [World.size_alloc]; omega)))
  clear hb13
  go_wp2_with fail
  refine (eqInt_any _ _ _ _ r0 (by omega) _ F13_0.out.ints R29.out.ints).mono ?_
  rintro e w14 ⟨rfl, hb14⟩
  have hz14 := hb14.size
  try simp only [World.size_alloc] at hz14
  have R32 := Lib.hid (R29.out.keeps hb14)
  clear R29
  have R33 := Lib.hid (R30.out.keeps hb14)
  clear R30
  have R34 := Lib.hid (R31.out.keeps hb14)
  clear R31
  have R35 := Lib.hid (F13_0.out.keeps hb14)
  have B14 : Hid (Below w.heap.size w w14) := B13.out.trans (hb14.mono (by first | omega | (simp only [World.size_alloc]; omega)))
  clear hb14
  go_wp2_with fail
  refine (heldInt_any _ _ _ r0.length _ 1 (by first | rfl | omega) (by omega) (by omega) _ R34.out).mono ?_
  rintro e w15 ⟨rfl, hb15⟩
  have hz15 := hb15.size
  try simp only [World.size_alloc] at hz15
  have R36 := Lib.hid (R32.out.keeps hb15)
  clear R32
  have R37 := Lib.hid (R33.out.keeps hb15)
  clear R33
  have R38 := Lib.hid (R34.out.keeps hb15)
  clear R34
  have R39 := Lib.hid (R35.out.keeps hb15)
  clear R35
  have B15 : Hid (Below w.heap.size w w15) := B14.out.trans (hb15.mono (by first | omega | (simp only [World.size_alloc]; omega)))
  clear hb15
  go_wp2
  go_ret
  exact ⟨rfl, B15.out⟩

end Go.Proofs.Ytcgfioakjmbciaa
