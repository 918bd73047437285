/-
  THE WALK of the law on CrossComplex: the law's own text; spec's and impl's answers are premises.
-/
import Derived.Test.YthobncbggaggjaaWSz
namespace Go.Proofs.Ythobncbggaggjaa
open Go.RowKit

set_option maxRecDepth 100000 in
set_option maxHeartbeats 4000000 in
theorem exactCrossComplex_walk (aK : Int) (w : World) (r0n : Int) (r0 : List Int) (r1 : Bool)  (hr0 : r0.length ≤ 1048576)
    (hs : ∀ (w : World) ,  Calls Try.prog 25 #[.int .i64 aK] w fun e w' => ∃ v0, e = .returned (.tuple #[cx r0n v0, .bool r1]) ∧ OwnInts w' w.heap.size v0 r0 ∧ Below w.heap.size w w')
    (hi : ∀ (w : World) ,  Calls Try.prog 24 #[.int .i64 aK] w fun e w' => ∃ v0, e = .returned (.tuple #[cx r0n v0, .bool r1]) ∧ OwnInts w' w.heap.size v0 r0 ∧ Below w.heap.size w w') :
    Calls Try.prog 9 #[.int .i64 aK] w fun e w' => e = .returned (.bool true) ∧ Below w.heap.size w w' := by
  have HS := Lib.hid hs
  have HI := Lib.hid hi
  clear hs hi
  go_enter Try.func9, Try.ntmps9
  go_wp2_with fail
  refine ((HS.out _ ).mono ?_)
  rintro e w1 ⟨v1_0, rfl, hO1_0, hb1⟩
  obtain ⟨a1_0, c1_0, g1_0, rfl, _, hg1_0, hr1_0, hd1_0⟩ := hO1_0.ata hb1.size
  try simp only [World.size_alloc] at hg1_0
  have F1_0 := Lib.hid hr1_0
  clear hO1_0 hr1_0
  have hz1 := hb1.size
  try simp only [World.size_alloc] at hz1
  have B1 : Hid (Below w.heap.size w w1) := hb1
  clear hb1
  have hb2 : Below w1.heap.size w1 (w1.alloc (Obj.cells #[Value.int IntKind.i64 r0n, .slice a1_0 r0.length c1_0] 26)) := (Below.refl _ _).alloc (Nat.le_refl _) _
  have hz2 := hb2.size
  try simp only [World.size_alloc] at hz2
  have R1 := Lib.hid (F1_0.out.keeps hb2)
  have B2 : Hid (Below w.heap.size w (w1.alloc (Obj.cells #[Value.int IntKind.i64 r0n, .slice a1_0 r0.length c1_0] 26))) := B1.out.trans (hb2.mono (by first | omega | (simp only [World.size_alloc]; omega)))
  clear hb2
  have Tw02 := Lib.hid (Two.new w1 (.int .i64 r0n) (.slice a1_0 r0.length c1_0) 26)
  obtain ⟨taw02, tbw02, tcw02, _, _⟩ := Tw02.out
  go_wp2_with fail
  refine ((HI.out _ ).mono ?_)
  rintro e w3 ⟨v3_0, rfl, hO3_0, hb3⟩
  obtain ⟨a3_0, c3_0, g3_0, rfl, _, hg3_0, hr3_0, hd3_0⟩ := hO3_0.ata hb3.size
  try simp only [World.size_alloc] at hg3_0
  have F3_0 := Lib.hid hr3_0
  clear hO3_0 hr3_0
  have hz3 := hb3.size
  try simp only [World.size_alloc] at hz3
  have Tw03 := Lib.hid (Tw02.out.keeps hb3)
  clear Tw02
  clear tbw02 tcw02
  obtain ⟨taw03, tbw03, tcw03, _, _⟩ := Tw03.out
  have R2 := Lib.hid (R1.out.keeps hb3)
  clear R1
  have B3 : Hid (Below w.heap.size w w3) := B2.out.trans (hb3.mono (by first | omega | (simp only [World.size_alloc]; omega)))
  clear hb3
  have hb4 : Below w3.heap.size w3 (w3.alloc (Obj.cells #[Value.int IntKind.i64 r0n, .slice a3_0 r0.length c3_0] 26)) := (Below.refl _ _).alloc (Nat.le_refl _) _
  have hz4 := hb4.size
  try simp only [World.size_alloc] at hz4
  have Tw04 := Lib.hid (Tw03.out.keeps hb4)
  clear Tw03
  obtain ⟨taw04, tbw04, tcw04, _, _⟩ := Tw04.out
  have R3 := Lib.hid (R2.out.keeps hb4)
  clear R2
  have R4 := Lib.hid (F3_0.out.keeps hb4)
  have B4 : Hid (Below w.heap.size w (w3.alloc (Obj.cells #[Value.int IntKind.i64 r0n, .slice a3_0 r0.length c3_0] 26))) := B3.out.trans (hb4.mono (by first | omega | (simp only [World.size_alloc]; omega)))
  clear hb4
  have Tg04 := Lib.hid (Two.new w3 (.int .i64 r0n) (.slice a3_0 r0.length c3_0) 26)
  obtain ⟨tag04, tbg04, tcg04, _, _⟩ := Tg04.out
  go_wp2_with fail
  refine (eqCx_any _ _ _ _ _ r0 (by omega) _ R4.out.ints R3.out.ints).mono ?_
  rintro e w5 ⟨rfl, hb5⟩
  have hz5 := hb5.size
  try simp only [World.size_alloc] at hz5
  have Tw05 := Lib.hid (Tw04.out.keeps hb5)
  clear Tw04
  clear tbw04 tcw04
  obtain ⟨taw05, tbw05, tcw05, _, _⟩ := Tw05.out
  have Tg05 := Lib.hid (Tg04.out.keeps hb5)
  clear Tg04
  clear tbg04 tcg04
  obtain ⟨tag05, tbg05, tcg05, _, _⟩ := Tg05.out
  have R5 := Lib.hid (R3.out.keeps hb5)
  clear R3
  have R6 := Lib.hid (R4.out.keeps hb5)
  clear R4
  have B5 : Hid (Below w.heap.size w w5) := B4.out.trans (hb5.mono (by first | omega | (simp only [World.size_alloc]; omega)))
  clear hb5
  go_wp2_with fail
  refine (markCx_any _ _ _ _ r0 _ 1 (by first | rfl | omega) (by omega) (by omega) _ R6.out).mono ?_
  rintro e w6 ⟨rfl, hr6, hgb6⟩
  have M6 := Lib.hid hr6
  have G6 := Lib.hid hgb6
  clear hr6 hgb6
  clear R6
  have hz6 := G6.out.size
  try simp only [World.size_alloc] at hz6
  have Tw06 := Lib.hid (Tw05.out.far G6.out (by omega))
  clear Tw05
  clear tbw05 tcw05
  obtain ⟨taw06, tbw06, tcw06, _, _⟩ := Tw06.out
  have Tg06 := Lib.hid (Tg05.out.far G6.out (by omega))
  clear Tg05
  clear tbg05 tcg05
  obtain ⟨tag06, tbg06, tcg06, _, _⟩ := Tg06.out
  have R7 := Lib.hid (IntsAt.fars F1_0.out R5.out G6.out (by omega))
  clear R5
  have B6 : Hid (Below w.heap.size w w6) := B5.out.trans (Mem.below_of_but G6.out (by first | omega | (simp only [World.size_alloc]; omega)) (by first | omega | (simp only [World.size_alloc]; omega)))
  go_wp2_with fail
  refine (heldCx_any _ _ _ _ r0.length _ 1 (by first | rfl | omega) (by omega) (by omega) _ M6.out).mono ?_
  rintro e w7 ⟨rfl, hb7⟩
  have hz7 := hb7.size
  try simp only [World.size_alloc] at hz7
  have Tw07 := Lib.hid (Tw06.out.keeps hb7)
  clear Tw06
  clear tbw06 tcw06
  obtain ⟨taw07, tbw07, tcw07, _, _⟩ := Tw07.out
  have Tg07 := Lib.hid (Tg06.out.keeps hb7)
  clear Tg06
  clear tbg06 tcg06
  obtain ⟨tag07, tbg07, tcg07, _, _⟩ := Tg07.out
  have R8 := Lib.hid (R7.out.keeps hb7)
  clear R7
  have R9 := Lib.hid (M6.out.keeps hb7)
  clear M6
  have B7 : Hid (Below w.heap.size w w7) := B6.out.trans (hb7.mono (by first | omega | (simp only [World.size_alloc]; omega)))
  clear hb7
  go_wp2_with fail
  refine ((HI.out _ ).mono ?_)
  rintro e w8 ⟨v8_0, rfl, hO8_0, hb8⟩
  obtain ⟨a8_0, c8_0, g8_0, rfl, _, hg8_0, hr8_0, hd8_0⟩ := hO8_0.ata hb8.size
  try simp only [World.size_alloc] at hg8_0
  have F8_0 := Lib.hid hr8_0
  clear hO8_0 hr8_0
  have hz8 := hb8.size
  try simp only [World.size_alloc] at hz8
  have Tw08 := Lib.hid (Tw07.out.keeps hb8)
  clear Tw07
  clear tbw07 tcw07
  obtain ⟨taw08, tbw08, tcw08, _, _⟩ := Tw08.out
  have Tg08 := Lib.hid (Tg07.out.keeps hb8)
  clear Tg07
  clear tbg07 tcg07
  obtain ⟨tag08, tbg08, tcg08, _, _⟩ := Tg08.out
  have R10 := Lib.hid (R8.out.keeps hb8)
  clear R8
  have R11 := Lib.hid (R9.out.keeps hb8)
  clear R9
  have B8 : Hid (Below w.heap.size w w8) := B7.out.trans (hb8.mono (by first | omega | (simp only [World.size_alloc]; omega)))
  clear hb8
  have hb9 : Below w8.heap.size w8 (w8.alloc (Obj.cells #[Value.int IntKind.i64 r0n, .slice a8_0 r0.length c8_0] 26)) := (Below.refl _ _).alloc (Nat.le_refl _) _
  have hz9 := hb9.size
  try simp only [World.size_alloc] at hz9
  have Tw09 := Lib.hid (Tw08.out.keeps hb9)
  clear Tw08
  obtain ⟨taw09, tbw09, tcw09, _, _⟩ := Tw09.out
  have Tg09 := Lib.hid (Tg08.out.keeps hb9)
  clear Tg08
  obtain ⟨tag09, tbg09, tcg09, _, _⟩ := Tg09.out
  have R12 := Lib.hid (R10.out.keeps hb9)
  clear R10
  have R13 := Lib.hid (R11.out.keeps hb9)
  clear R11
  have R14 := Lib.hid (F8_0.out.keeps hb9)
  have B9 : Hid (Below w.heap.size w (w8.alloc (Obj.cells #[Value.int IntKind.i64 r0n, .slice a8_0 r0.length c8_0] 26))) := B8.out.trans (hb9.mono (by first | omega | (simp only [World.size_alloc]; omega)))
  clear hb9
  have Th09 := Lib.hid (Two.new w8 (.int .i64 r0n) (.slice a8_0 r0.length c8_0) 26)
  obtain ⟨tah09, tbh09, tch09, _, _⟩ := Th09.out
  go_wp2_with fail
  refine (eqCx_any _ _ _ _ _ r0 (by omega) _ R14.out.ints R12.out.ints).mono ?_
  rintro e w10 ⟨rfl, hb10⟩
  have hz10 := hb10.size
  try simp only [World.size_alloc] at hz10
  have Tw010 := Lib.hid (Tw09.out.keeps hb10)
  clear Tw09
  clear tbw09 tcw09
  obtain ⟨taw010, tbw010, tcw010, _, _⟩ := Tw010.out
  have Tg010 := Lib.hid (Tg09.out.keeps hb10)
  clear Tg09
  clear tbg09 tcg09
  obtain ⟨tag010, tbg010, tcg010, _, _⟩ := Tg010.out
  have Th010 := Lib.hid (Th09.out.keeps hb10)
  clear Th09
  clear tbh09 tch09
  obtain ⟨tah010, tbh010, tch010, _, _⟩ := Th010.out
  have R15 := Lib.hid (R12.out.keeps hb10)
  clear R12
  have R16 := Lib.hid (R13.out.keeps hb10)
  clear R13
  have R17 := Lib.hid (R14.out.keeps hb10)
  clear R14
  have B10 : Hid (Below w.heap.size w w10) := B9.out.trans (hb10.mono (by first | omega | (simp only [World.size_alloc]; omega)))
  clear hb10
  go_wp2_with fail
  refine (heldCx_any _ _ _ _ r0.length _ 1 (by first | rfl | omega) (by omega) (by omega) _ R16.out).mono ?_
  rintro e w11 ⟨rfl, hb11⟩
  have hz11 := hb11.size
  try simp only [World.size_alloc] at hz11
  have Tw011 := Lib.hid (Tw010.out.keeps hb11)
  clear Tw010
  clear tbw010 tcw010
  obtain ⟨taw011, tbw011, tcw011, _, _⟩ := Tw011.out
  have Tg011 := Lib.hid (Tg010.out.keeps hb11)
  clear Tg010
  clear tbg010 tcg010
  obtain ⟨tag011, tbg011, tcg011, _, _⟩ := Tg011.out
  have Th011 := Lib.hid (Th010.out.keeps hb11)
  clear Th010
  clear tbh010 tch010
  obtain ⟨tah011, tbh011, tch011, _, _⟩ := Th011.out
  have R18 := Lib.hid (R15.out.keeps hb11)
  clear R15
  have R19 := Lib.hid (R16.out.keeps hb11)
  clear R16
  have R20 := Lib.hid (R17.out.keeps hb11)
  clear R17
  have B11 : Hid (Below w.heap.size w w11) := B10.out.trans (hb11.mono (by first | omega | (simp only [World.size_alloc]; omega)))
  clear hb11
  go_wp2
  go_ret
  exact ⟨rfl, B11.out⟩

end Go.Proofs.Ythobncbggaggjaa
