/-
  THE WALK of the law on CompressedComplex: the law's own text; spec's and impl's answers are premises.
-/
import Derived.Test.YtamoejjkaebhkaaHas
namespace Go.Proofs.Ytamoejjkaebhkaa
open Go.RowKit

set_option maxRecDepth 100000 in
set_option maxHeartbeats 4000000 in
theorem exactCompressedComplex_walk (paList : Option Addr) (caList : Nat) (xaList : List Int) (w : World) (r0n : Int) (r0 : List Int) (r1 : Bool) (hlenaList : xaList.length ≤ 9223372036854775807) (haList : Ints w paList xaList) (hr0 : r0.length ≤ 1048576)
    (hs : ∀ (w : World) (qaList : Option Addr) (daList : Nat), xaList.length ≤ 1048576 → Ints w qaList xaList → Calls Try.prog 14 #[.slice qaList xaList.length daList] w fun e w' => ∃ v0, e = .returned (.tuple #[cx r0n v0, .bool r1]) ∧ HasInts w' w.heap.size v0 r0 ∧ Below w.heap.size w w')
    (hi : ∀ (w : World) (qaList : Option Addr) (daList : Nat), xaList.length ≤ 1048576 → Ints w qaList xaList → Calls Try.prog 13 #[.slice qaList xaList.length daList] w fun e w' => ∃ v0, e = .returned (.tuple #[cx r0n v0, .bool r1]) ∧ HasInts w' w.heap.size v0 r0 ∧ Below w.heap.size w w') :
    Calls Try.prog 8 #[.slice paList xaList.length caList] w fun e w' => e = .returned (.bool true) ∧ Below w.heap.size w w' := by
  have HS := Lib.hid hs
  have HI := Lib.hid hi
  clear hs hi
  have HaList := Lib.hid haList
  clear haList
  by_cases hbigaList : 1048576 < (xaList.length : Int)
  · go_enter Try.func8, Try.ntmps8
    go_wp2
    go_ret
    exact ⟨rfl, Below.refl _ _⟩
  have hsaList : xaList.length ≤ 1048576 := by omega
  go_enter Try.func8, Try.ntmps8
  go_wp2_with fail
  refine (toInt_any _ _ xaList hsaList _ HaList.out).mono ?_
  rintro e w1 ⟨rfl, hlt1, hr1, hb1⟩
  try simp only [World.size_alloc] at hlt1 hr1
  have F1 := Lib.hid hr1
  clear hr1
  have hz1 := hb1.size
  try simp only [World.size_alloc] at hz1
  have B1 : Hid (Below w.heap.size w w1) := hb1
  clear hb1
  go_wp2_with fail
  refine ((HS.out _ _ _ hsaList F1.out.ints).mono ?_)
  rintro e w2 ⟨v2_0, rfl, hO2_0, hb2⟩
  obtain ⟨a2_0, c2_0, g2_0, rfl, _, hg2_0, hr2_0, hd2_0⟩ := hO2_0.ata hb2.size
  try simp only [World.size_alloc] at hg2_0
  have F2_0 := Lib.hid hr2_0
  clear hO2_0 hr2_0
  have hz2 := hb2.size
  try simp only [World.size_alloc] at hz2
  have B2 : Hid (Below w.heap.size w w2) := B1.out.trans (hb2.mono (by first | omega | (simp only [World.size_alloc]; omega)))
  clear hb2
  have hb3 : Below w2.heap.size w2 (w2.alloc (Obj.cells #[Value.int IntKind.i64 r0n, .slice a2_0 r0.length c2_0] 30)) := (Below.refl _ _).alloc (Nat.le_refl _) _
  have hz3 := hb3.size
  try simp only [World.size_alloc] at hz3
  have R2 := Lib.hid (F2_0.out.keeps hb3)
  have B3 : Hid (Below w.heap.size w (w2.alloc (Obj.cells #[Value.int IntKind.i64 r0n, .slice a2_0 r0.length c2_0] 30))) := B2.out.trans (hb3.mono (by first | omega | (simp only [World.size_alloc]; omega)))
  clear hb3
  have Tw03 := Lib.hid (Two.new w2 (.int .i64 r0n) (.slice a2_0 r0.length c2_0) 30)
  obtain ⟨taw03, tbw03, tcw03, _, _⟩ := Tw03.out
  go_wp2_with fail
  refine (toInt_any _ _ xaList hsaList _ (HaList.out.keeps B3.out)).mono ?_
  rintro e w4 ⟨rfl, hlt4, hr4, hb4⟩
  try simp only [World.size_alloc] at hlt4 hr4
  have F4 := Lib.hid hr4
  clear hr4
  have hz4 := hb4.size
  try simp only [World.size_alloc] at hz4
  have Tw04 := Lib.hid (Tw03.out.keeps hb4)
  clear Tw03
  clear tbw03 tcw03
  obtain ⟨taw04, tbw04, tcw04, _, _⟩ := Tw04.out
  have R3 := Lib.hid (R2.out.keeps hb4)
  clear R2
  have B4 : Hid (Below w.heap.size w w4) := B3.out.trans (hb4.mono (by first | omega | (simp only [World.size_alloc]; omega)))
  clear hb4
  go_wp2_with fail
  refine ((HI.out _ _ _ hsaList F4.out.ints).mono ?_)
  rintro e w5 ⟨v5_0, rfl, hO5_0, hb5⟩
  obtain ⟨a5_0, c5_0, g5_0, rfl, _, hg5_0, hr5_0, hd5_0⟩ := hO5_0.ata hb5.size
  try simp only [World.size_alloc] at hg5_0
  have F5_0 := Lib.hid hr5_0
  clear hO5_0 hr5_0
  have hz5 := hb5.size
  try simp only [World.size_alloc] at hz5
  have Tw05 := Lib.hid (Tw04.out.keeps hb5)
  clear Tw04
  clear tbw04 tcw04
  obtain ⟨taw05, tbw05, tcw05, _, _⟩ := Tw05.out
  have R4 := Lib.hid (R3.out.keeps hb5)
  clear R3
  have R5 := Lib.hid (F4.out.keeps hb5)
  have B5 : Hid (Below w.heap.size w w5) := B4.out.trans (hb5.mono (by first | omega | (simp only [World.size_alloc]; omega)))
  clear hb5
  have hb6 : Below w5.heap.size w5 (w5.alloc (Obj.cells #[Value.int IntKind.i64 r0n, .slice a5_0 r0.length c5_0] 30)) := (Below.refl _ _).alloc (Nat.le_refl _) _
  have hz6 := hb6.size
  try simp only [World.size_alloc] at hz6
  have Tw06 := Lib.hid (Tw05.out.keeps hb6)
  clear Tw05
  obtain ⟨taw06, tbw06, tcw06, _, _⟩ := Tw06.out
  have R6 := Lib.hid (R4.out.keeps hb6)
  clear R4
  have R7 := Lib.hid (R5.out.keeps hb6)
  clear R5
  have R8 := Lib.hid (F5_0.out.keeps hb6)
  have B6 : Hid (Below w.heap.size w (w5.alloc (Obj.cells #[Value.int IntKind.i64 r0n, .slice a5_0 r0.length c5_0] 30))) := B5.out.trans (hb6.mono (by first | omega | (simp only [World.size_alloc]; omega)))
  clear hb6
  have Tg06 := Lib.hid (Two.new w5 (.int .i64 r0n) (.slice a5_0 r0.length c5_0) 30)
  obtain ⟨tag06, tbg06, tcg06, _, _⟩ := Tg06.out
  go_wp2_with fail
  refine (eqCx_any _ _ _ _ _ r0 (by omega) _ R8.out.ints R6.out.ints).mono ?_
  rintro e w7 ⟨rfl, hb7⟩
  have hz7 := hb7.size
  try simp only [World.size_alloc] at hz7
  have Tw07 := Lib.hid (Tw06.out.keeps hb7)
  clear Tw06
  clear tbw06 tcw06
  obtain ⟨taw07, tbw07, tcw07, _, _⟩ := Tw07.out
  have Tg07 := Lib.hid (Tg06.out.keeps hb7)
  clear Tg06
  clear tbg06 tcg06
  obtain ⟨tag07, tbg07, tcg07, _, _⟩ := Tg07.out
  have R9 := Lib.hid (R6.out.keeps hb7)
  clear R6
  have R10 := Lib.hid (R7.out.keeps hb7)
  clear R7
  have R11 := Lib.hid (R8.out.keeps hb7)
  clear R8
  have B7 : Hid (Below w.heap.size w w7) := B6.out.trans (hb7.mono (by first | omega | (simp only [World.size_alloc]; omega)))
  clear hb7
  go_wp2_with fail
  refine (toInt_any _ _ xaList hsaList _ (HaList.out.keeps B7.out)).mono ?_
  rintro e w8 ⟨rfl, hlt8, hr8, hb8⟩
  try simp only [World.size_alloc] at hlt8 hr8
  have F8 := Lib.hid hr8
  clear hr8
  have hz8 := hb8.size
  try simp only [World.size_alloc] at hz8
  have Tw08 := Lib.hid (Tw07.out.keeps hb8)
  clear Tw07
  clear tbw07 tcw07
  obtain ⟨taw08, tbw08, tcw08, _, _⟩ := Tw08.out
  have Tg08 := Lib.hid (Tg07.out.keeps hb8)
  clear Tg07
  clear tbg07 tcg07
  obtain ⟨tag08, tbg08, tcg08, _, _⟩ := Tg08.out
  have R13 := Lib.hid (R9.out.keeps hb8)
  clear R9
  have R14 := Lib.hid (R10.out.keeps hb8)
  clear R10
  have R15 := Lib.hid (R11.out.keeps hb8)
  clear R11
  have B8 : Hid (Below w.heap.size w w8) := B7.out.trans (hb8.mono (by first | omega | (simp only [World.size_alloc]; omega)))
  clear hb8
  go_wp2_with fail
  refine (eqInt_any _ _ _ _ xaList (by omega) _ R14.out.ints F8.out.ints).mono ?_
  rintro e w9 ⟨rfl, hb9⟩
  have hz9 := hb9.size
  try simp only [World.size_alloc] at hz9
  have Tw09 := Lib.hid (Tw08.out.keeps hb9)
  clear Tw08
  clear tbw08 tcw08
  obtain ⟨taw09, tbw09, tcw09, _, _⟩ := Tw09.out
  have Tg09 := Lib.hid (Tg08.out.keeps hb9)
  clear Tg08
  clear tbg08 tcg08
  obtain ⟨tag09, tbg09, tcg09, _, _⟩ := Tg09.out
  have R16 := Lib.hid (R13.out.keeps hb9)
  clear R13
  have R17 := Lib.hid (R14.out.keeps hb9)
  clear R14
  have R18 := Lib.hid (R15.out.keeps hb9)
  clear R15
  have B9 : Hid (Below w.heap.size w w9) := B8.out.trans (hb9.mono (by first | omega | (simp only [World.size_alloc]; omega)))
  clear hb9
  go_wp2_with fail
  refine (markInt_any _ _ _ xaList _ 1 (by first | rfl | omega) (by omega) (by omega) _ R17.out).mono ?_
  rintro e w10 ⟨rfl, hr10, hgb10⟩
  have M10 := Lib.hid hr10
  have G10 := Lib.hid hgb10
  clear hr10 hgb10
  clear R17
  have hz10 := G10.out.size
  try simp only [World.size_alloc] at hz10
  have Tw010 := Lib.hid (Tw09.out.far G10.out (by omega))
  clear Tw09
  clear tbw09 tcw09
  obtain ⟨taw010, tbw010, tcw010, _, _⟩ := Tw010.out
  have Tg010 := Lib.hid (Tg09.out.far G10.out (by omega))
  clear Tg09
  clear tbg09 tcg09
  obtain ⟨tag010, tbg010, tcg010, _, _⟩ := Tg010.out
  have R19 := Lib.hid (IntsAt.fars F2_0.out R16.out G10.out (by omega))
  clear R16
  have R20 := Lib.hid (R18.out.far G10.out (by omega))
  clear R18
  have B10 : Hid (Below w.heap.size w w10) := B9.out.trans (Mem.below_of_but G10.out (by first | omega | (simp only [World.size_alloc]; omega)) (by first | omega | (simp only [World.size_alloc]; omega)))
  go_wp2_with fail
  refine (eqCx_any _ _ _ _ _ r0 (by omega) _ R20.out.ints R19.out.ints).mono ?_
  rintro e w11 ⟨rfl, hb11⟩
  have hz11 := hb11.size
  try simp only [World.size_alloc] at hz11
  have Tw011 := Lib.hid (Tw010.out.keeps hb11)
  clear Tw010
  clear tbw010 tcw010
  obtain ⟨taw011, tbw011, tcw011, _, _⟩ := Tw011.out
  have Tg011 := Lib.hid (Tg010.out.keeps hb11)
  clear Tg010
  clear tbg010 tcg010
  obtain ⟨tag011, tbg011, tcg011, _, _⟩ := Tg011.out
  have R21 := Lib.hid (R19.out.keeps hb11)
  clear R19
  have R22 := Lib.hid (M10.out.keeps hb11)
  clear M10
  have R23 := Lib.hid (R20.out.keeps hb11)
  clear R20
  have B11 : Hid (Below w.heap.size w w11) := B10.out.trans (hb11.mono (by first | omega | (simp only [World.size_alloc]; omega)))
  clear hb11
  go_wp2_with fail
  refine (markCx_any _ _ _ _ r0 _ 1 (by first | rfl | omega) (by omega) (by omega) _ R23.out).mono ?_
  rintro e w12 ⟨rfl, hr12, hgb12⟩
  have M12 := Lib.hid hr12
  have G12 := Lib.hid hgb12
  clear hr12 hgb12
  clear R23
  have hz12 := G12.out.size
  try simp only [World.size_alloc] at hz12
  have Tw012 := Lib.hid (Tw011.out.far G12.out (by omega))
  clear Tw011
  clear tbw011 tcw011
  obtain ⟨taw012, tbw012, tcw012, _, _⟩ := Tw012.out
  have Tg012 := Lib.hid (Tg011.out.far G12.out (by omega))
  clear Tg011
  clear tbg011 tcg011
  obtain ⟨tag012, tbg012, tcg012, _, _⟩ := Tg012.out
  have R24 := Lib.hid (IntsAt.fars F2_0.out R21.out G12.out (by omega))
  clear R21
  have R25 := Lib.hid (IntsAt.farl F4.out R22.out G12.out (by omega) (by rw [imarks_length]; exact Nat.le_refl _))
  clear R22
  have B12 : Hid (Below w.heap.size w w12) := B11.out.trans (Mem.below_of_but G12.out (by first | omega | (simp only [World.size_alloc]; omega)) (by first | omega | (simp only [World.size_alloc]; omega)))
  go_wp2_with fail
  refine (heldCx_any _ _ _ _ r0.length _ 1 (by first | rfl | omega) (by omega) (by omega) _ M12.out).mono ?_
  rintro e w13 ⟨rfl, hb13⟩
  have hz13 := hb13.size
  try simp only [World.size_alloc] at hz13
  have Tw013 := Lib.hid (Tw012.out.keeps hb13)
  clear Tw012
  clear tbw012 tcw012
  obtain ⟨taw013, tbw013, tcw013, _, _⟩ := Tw013.out
  have Tg013 := Lib.hid (Tg012.out.keeps hb13)
  clear Tg012
  clear tbg012 tcg012
  obtain ⟨tag013, tbg013, tcg013, _, _⟩ := Tg013.out
  have R26 := Lib.hid (R24.out.keeps hb13)
  clear R24
  have R27 := Lib.hid (R25.out.keeps hb13)
  clear R25
  have R28 := Lib.hid (M12.out.keeps hb13)
  clear M12
  have B13 : Hid (Below w.heap.size w w13) := B12.out.trans (hb13.mono (by first | omega | (simp only [World.size_alloc]; omega)))
  clear hb13
  go_wp2_with fail
  refine (toInt_any _ _ xaList hsaList _ (HaList.out.keeps B13.out)).mono ?_
  rintro e w14 ⟨rfl, hlt14, hr14, hb14⟩
  try simp only [World.size_alloc] at hlt14 hr14
  have F14 := Lib.hid hr14
  clear hr14
  have hz14 := hb14.size
  try simp only [World.size_alloc] at hz14
  have Tw014 := Lib.hid (Tw013.out.keeps hb14)
  clear Tw013
  clear tbw013 tcw013
  obtain ⟨taw014, tbw014, tcw014, _, _⟩ := Tw014.out
  have Tg014 := Lib.hid (Tg013.out.keeps hb14)
  clear Tg013
  clear tbg013 tcg013
  obtain ⟨tag014, tbg014, tcg014, _, _⟩ := Tg014.out
  have R30 := Lib.hid (R26.out.keeps hb14)
  clear R26
  have R31 := Lib.hid (R27.out.keeps hb14)
  clear R27
  have R32 := Lib.hid (R28.out.keeps hb14)
  clear R28
  have B14 : Hid (Below w.heap.size w w14) := B13.out.trans (hb14.mono (by first | omega | (simp only [World.size_alloc]; omega)))
  clear hb14
  go_wp2_with fail
  refine ((HI.out _ _ _ hsaList F14.out.ints).mono ?_)
  rintro e w15 ⟨v15_0, rfl, hO15_0, hb15⟩
  obtain ⟨a15_0, c15_0, g15_0, rfl, _, hg15_0, hr15_0, hd15_0⟩ := hO15_0.ata hb15.size
  try simp only [World.size_alloc] at hg15_0
  have F15_0 := Lib.hid hr15_0
  clear hO15_0 hr15_0
  have hz15 := hb15.size
  try simp only [World.size_alloc] at hz15
  have Tw015 := Lib.hid (Tw014.out.keeps hb15)
  clear Tw014
  clear tbw014 tcw014
  obtain ⟨taw015, tbw015, tcw015, _, _⟩ := Tw015.out
  have Tg015 := Lib.hid (Tg014.out.keeps hb15)
  clear Tg014
  clear tbg014 tcg014
  obtain ⟨tag015, tbg015, tcg015, _, _⟩ := Tg015.out
  have R33 := Lib.hid (R30.out.keeps hb15)
  clear R30
  have R34 := Lib.hid (R31.out.keeps hb15)
  clear R31
  have R35 := Lib.hid (R32.out.keeps hb15)
  clear R32
  have B15 : Hid (Below w.heap.size w w15) := B14.out.trans (hb15.mono (by first | omega | (simp only [World.size_alloc]; omega)))
  clear hb15
  have hb16 : Below w15.heap.size w15 (w15.alloc (Obj.cells #[Value.int IntKind.i64 r0n, .slice a15_0 r0.length c15_0] 30)) := (Below.refl _ _).alloc (Nat.le_refl _) _
  have hz16 := hb16.size
  try simp only [World.size_alloc] at hz16
  have Tw016 := Lib.hid (Tw015.out.keeps hb16)
  clear Tw015
  obtain ⟨taw016, tbw016, tcw016, _, _⟩ := Tw016.out
  have Tg016 := Lib.hid (Tg015.out.keeps hb16)
  clear Tg015
  obtain ⟨tag016, tbg016, tcg016, _, _⟩ := Tg016.out
  have R36 := Lib.hid (R33.out.keeps hb16)
  clear R33
  have R37 := Lib.hid (R34.out.keeps hb16)
  clear R34
  have R38 := Lib.hid (R35.out.keeps hb16)
  clear R35
  have R39 := Lib.hid (F15_0.out.keeps hb16)
  have B16 : Hid (Below w.heap.size w (w15.alloc (Obj.cells #[Value.int IntKind.i64 r0n, .slice a15_0 r0.length c15_0] 30))) := B15.out.trans (hb16.mono (by first | omega | (simp only [World.size_alloc]; omega)))
  clear hb16
  have Th016 := Lib.hid (Two.new w15 (.int .i64 r0n) (.slice a15_0 r0.length c15_0) 30)
  obtain ⟨tah016, tbh016, tch016, _, _⟩ := Th016.out
  go_wp2_with fail
  refine (eqCx_any _ _ _ _ _ r0 (by omega) _ R39.out.ints R36.out.ints).mono ?_
  rintro e w17 ⟨rfl, hb17⟩
  have hz17 := hb17.size
  try simp only [World.size_alloc] at hz17
  have Tw017 := Lib.hid (Tw016.out.keeps hb17)
  clear Tw016
  clear tbw016 tcw016
  obtain ⟨taw017, tbw017, tcw017, _, _⟩ := Tw017.out
  have Tg017 := Lib.hid (Tg016.out.keeps hb17)
  clear Tg016
  clear tbg016 tcg016
  obtain ⟨tag017, tbg017, tcg017, _, _⟩ := Tg017.out
  have Th017 := Lib.hid (Th016.out.keeps hb17)
  clear Th016
  clear tbh016 tch016
  obtain ⟨tah017, tbh017, tch017, _, _⟩ := Th017.out
  have R40 := Lib.hid (R36.out.keeps hb17)
  clear R36
  have R41 := Lib.hid (R37.out.keeps hb17)
  clear R37
  have R42 := Lib.hid (R38.out.keeps hb17)
  clear R38
  have R43 := Lib.hid (R39.out.keeps hb17)
  clear R39
  have B17 : Hid (Below w.heap.size w w17) := B16.out.trans (hb17.mono (by first | omega | (simp only [World.size_alloc]; omega)))
  clear hb17
  go_wp2_with fail
  refine (heldCx_any _ _ _ _ r0.length _ 1 (by first | rfl | omega) (by omega) (by omega) _ R42.out).mono ?_
  rintro e w18 ⟨rfl, hb18⟩
  have hz18 := hb18.size
  try simp only [World.size_alloc] at hz18
  have Tw018 := Lib.hid (Tw017.out.keeps hb18)
  clear Tw017
  clear tbw017 tcw017
  obtain ⟨taw018, tbw018, tcw018, _, _⟩ := Tw018.out
  have Tg018 := Lib.hid (Tg017.out.keeps hb18)
  clear Tg017
  clear tbg017 tcg017
  obtain ⟨tag018, tbg018, tcg018, _, _⟩ := Tg018.out
  have Th018 := Lib.hid (Th017.out.keeps hb18)
  clear Th017
  clear tbh017 tch017
  obtain ⟨tah018, tbh018, tch018, _, _⟩ := Th018.out
  have R44 := Lib.hid (R40.out.keeps hb18)
  clear R40
  have R45 := Lib.hid (R41.out.keeps hb18)
  clear R41
  have R46 := Lib.hid (R42.out.keeps hb18)
  clear R42
  have R47 := Lib.hid (R43.out.keeps hb18)
  clear R43
  have B18 : Hid (Below w.heap.size w w18) := B17.out.trans (hb18.mono (by first | omega | (simp only [World.size_alloc]; omega)))
  clear hb18
  go_wp2
  go_ret
  exact ⟨rfl, B18.out⟩

end Go.Proofs.Ytamoejjkaebhkaa
