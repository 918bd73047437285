/-
  THE WALK of the law on RenameComplex: the law's own text; spec's and impl's answers are premises.
-/
import Derived.Test.YtbkkdgmiokdbmaaHas
import Derived.Deep.RegionHeld3
namespace Go.Proofs.Ytbkkdgmiokdbmaa
open Go.RowKit

set_option maxRecDepth 100000 in
set_option maxHeartbeats 4000000 in
theorem exactRenameComplex_walk (naC : Int) (paC : Option Addr) (caC : Nat) (xaC : List Int) (paNames : Option Addr) (caNames : Nat) (xaNames : List Int) (w : World) (r0n : Int) (r0 : List Int) (r1 : Bool) (hlenaC : xaC.length ≤ 9223372036854775807) (haC : Ints w paC xaC) (hlenaNames : xaNames.length ≤ 9223372036854775807) (haNames : Ints w paNames xaNames) (hr0 : r0.length ≤ 1048576)
    (hs : ∀ (w : World) (qaC : Option Addr) (daC : Nat) (qaNames : Option Addr) (daNames : Nat), xaC.length ≤ 1048576 → xaNames.length ≤ 1048576 → xaC.length ≤ daC → Ints w qaC xaC → xaNames.length ≤ daNames → Ints w qaNames xaNames → Calls Try.prog 14 #[cx naC (.slice qaC xaC.length daC), .slice qaNames xaNames.length daNames] w fun e w' => ∃ v0, e = .returned (.tuple #[cx r0n v0, .bool r1]) ∧ HasInts w' w.heap.size v0 r0 ∧ Below w.heap.size w w')
    (hi : ∀ (w : World) (qaC : Option Addr) (daC : Nat) (qaNames : Option Addr) (daNames : Nat), xaC.length ≤ 1048576 → xaNames.length ≤ 1048576 → xaC.length ≤ daC → Ints w qaC xaC → xaNames.length ≤ daNames → Ints w qaNames xaNames → Calls Try.prog 16 #[cx naC (.slice qaC xaC.length daC), .slice qaNames xaNames.length daNames] w fun e w' => ∃ v0, e = .returned (.tuple #[cx r0n v0, .bool r1]) ∧ HasInts w' w.heap.size v0 r0 ∧ Below w.heap.size w w') :
    Calls Try.prog 4 #[cx naC (.slice paC xaC.length caC), .slice paNames xaNames.length caNames] w fun e w' => e = .returned (.bool true) ∧ Below w.heap.size w w' := by
  have HS := Lib.hid hs
  have HI := Lib.hid hi
  clear hs hi
  have HaC := Lib.hid haC
  clear haC
  have HaNames := Lib.hid haNames
  clear haNames
  have txaC := Two.new w (.int .i64 naC) (.slice paC xaC.length caC) 29
  have TXaC := Lib.hid txaC
  clear txaC
  have hbx : Below w.heap.size w (w.alloc (Obj.cells #[Value.int IntKind.i64 naC, Value.slice paC xaC.length caC] 29)) := ((Below.refl _ _).alloc (by simp) _)
  have HBX := Lib.hid hbx
  have hzx := hbx.size
  simp only [World.size_alloc] at hzx
  clear hbx
  by_cases hbigaNames : 1048576 < (xaNames.length : Int)
  · go_enter Try.func4, Try.ntmps4
    go_wp2
    go_ret
    exact ⟨rfl, HBX.out⟩
  have hsaNames : xaNames.length ≤ 1048576 := by omega
  by_cases hokaC : xaC.length ≤ 1048576
  case neg =>
    go_enter Try.func4, Try.ntmps4
    go_wp2_with fail
    refine (szCx_big _ _ _ xaC hlenaC _ (1048576) (by first | rfl | omega) (by omega) hokaC _).mono ?_
    rintro e vaC ⟨rfl, hvaC⟩
    go_wp2
    go_ret
    exact ⟨rfl, (HBX.out.trans (hvaC.mono HBX.out.size))⟩
  have hsaC : xaC.length ≤ 1048576 := by omega
  go_enter Try.func4, Try.ntmps4
  go_wp2_with fail
  refine (szCx_ok _ _ _ xaC _ (1048576) (by first | rfl | omega) (by omega) hokaC _).mono ?_
  rintro e w1 ⟨rfl, hb1⟩
  have hz1 : w.heap.size ≤ w1.heap.size := Nat.le_trans HBX.out.size hb1.size
  have B1 : Hid (Below w.heap.size w w1) := HBX.out.trans (hb1.mono HBX.out.size)
  have TaC1 := Lib.hid (TXaC.out.keeps hb1)
  obtain ⟨taaC1, tbaC1, tcaC1, _, _⟩ := TaC1.out
  clear hb1
  go_wp2_with fail
  refine (toCx_any naC _ _ xaC hsaC _ (HaC.out.keeps B1.out)).mono ?_
  rintro e w2 ⟨g2, rfl, hge2, hlt2, hr2, hb2⟩
  try simp only [World.size_alloc] at hge2
  have F2 := Lib.hid hr2
  clear hr2
  have hz2 := hb2.size
  try simp only [World.size_alloc] at hz2
  have TaC2 := Lib.hid (TaC1.out.keeps hb2)
  clear TaC1
  clear tbaC1 tcaC1
  obtain ⟨taaC2, tbaC2, tcaC2, _, _⟩ := TaC2.out
  have B2 : Hid (Below w.heap.size w w2) := B1.out.trans (hb2.mono (by first | omega | (simp only [World.size_alloc]; omega)))
  clear hb2
  go_wp2_with fail
  refine (toInt_any _ _ xaNames hsaNames _ (HaNames.out.keeps B2.out)).mono ?_
  rintro e w3 ⟨rfl, hlt3, hr3, hb3⟩
  try simp only [World.size_alloc] at hlt3 hr3
  have F3 := Lib.hid hr3
  clear hr3
  have hz3 := hb3.size
  try simp only [World.size_alloc] at hz3
  have TaC3 := Lib.hid (TaC2.out.keeps hb3)
  clear TaC2
  clear tbaC2 tcaC2
  obtain ⟨taaC3, tbaC3, tcaC3, _, _⟩ := TaC3.out
  have R3 := Lib.hid (F2.out.keeps hb3)
  have B3 : Hid (Below w.heap.size w w3) := B2.out.trans (hb3.mono (by first | omega | (simp only [World.size_alloc]; omega)))
  clear hb3
  go_wp2_with fail
  refine ((HS.out _ _ _ _ _ hsaC hsaNames (Nat.le_refl _) R3.out.ints (Nat.le_refl _) F3.out.ints).mono ?_)
  rintro e w4 ⟨v4_0, rfl, hO4_0, hb4⟩
  obtain ⟨a4_0, c4_0, g4_0, rfl, _, hg4_0, hr4_0, hd4_0⟩ := hO4_0.ata hb4.size
  try simp only [World.size_alloc] at hg4_0
  have F4_0 := Lib.hid hr4_0
  clear hO4_0 hr4_0
  have hz4 := hb4.size
  try simp only [World.size_alloc] at hz4
  have TaC4 := Lib.hid (TaC3.out.keeps hb4)
  clear TaC3
  clear tbaC3 tcaC3
  obtain ⟨taaC4, tbaC4, tcaC4, _, _⟩ := TaC4.out
  have B4 : Hid (Below w.heap.size w w4) := B3.out.trans (hb4.mono (by first | omega | (simp only [World.size_alloc]; omega)))
  clear hb4
  have hb5 : Below w4.heap.size w4 (w4.alloc (Obj.cells #[Value.int IntKind.i64 r0n, .slice a4_0 r0.length c4_0] 31)) := (Below.refl _ _).alloc (Nat.le_refl _) _
  have hz5 := hb5.size
  try simp only [World.size_alloc] at hz5
  have TaC5 := Lib.hid (TaC4.out.keeps hb5)
  clear TaC4
  obtain ⟨taaC5, tbaC5, tcaC5, _, _⟩ := TaC5.out
  have R4 := Lib.hid (F4_0.out.keeps hb5)
  have B5 : Hid (Below w.heap.size w (w4.alloc (Obj.cells #[Value.int IntKind.i64 r0n, .slice a4_0 r0.length c4_0] 31))) := B4.out.trans (hb5.mono (by first | omega | (simp only [World.size_alloc]; omega)))
  clear hb5
  have Tw05 := Lib.hid (Two.new w4 (.int .i64 r0n) (.slice a4_0 r0.length c4_0) 31)
  obtain ⟨taw05, tbw05, tcw05, _, _⟩ := Tw05.out
  go_wp2_with fail
  refine (toCx_any naC _ _ xaC hsaC _ (HaC.out.keeps B5.out)).mono ?_
  rintro e w6 ⟨g6, rfl, hge6, hlt6, hr6, hb6⟩
  try simp only [World.size_alloc] at hge6
  have F6 := Lib.hid hr6
  clear hr6
  have hz6 := hb6.size
  try simp only [World.size_alloc] at hz6
  have TaC6 := Lib.hid (TaC5.out.keeps hb6)
  clear TaC5
  clear tbaC5 tcaC5
  obtain ⟨taaC6, tbaC6, tcaC6, _, _⟩ := TaC6.out
  have Tw06 := Lib.hid (Tw05.out.keeps hb6)
  clear Tw05
  clear tbw05 tcw05
  obtain ⟨taw06, tbw06, tcw06, _, _⟩ := Tw06.out
  have R5 := Lib.hid (R4.out.keeps hb6)
  clear R4
  have B6 : Hid (Below w.heap.size w w6) := B5.out.trans (hb6.mono (by first | omega | (simp only [World.size_alloc]; omega)))
  clear hb6
  have hb7 : Below w6.heap.size w6 (w6.alloc (Obj.cells #[Value.int IntKind.i64 naC, .slice (some ⟨g6, 0, none⟩) xaC.length xaC.length] 31)) := (Below.refl _ _).alloc (Nat.le_refl _) _
  have hz7 := hb7.size
  try simp only [World.size_alloc] at hz7
  have TaC7 := Lib.hid (TaC6.out.keeps hb7)
  clear TaC6
  obtain ⟨taaC7, tbaC7, tcaC7, _, _⟩ := TaC7.out
  have Tw07 := Lib.hid (Tw06.out.keeps hb7)
  clear Tw06
  obtain ⟨taw07, tbw07, tcw07, _, _⟩ := Tw07.out
  have R6 := Lib.hid (R5.out.keeps hb7)
  clear R5
  have R7 := Lib.hid (F6.out.keeps hb7)
  have B7 : Hid (Below w.heap.size w (w6.alloc (Obj.cells #[Value.int IntKind.i64 naC, .slice (some ⟨g6, 0, none⟩) xaC.length xaC.length] 31))) := B6.out.trans (hb7.mono (by first | omega | (simp only [World.size_alloc]; omega)))
  clear hb7
  have Tx07 := Lib.hid (Two.new w6 (.int .i64 naC) (.slice (some ⟨g6, 0, none⟩) xaC.length xaC.length) 31)
  obtain ⟨tax07, tbx07, tcx07, _, _⟩ := Tx07.out
  go_wp2_with fail
  refine (toInt_any _ _ xaNames hsaNames _ (HaNames.out.keeps B7.out)).mono ?_
  rintro e w8 ⟨rfl, hlt8, hr8, hb8⟩
  try simp only [World.size_alloc] at hlt8 hr8
  have F8 := Lib.hid hr8
  clear hr8
  have hz8 := hb8.size
  try simp only [World.size_alloc] at hz8
  have TaC8 := Lib.hid (TaC7.out.keeps hb8)
  clear TaC7
  clear tbaC7 tcaC7
  obtain ⟨taaC8, tbaC8, tcaC8, _, _⟩ := TaC8.out
  have Tw08 := Lib.hid (Tw07.out.keeps hb8)
  clear Tw07
  clear tbw07 tcw07
  obtain ⟨taw08, tbw08, tcw08, _, _⟩ := Tw08.out
  have Tx08 := Lib.hid (Tx07.out.keeps hb8)
  clear Tx07
  clear tbx07 tcx07
  obtain ⟨tax08, tbx08, tcx08, _, _⟩ := Tx08.out
  have R8 := Lib.hid (R6.out.keeps hb8)
  clear R6
  have R9 := Lib.hid (R7.out.keeps hb8)
  clear R7
  have B8 : Hid (Below w.heap.size w w8) := B7.out.trans (hb8.mono (by first | omega | (simp only [World.size_alloc]; omega)))
  clear hb8
  go_wp2_with fail
  refine ((HI.out _ _ _ _ _ hsaC hsaNames (Nat.le_refl _) R9.out.ints (Nat.le_refl _) F8.out.ints).mono ?_)
  rintro e w9 ⟨v9_0, rfl, hO9_0, hb9⟩
  obtain ⟨a9_0, c9_0, g9_0, rfl, _, hg9_0, hr9_0, hd9_0⟩ := hO9_0.ata hb9.size
  try simp only [World.size_alloc] at hg9_0
  have F9_0 := Lib.hid hr9_0
  clear hO9_0 hr9_0
  have hz9 := hb9.size
  try simp only [World.size_alloc] at hz9
  have TaC9 := Lib.hid (TaC8.out.keeps hb9)
  clear TaC8
  clear tbaC8 tcaC8
  obtain ⟨taaC9, tbaC9, tcaC9, _, _⟩ := TaC9.out
  have Tw09 := Lib.hid (Tw08.out.keeps hb9)
  clear Tw08
  clear tbw08 tcw08
  obtain ⟨taw09, tbw09, tcw09, _, _⟩ := Tw09.out
  have Tx09 := Lib.hid (Tx08.out.keeps hb9)
  clear Tx08
  clear tbx08 tcx08
  obtain ⟨tax09, tbx09, tcx09, _, _⟩ := Tx09.out
  have R10 := Lib.hid (R8.out.keeps hb9)
  clear R8
  have R11 := Lib.hid (R9.out.keeps hb9)
  clear R9
  have R12 := Lib.hid (F8.out.keeps hb9)
  have B9 : Hid (Below w.heap.size w w9) := B8.out.trans (hb9.mono (by first | omega | (simp only [World.size_alloc]; omega)))
  clear hb9
  have hb10 : Below w9.heap.size w9 (w9.alloc (Obj.cells #[Value.int IntKind.i64 r0n, .slice a9_0 r0.length c9_0] 31)) := (Below.refl _ _).alloc (Nat.le_refl _) _
  have hz10 := hb10.size
  try simp only [World.size_alloc] at hz10
  have TaC10 := Lib.hid (TaC9.out.keeps hb10)
  clear TaC9
  obtain ⟨taaC10, tbaC10, tcaC10, _, _⟩ := TaC10.out
  have Tw010 := Lib.hid (Tw09.out.keeps hb10)
  clear Tw09
  obtain ⟨taw010, tbw010, tcw010, _, _⟩ := Tw010.out
  have Tx010 := Lib.hid (Tx09.out.keeps hb10)
  clear Tx09
  obtain ⟨tax010, tbx010, tcx010, _, _⟩ := Tx010.out
  have R13 := Lib.hid (R10.out.keeps hb10)
  clear R10
  have R14 := Lib.hid (R11.out.keeps hb10)
  clear R11
  have R15 := Lib.hid (R12.out.keeps hb10)
  clear R12
  have R16 := Lib.hid (F9_0.out.keeps hb10)
  have B10 : Hid (Below w.heap.size w (w9.alloc (Obj.cells #[Value.int IntKind.i64 r0n, .slice a9_0 r0.length c9_0] 31))) := B9.out.trans (hb10.mono (by first | omega | (simp only [World.size_alloc]; omega)))
  clear hb10
  have Tg010 := Lib.hid (Two.new w9 (.int .i64 r0n) (.slice a9_0 r0.length c9_0) 31)
  obtain ⟨tag010, tbg010, tcg010, _, _⟩ := Tg010.out
  go_wp2_with fail
  refine (eqCx_any _ _ _ _ _ r0 (by omega) _ R16.out.ints R13.out.ints).mono ?_
  rintro e w11 ⟨rfl, hb11⟩
  have hz11 := hb11.size
  try simp only [World.size_alloc] at hz11
  have TaC11 := Lib.hid (TaC10.out.keeps hb11)
  clear TaC10
  clear tbaC10 tcaC10
  obtain ⟨taaC11, tbaC11, tcaC11, _, _⟩ := TaC11.out
  have Tw011 := Lib.hid (Tw010.out.keeps hb11)
  clear Tw010
  clear tbw010 tcw010
  obtain ⟨taw011, tbw011, tcw011, _, _⟩ := Tw011.out
  have Tx011 := Lib.hid (Tx010.out.keeps hb11)
  clear Tx010
  clear tbx010 tcx010
  obtain ⟨tax011, tbx011, tcx011, _, _⟩ := Tx011.out
  have Tg011 := Lib.hid (Tg010.out.keeps hb11)
  clear Tg010
  clear tbg010 tcg010
  obtain ⟨tag011, tbg011, tcg011, _, _⟩ := Tg011.out
  have R17 := Lib.hid (R13.out.keeps hb11)
  clear R13
  have R18 := Lib.hid (R14.out.keeps hb11)
  clear R14
  have R19 := Lib.hid (R15.out.keeps hb11)
  clear R15
  have R20 := Lib.hid (R16.out.keeps hb11)
  clear R16
  have B11 : Hid (Below w.heap.size w w11) := B10.out.trans (hb11.mono (by first | omega | (simp only [World.size_alloc]; omega)))
  clear hb11
  go_wp2_with fail
  go_region_held3 (fun w' => w'.cell? ⟨w6.heap.size, 0, none⟩ = some (.int .i64 naC) ∧ w'.cell? ⟨w6.heap.size, 1, none⟩ = some (.slice (some ⟨g6, 0, none⟩) xaC.length xaC.length) ∧ w'.cell? ⟨w.heap.size, 0, none⟩ = some (.int .i64 naC) ∧ w'.cell? ⟨w.heap.size, 1, none⟩ = some (.slice paC xaC.length caC) ∧ Below w11.heap.size w11 w') (first | (exact ⟨Tx011.out.drew.2.1, Tx011.out.drew.2.2.1, TaC11.out.drew.2.1, TaC11.out.drew.2.2.1, bdrew1 _⟩) | (exact ⟨(Tx011.out.keeps (below_fresh hbA12)).2.1, (Tx011.out.keeps (below_fresh hbA12)).2.2.1, (TaC11.out.keeps (below_fresh hbA12)).2.1, (TaC11.out.keeps (below_fresh hbA12)).2.2.1, below_fresh hbA12⟩) | (exact ⟨((Tx011.out.keeps (below_fresh hbA12)).keeps hbB12).2.1, ((Tx011.out.keeps (below_fresh hbA12)).keeps hbB12).2.2.1, ((TaC11.out.keeps (below_fresh hbA12)).keeps hbB12).2.1, ((TaC11.out.keeps (below_fresh hbA12)).keeps hbB12).2.2.1, (below_fresh hbA12).trans (hbB12.mono (below_fresh hbA12).size)⟩)) (first | (go_at_call 15; refine (toCx_any naC _ _ xaC hsaC _ (Ints.drew (HaC.out.keeps B11.out))).mono ?_; rintro e wA12 ⟨gA12, rfl, hgeA12, hltA12, hrA12, hbA12⟩) | (go_at_call 17; refine (eqCx_any _ _ _ _ _ xaC (by omega) _ (R18.out.keeps (below_fresh hbA12)).ints hrA12.ints).mono ?_; rintro e w12 ⟨rfl, hbB12⟩))
  have hb12 : Below w11.heap.size w11 w12 := (below_fresh hbA12).trans (hbB12.mono (below_fresh hbA12).size)
  have hz12 := hb12.size
  try simp only [World.size_alloc] at hz12
  have TaC12 := Lib.hid (TaC11.out.keeps hb12)
  clear TaC11
  clear tbaC11 tcaC11
  obtain ⟨taaC12, tbaC12, tcaC12, _, _⟩ := TaC12.out
  have Tw012 := Lib.hid (Tw011.out.keeps hb12)
  clear Tw011
  clear tbw011 tcw011
  obtain ⟨taw012, tbw012, tcw012, _, _⟩ := Tw012.out
  have Tx012 := Lib.hid (Tx011.out.keeps hb12)
  clear Tx011
  clear tbx011 tcx011
  obtain ⟨tax012, tbx012, tcx012, _, _⟩ := Tx012.out
  have Tg012 := Lib.hid (Tg011.out.keeps hb12)
  clear Tg011
  clear tbg011 tcg011
  obtain ⟨tag012, tbg012, tcg012, _, _⟩ := Tg012.out
  have R21 := Lib.hid (R17.out.keeps hb12)
  clear R17
  have R22 := Lib.hid (R18.out.keeps hb12)
  clear R18
  have R23 := Lib.hid (R19.out.keeps hb12)
  clear R19
  have R24 := Lib.hid (R20.out.keeps hb12)
  clear R20
  have B12 : Hid (Below w.heap.size w w12) := B11.out.trans (hb12.mono (by first | omega | (simp only [World.size_alloc]; omega)))
  clear hb12
  go_wp2_with fail
  refine (toInt_any _ _ xaNames hsaNames _ (HaNames.out.keeps B12.out)).mono ?_
  rintro e w13 ⟨rfl, hlt13, hr13, hb13⟩
  try simp only [World.size_alloc] at hlt13 hr13
  have F13 := Lib.hid hr13
  clear hr13
  have hz13 := hb13.size
  try simp only [World.size_alloc] at hz13
  have TaC13 := Lib.hid (TaC12.out.keeps hb13)
  clear TaC12
  clear tbaC12 tcaC12
  obtain ⟨taaC13, tbaC13, tcaC13, _, _⟩ := TaC13.out
  have Tw013 := Lib.hid (Tw012.out.keeps hb13)
  clear Tw012
  clear tbw012 tcw012
  obtain ⟨taw013, tbw013, tcw013, _, _⟩ := Tw013.out
  have Tx013 := Lib.hid (Tx012.out.keeps hb13)
  clear Tx012
  clear tbx012 tcx012
  obtain ⟨tax013, tbx013, tcx013, _, _⟩ := Tx013.out
  have Tg013 := Lib.hid (Tg012.out.keeps hb13)
  clear Tg012
  clear tbg012 tcg012
  obtain ⟨tag013, tbg013, tcg013, _, _⟩ := Tg013.out
  have R26 := Lib.hid (R21.out.keeps hb13)
  clear R21
  have R27 := Lib.hid (R22.out.keeps hb13)
  clear R22
  have R28 := Lib.hid (R23.out.keeps hb13)
  clear R23
  have R29 := Lib.hid (R24.out.keeps hb13)
  clear R24
  have B13 : Hid (Below w.heap.size w w13) := B12.out.trans (hb13.mono (by first | omega | (simp only [World.size_alloc]; omega)))
  clear hb13
  go_wp2_with fail
  refine (eqInt_any _ _ _ _ xaNames (by omega) _ R28.out.ints F13.out.ints).mono ?_
  rintro e w14 ⟨rfl, hb14⟩
  have hz14 := hb14.size
  try simp only [World.size_alloc] at hz14
  have TaC14 := Lib.hid (TaC13.out.keeps hb14)
  clear TaC13
  clear tbaC13 tcaC13
  obtain ⟨taaC14, tbaC14, tcaC14, _, _⟩ := TaC14.out
  have Tw014 := Lib.hid (Tw013.out.keeps hb14)
  clear Tw013
  clear tbw013 tcw013
  obtain ⟨taw014, tbw014, tcw014, _, _⟩ := Tw014.out
  have Tx014 := Lib.hid (Tx013.out.keeps hb14)
  clear Tx013
  clear tbx013 tcx013
  obtain ⟨tax014, tbx014, tcx014, _, _⟩ := Tx014.out
  have Tg014 := Lib.hid (Tg013.out.keeps hb14)
  clear Tg013
  clear tbg013 tcg013
  obtain ⟨tag014, tbg014, tcg014, _, _⟩ := Tg014.out
  have R30 := Lib.hid (R26.out.keeps hb14)
  clear R26
  have R31 := Lib.hid (R27.out.keeps hb14)
  clear R27
  have R32 := Lib.hid (R28.out.keeps hb14)
  clear R28
  have R33 := Lib.hid (R29.out.keeps hb14)
  clear R29
  have B14 : Hid (Below w.heap.size w w14) := B13.out.trans (hb14.mono (by first | omega | (simp only [World.size_alloc]; omega)))
  clear hb14
  go_wp2_with fail
  refine (markCx_any _ _ _ _ xaC _ 1 (by first | rfl | omega) (by omega) (by omega) _ R31.out).mono ?_
  rintro e w15 ⟨rfl, hr15, hgb15⟩
  have M15 := Lib.hid hr15
  have G15 := Lib.hid hgb15
  clear hr15 hgb15
  clear R31
  have hz15 := G15.out.size
  try simp only [World.size_alloc] at hz15
  have TaC15 := Lib.hid (TaC14.out.far G15.out (by omega))
  clear TaC14
  clear tbaC14 tcaC14
  obtain ⟨taaC15, tbaC15, tcaC15, _, _⟩ := TaC15.out
  have Tw015 := Lib.hid (Tw014.out.far G15.out (by omega))
  clear Tw014
  clear tbw014 tcw014
  obtain ⟨taw015, tbw015, tcw015, _, _⟩ := Tw015.out
  have Tx015 := Lib.hid (Tx014.out.far G15.out (by omega))
  clear Tx014
  clear tbx014 tcx014
  obtain ⟨tax015, tbx015, tcx015, _, _⟩ := Tx015.out
  have Tg015 := Lib.hid (Tg014.out.far G15.out (by omega))
  clear Tg014
  clear tbg014 tcg014
  obtain ⟨tag015, tbg015, tcg015, _, _⟩ := Tg015.out
  have R34 := Lib.hid (IntsAt.fars F4_0.out R30.out G15.out (by omega))
  clear R30
  have R35 := Lib.hid (R32.out.far G15.out (by omega))
  clear R32
  have R36 := Lib.hid (R33.out.far G15.out (by omega))
  clear R33
  have B15 : Hid (Below w.heap.size w w15) := B14.out.trans (Mem.below_of_but G15.out (by first | omega | (simp only [World.size_alloc]; omega)) (by first | omega | (simp only [World.size_alloc]; omega)))
  go_wp2_with fail
  refine (markInt_any _ _ _ xaNames _ (1 + xaC.length) (by first | rfl | omega) (by omega) (by omega) _ R35.out).mono ?_
  rintro e w16 ⟨rfl, hr16, hgb16⟩
  have M16 := Lib.hid hr16
  have G16 := Lib.hid hgb16
  clear hr16 hgb16
  clear R35
  have hz16 := G16.out.size
  try simp only [World.size_alloc] at hz16
  have TaC16 := Lib.hid (TaC15.out.far G16.out (by omega))
  clear TaC15
  clear tbaC15 tcaC15
  obtain ⟨taaC16, tbaC16, tcaC16, _, _⟩ := TaC16.out
  have Tw016 := Lib.hid (Tw015.out.far G16.out (by omega))
  clear Tw015
  clear tbw015 tcw015
  obtain ⟨taw016, tbw016, tcw016, _, _⟩ := Tw016.out
  have Tx016 := Lib.hid (Tx015.out.far G16.out (by omega))
  clear Tx015
  clear tbx015 tcx015
  obtain ⟨tax016, tbx016, tcx016, _, _⟩ := Tx016.out
  have Tg016 := Lib.hid (Tg015.out.far G16.out (by omega))
  clear Tg015
  clear tbg015 tcg015
  obtain ⟨tag016, tbg016, tcg016, _, _⟩ := Tg016.out
  have R37 := Lib.hid (IntsAt.fars F4_0.out R34.out G16.out (by omega))
  clear R34
  have R38 := Lib.hid (IntsAt.farl F6.out M15.out G16.out (by omega) (by rw [imarks_length]; exact Nat.le_refl _))
  clear M15
  have R39 := Lib.hid (R36.out.far G16.out (by omega))
  clear R36
  have B16 : Hid (Below w.heap.size w w16) := B15.out.trans (Mem.below_of_but G16.out (by first | omega | (simp only [World.size_alloc]; omega)) (by first | omega | (simp only [World.size_alloc]; omega)))
  go_wp2_with fail
  refine (eqCx_any _ _ _ _ _ r0 (by omega) _ R39.out.ints R37.out.ints).mono ?_
  rintro e w17 ⟨rfl, hb17⟩
  have hz17 := hb17.size
  try simp only [World.size_alloc] at hz17
  have TaC17 := Lib.hid (TaC16.out.keeps hb17)
  clear TaC16
  clear tbaC16 tcaC16
  obtain ⟨taaC17, tbaC17, tcaC17, _, _⟩ := TaC17.out
  have Tw017 := Lib.hid (Tw016.out.keeps hb17)
  clear Tw016
  clear tbw016 tcw016
  obtain ⟨taw017, tbw017, tcw017, _, _⟩ := Tw017.out
  have Tx017 := Lib.hid (Tx016.out.keeps hb17)
  clear Tx016
  clear tbx016 tcx016
  obtain ⟨tax017, tbx017, tcx017, _, _⟩ := Tx017.out
  have Tg017 := Lib.hid (Tg016.out.keeps hb17)
  clear Tg016
  clear tbg016 tcg016
  obtain ⟨tag017, tbg017, tcg017, _, _⟩ := Tg017.out
  have R40 := Lib.hid (R37.out.keeps hb17)
  clear R37
  have R41 := Lib.hid (R38.out.keeps hb17)
  clear R38
  have R42 := Lib.hid (M16.out.keeps hb17)
  clear M16
  have R43 := Lib.hid (R39.out.keeps hb17)
  clear R39
  have B17 : Hid (Below w.heap.size w w17) := B16.out.trans (hb17.mono (by first | omega | (simp only [World.size_alloc]; omega)))
  clear hb17
  go_wp2_with fail
  refine (markCx_any _ _ _ _ r0 _ 1 (by first | rfl | omega) (by omega) (by omega) _ R43.out).mono ?_
  rintro e w18 ⟨rfl, hr18, hgb18⟩
  have M18 := Lib.hid hr18
  have G18 := Lib.hid hgb18
  clear hr18 hgb18
  clear R43
  have hz18 := G18.out.size
  try simp only [World.size_alloc] at hz18
  have TaC18 := Lib.hid (TaC17.out.far G18.out (by omega))
  clear TaC17
  clear tbaC17 tcaC17
  obtain ⟨taaC18, tbaC18, tcaC18, _, _⟩ := TaC18.out
  have Tw018 := Lib.hid (Tw017.out.far G18.out (by omega))
  clear Tw017
  clear tbw017 tcw017
  obtain ⟨taw018, tbw018, tcw018, _, _⟩ := Tw018.out
  have Tx018 := Lib.hid (Tx017.out.far G18.out (by omega))
  clear Tx017
  clear tbx017 tcx017
  obtain ⟨tax018, tbx018, tcx018, _, _⟩ := Tx018.out
  have Tg018 := Lib.hid (Tg017.out.far G18.out (by omega))
  clear Tg017
  clear tbg017 tcg017
  obtain ⟨tag018, tbg018, tcg018, _, _⟩ := Tg018.out
  have R44 := Lib.hid (IntsAt.fars F4_0.out R40.out G18.out (by omega))
  clear R40
  have R45 := Lib.hid (IntsAt.farl F6.out R41.out G18.out (by omega) (by rw [imarks_length]; exact Nat.le_refl _))
  clear R41
  have R46 := Lib.hid (IntsAt.farl F8.out R42.out G18.out (by omega) (by rw [imarks_length]; exact Nat.le_refl _))
  clear R42
  have B18 : Hid (Below w.heap.size w w18) := B17.out.trans (Mem.below_of_but G18.out (by first | omega | (simp only [World.size_alloc]; omega)) (by first | omega | (simp only [World.size_alloc]; omega)))
  go_wp2_with fail
  refine (heldCx_any _ _ _ _ r0.length _ 1 (by first | rfl | omega) (by omega) (by omega) _ M18.out).mono ?_
  rintro e w19 ⟨rfl, hb19⟩
  have hz19 := hb19.size
  try simp only [World.size_alloc] at hz19
  have TaC19 := Lib.hid (TaC18.out.keeps hb19)
  clear TaC18
  clear tbaC18 tcaC18
  obtain ⟨taaC19, tbaC19, tcaC19, _, _⟩ := TaC19.out
  have Tw019 := Lib.hid (Tw018.out.keeps hb19)
  clear Tw018
  clear tbw018 tcw018
  obtain ⟨taw019, tbw019, tcw019, _, _⟩ := Tw019.out
  have Tx019 := Lib.hid (Tx018.out.keeps hb19)
  clear Tx018
  clear tbx018 tcx018
  obtain ⟨tax019, tbx019, tcx019, _, _⟩ := Tx019.out
  have Tg019 := Lib.hid (Tg018.out.keeps hb19)
  clear Tg018
  clear tbg018 tcg018
  obtain ⟨tag019, tbg019, tcg019, _, _⟩ := Tg019.out
  have R47 := Lib.hid (R44.out.keeps hb19)
  clear R44
  have R48 := Lib.hid (R45.out.keeps hb19)
  clear R45
  have R49 := Lib.hid (R46.out.keeps hb19)
  clear R46
  have R50 := Lib.hid (M18.out.keeps hb19)
  clear M18
  have B19 : Hid (Below w.heap.size w w19) := B18.out.trans (hb19.mono (by first | omega | (simp only [World.size_alloc]; omega)))
  clear hb19
  go_wp2_with fail
  refine (toCx_any naC _ _ xaC hsaC _ (HaC.out.keeps B19.out)).mono ?_
  rintro e w20 ⟨g20, rfl, hge20, hlt20, hr20, hb20⟩
  try simp only [World.size_alloc] at hge20
  have F20 := Lib.hid hr20
  clear hr20
  have hz20 := hb20.size
  try simp only [World.size_alloc] at hz20
  have TaC20 := Lib.hid (TaC19.out.keeps hb20)
  clear TaC19
  clear tbaC19 tcaC19
  obtain ⟨taaC20, tbaC20, tcaC20, _, _⟩ := TaC20.out
  have Tw020 := Lib.hid (Tw019.out.keeps hb20)
  clear Tw019
  clear tbw019 tcw019
  obtain ⟨taw020, tbw020, tcw020, _, _⟩ := Tw020.out
  have Tx020 := Lib.hid (Tx019.out.keeps hb20)
  clear Tx019
  clear tbx019 tcx019
  obtain ⟨tax020, tbx020, tcx020, _, _⟩ := Tx020.out
  have Tg020 := Lib.hid (Tg019.out.keeps hb20)
  clear Tg019
  clear tbg019 tcg019
  obtain ⟨tag020, tbg020, tcg020, _, _⟩ := Tg020.out
  have R52 := Lib.hid (R47.out.keeps hb20)
  clear R47
  have R53 := Lib.hid (R48.out.keeps hb20)
  clear R48
  have R54 := Lib.hid (R49.out.keeps hb20)
  clear R49
  have R55 := Lib.hid (R50.out.keeps hb20)
  clear R50
  have B20 : Hid (Below w.heap.size w w20) := B19.out.trans (hb20.mono (by first | omega | (simp only [World.size_alloc]; omega)))
  clear hb20
  go_wp2_with fail
  refine (toInt_any _ _ xaNames hsaNames _ (HaNames.out.keeps B20.out)).mono ?_
  rintro e w21 ⟨rfl, hlt21, hr21, hb21⟩
  try simp only [World.size_alloc] at hlt21 hr21
  have F21 := Lib.hid hr21
  clear hr21
  have hz21 := hb21.size
  try simp only [World.size_alloc] at hz21
  have TaC21 := Lib.hid (TaC20.out.keeps hb21)
  clear TaC20
  clear tbaC20 tcaC20
  obtain ⟨taaC21, tbaC21, tcaC21, _, _⟩ := TaC21.out
  have Tw021 := Lib.hid (Tw020.out.keeps hb21)
  clear Tw020
  clear tbw020 tcw020
  obtain ⟨taw021, tbw021, tcw021, _, _⟩ := Tw021.out
  have Tx021 := Lib.hid (Tx020.out.keeps hb21)
  clear Tx020
  clear tbx020 tcx020
  obtain ⟨tax021, tbx021, tcx021, _, _⟩ := Tx021.out
  have Tg021 := Lib.hid (Tg020.out.keeps hb21)
  clear Tg020
  clear tbg020 tcg020
  obtain ⟨tag021, tbg021, tcg021, _, _⟩ := Tg021.out
  have R57 := Lib.hid (R52.out.keeps hb21)
  clear R52
  have R58 := Lib.hid (R53.out.keeps hb21)
  clear R53
  have R59 := Lib.hid (R54.out.keeps hb21)
  clear R54
  have R60 := Lib.hid (R55.out.keeps hb21)
  clear R55
  have R61 := Lib.hid (F20.out.keeps hb21)
  have B21 : Hid (Below w.heap.size w w21) := B20.out.trans (hb21.mono (by first | omega | (simp only [World.size_alloc]; omega)))
  clear hb21
  go_wp2_with fail
  refine ((HI.out _ _ _ _ _ hsaC hsaNames (Nat.le_refl _) R61.out.ints (Nat.le_refl _) F21.out.ints).mono ?_)
  rintro e w22 ⟨v22_0, rfl, hO22_0, hb22⟩
  obtain ⟨a22_0, c22_0, g22_0, rfl, _, hg22_0, hr22_0, hd22_0⟩ := hO22_0.ata hb22.size
  try simp only [World.size_alloc] at hg22_0
  have F22_0 := Lib.hid hr22_0
  clear hO22_0 hr22_0
  have hz22 := hb22.size
  try simp only [World.size_alloc] at hz22
  have TaC22 := Lib.hid (TaC21.out.keeps hb22)
  clear TaC21
  clear tbaC21 tcaC21
  obtain ⟨taaC22, tbaC22, tcaC22, _, _⟩ := TaC22.out
  have Tw022 := Lib.hid (Tw021.out.keeps hb22)
  clear Tw021
  clear tbw021 tcw021
  obtain ⟨taw022, tbw022, tcw022, _, _⟩ := Tw022.out
  have Tx022 := Lib.hid (Tx021.out.keeps hb22)
  clear Tx021
  clear tbx021 tcx021
  obtain ⟨tax022, tbx022, tcx022, _, _⟩ := Tx022.out
  have Tg022 := Lib.hid (Tg021.out.keeps hb22)
  clear Tg021
  clear tbg021 tcg021
  obtain ⟨tag022, tbg022, tcg022, _, _⟩ := Tg022.out
  have R62 := Lib.hid (R57.out.keeps hb22)
  clear R57
  have R63 := Lib.hid (R58.out.keeps hb22)
  clear R58
  have R64 := Lib.hid (R59.out.keeps hb22)
  clear R59
  have R65 := Lib.hid (R60.out.keeps hb22)
  clear R60
  have B22 : Hid (Below w.heap.size w w22) := B21.out.trans (hb22.mono (by first | omega | (simp only [World.size_alloc]; omega)))
  clear hb22
  have hb23 : Below w22.heap.size w22 (w22.alloc (Obj.cells #[Value.int IntKind.i64 r0n, .slice a22_0 r0.length c22_0] 31)) := (Below.refl _ _).alloc (Nat.le_refl _) _
  have hz23 := hb23.size
  try simp only [World.size_alloc] at hz23
  have TaC23 := Lib.hid (TaC22.out.keeps hb23)
  clear TaC22
  obtain ⟨taaC23, tbaC23, tcaC23, _, _⟩ := TaC23.out
  have Tw023 := Lib.hid (Tw022.out.keeps hb23)
  clear Tw022
  obtain ⟨taw023, tbw023, tcw023, _, _⟩ := Tw023.out
  have Tx023 := Lib.hid (Tx022.out.keeps hb23)
  clear Tx022
  obtain ⟨tax023, tbx023, tcx023, _, _⟩ := Tx023.out
  have Tg023 := Lib.hid (Tg022.out.keeps hb23)
  clear Tg022
  obtain ⟨tag023, tbg023, tcg023, _, _⟩ := Tg023.out
  have R66 := Lib.hid (R62.out.keeps hb23)
  clear R62
  have R67 := Lib.hid (R63.out.keeps hb23)
  clear R63
  have R68 := Lib.hid (R64.out.keeps hb23)
  clear R64
  have R69 := Lib.hid (R65.out.keeps hb23)
  clear R65
  have R70 := Lib.hid (F22_0.out.keeps hb23)
  have B23 : Hid (Below w.heap.size w (w22.alloc (Obj.cells #[Value.int IntKind.i64 r0n, .slice a22_0 r0.length c22_0] 31))) := B22.out.trans (hb23.mono (by first | omega | (simp only [World.size_alloc]; omega)))
  clear hb23
  have Th023 := Lib.hid (Two.new w22 (.int .i64 r0n) (.slice a22_0 r0.length c22_0) 31)
  obtain ⟨tah023, tbh023, tch023, _, _⟩ := Th023.out
  go_wp2_with fail
  refine (eqCx_any _ _ _ _ _ r0 (by omega) _ R70.out.ints R66.out.ints).mono ?_
  rintro e w24 ⟨rfl, hb24⟩
  have hz24 := hb24.size
  try simp only [World.size_alloc] at hz24
  have TaC24 := Lib.hid (TaC23.out.keeps hb24)
  clear TaC23
  clear tbaC23 tcaC23
  obtain ⟨taaC24, tbaC24, tcaC24, _, _⟩ := TaC24.out
  have Tw024 := Lib.hid (Tw023.out.keeps hb24)
  clear Tw023
  clear tbw023 tcw023
  obtain ⟨taw024, tbw024, tcw024, _, _⟩ := Tw024.out
  have Tx024 := Lib.hid (Tx023.out.keeps hb24)
  clear Tx023
  clear tbx023 tcx023
  obtain ⟨tax024, tbx024, tcx024, _, _⟩ := Tx024.out
  have Tg024 := Lib.hid (Tg023.out.keeps hb24)
  clear Tg023
  clear tbg023 tcg023
  obtain ⟨tag024, tbg024, tcg024, _, _⟩ := Tg024.out
  have Th024 := Lib.hid (Th023.out.keeps hb24)
  clear Th023
  clear tbh023 tch023
  obtain ⟨tah024, tbh024, tch024, _, _⟩ := Th024.out
  have R71 := Lib.hid (R66.out.keeps hb24)
  clear R66
  have R72 := Lib.hid (R67.out.keeps hb24)
  clear R67
  have R73 := Lib.hid (R68.out.keeps hb24)
  clear R68
  have R74 := Lib.hid (R69.out.keeps hb24)
  clear R69
  have R75 := Lib.hid (R70.out.keeps hb24)
  clear R70
  have B24 : Hid (Below w.heap.size w w24) := B23.out.trans (hb24.mono (by first | omega | (simp only [World.size_alloc]; omega)))
  clear hb24
  go_wp2_with fail
  refine (heldCx_any _ _ _ _ r0.length _ 1 (by first | rfl | omega) (by omega) (by omega) _ R74.out).mono ?_
  rintro e w25 ⟨rfl, hb25⟩
  have hz25 := hb25.size
  try simp only [World.size_alloc] at hz25
  have TaC25 := Lib.hid (TaC24.out.keeps hb25)
  clear TaC24
  clear tbaC24 tcaC24
  obtain ⟨taaC25, tbaC25, tcaC25, _, _⟩ := TaC25.out
  have Tw025 := Lib.hid (Tw024.out.keeps hb25)
  clear Tw024
  clear tbw024 tcw024
  obtain ⟨taw025, tbw025, tcw025, _, _⟩ := Tw025.out
  have Tx025 := Lib.hid (Tx024.out.keeps hb25)
  clear Tx024
  clear tbx024 tcx024
  obtain ⟨tax025, tbx025, tcx025, _, _⟩ := Tx025.out
  have Tg025 := Lib.hid (Tg024.out.keeps hb25)
  clear Tg024
  clear tbg024 tcg024
  obtain ⟨tag025, tbg025, tcg025, _, _⟩ := Tg025.out
  have Th025 := Lib.hid (Th024.out.keeps hb25)
  clear Th024
  clear tbh024 tch024
  obtain ⟨tah025, tbh025, tch025, _, _⟩ := Th025.out
  have R76 := Lib.hid (R71.out.keeps hb25)
  clear R71
  have R77 := Lib.hid (R72.out.keeps hb25)
  clear R72
  have R78 := Lib.hid (R73.out.keeps hb25)
  clear R73
  have R79 := Lib.hid (R74.out.keeps hb25)
  clear R74
  have R80 := Lib.hid (R75.out.keeps hb25)
  clear R75
  have B25 : Hid (Below w.heap.size w w25) := B24.out.trans (hb25.mono (by first | omega | (simp only [World.size_alloc]; omega)))
  clear hb25
  go_wp2
  go_ret
  exact ⟨rfl, B25.out⟩

end Go.Proofs.Ytbkkdgmiokdbmaa
