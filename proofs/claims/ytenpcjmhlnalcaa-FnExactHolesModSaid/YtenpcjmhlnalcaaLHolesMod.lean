/-
  THE WALK of the law on HolesMod: the law's own text; spec's and impl's answers are premises.
-/
import Derived.Test.YtenpcjmhlnalcaaHas
import Derived.Deep.RegionHeld3
namespace Go.Proofs.Ytenpcjmhlnalcaa
open Go.RowKit

set_option maxRecDepth 100000 in
set_option maxHeartbeats 4000000 in
theorem exactHolesMod_walk (naC : Int) (paC : Option Addr) (caC : Nat) (xaC : List Int) (aP : Int) (w : World) (r0 : List Int) (hlenaC : xaC.length ≤ 9223372036854775807) (haC : Ints w paC xaC) (hr0 : r0.length ≤ 1048576)
    (hs : ∀ (w : World) (qaC : Option Addr) (daC : Nat), xaC.length ≤ 1048576 → xaC.length ≤ daC → Ints w qaC xaC → Calls Try.prog 9 #[cx naC (.slice qaC xaC.length daC), .int .i64 aP] w fun e w' => ∃ v0, e = .returned v0 ∧ HasInts w' w.heap.size v0 r0 ∧ Below w.heap.size w w')
    (hi : ∀ (w : World) (qaC : Option Addr) (daC : Nat), xaC.length ≤ 1048576 → xaC.length ≤ daC → Ints w qaC xaC → Calls Try.prog 11 #[cx naC (.slice qaC xaC.length daC), .int .i64 aP] w fun e w' => ∃ v0, e = .returned v0 ∧ HasInts w' w.heap.size v0 r0 ∧ Below w.heap.size w w') :
    Calls Try.prog 3 #[cx naC (.slice paC xaC.length caC), .int .i64 aP] w fun e w' => e = .returned (.bool true) ∧ Below w.heap.size w w' := by
  have HS := Lib.hid hs
  have HI := Lib.hid hi
  clear hs hi
  have HaC := Lib.hid haC
  clear haC
  have txaC := Two.new w (.int .i64 naC) (.slice paC xaC.length caC) 24
  have TXaC := Lib.hid txaC
  clear txaC
  have hbx : Below w.heap.size w (w.alloc (Obj.cells #[Value.int IntKind.i64 naC, Value.slice paC xaC.length caC] 24)) := ((Below.refl _ _).alloc (by simp) _)
  have HBX := Lib.hid hbx
  have hzx := hbx.size
  simp only [World.size_alloc] at hzx
  clear hbx
  by_cases hokaC : xaC.length ≤ 1048576
  case neg =>
    go_enter Try.func3, Try.ntmps3
    go_wp2_with fail
    refine (szCx_big _ _ _ xaC hlenaC _ (1048576) (by first | rfl | omega) (by omega) hokaC _).mono ?_
    rintro e vaC ⟨rfl, hvaC⟩
    go_wp2
    go_ret
    exact ⟨rfl, (HBX.out.trans (hvaC.mono HBX.out.size))⟩
  have hsaC : xaC.length ≤ 1048576 := by omega
  go_enter Try.func3, Try.ntmps3
  go_wp2_with fail
  refine (szCx_ok _ _ _ xaC _ (1048576) (by first | rfl | omega) (by omega) hokaC _).mono ?_
  rintro e w1 ⟨rfl, hb1⟩
  have hz1 : w.heap.size ≤ w1.heap.size := Nat.le_trans HBX.out.size hb1.size
  have B1 : Hid (Below w.heap.size w w1) := HBX.out.trans (hb1.mono HBX.out.size)
  have TaC1 := Lib.hid (TXaC.out.keeps hb1)
  obtain ⟨taaC1, tbaC1, tcaC1, _, _⟩ := TaC1.out
  clear hb1
  go_wp2_with fail
  refine (toCx_any naC _ _ xaC hsaC _ (HaC.out.keeps B1.out)).mono ?_
  rintro e w2 ⟨g2, rfl, hge2, hlt2, hr2, hb2⟩
  try simp only [World.size_alloc] at hge2
  have F2 := Lib.hid hr2
  clear hr2
  have hz2 := hb2.size
  try simp only [World.size_alloc] at hz2
  have TaC2 := Lib.hid (TaC1.out.keeps hb2)
  clear TaC1
  clear tbaC1 tcaC1
  obtain ⟨taaC2, tbaC2, tcaC2, _, _⟩ := TaC2.out
  have B2 : Hid (Below w.heap.size w w2) := B1.out.trans (hb2.mono (by first | omega | (simp only [World.size_alloc]; omega)))
  clear hb2
  go_wp2_with fail
  refine ((HS.out _ _ _ hsaC (Nat.le_refl _) F2.out.ints).mono ?_)
  rintro e w3 ⟨v3_0, rfl, hO3_0, hb3⟩
  obtain ⟨a3_0, c3_0, g3_0, rfl, _, hg3_0, hr3_0, hd3_0⟩ := hO3_0.ata hb3.size
  try simp only [World.size_alloc] at hg3_0
  have F3_0 := Lib.hid hr3_0
  clear hO3_0 hr3_0
  have hz3 := hb3.size
  try simp only [World.size_alloc] at hz3
  have TaC3 := Lib.hid (TaC2.out.keeps hb3)
  clear TaC2
  clear tbaC2 tcaC2
  obtain ⟨taaC3, tbaC3, tcaC3, _, _⟩ := TaC3.out
  have B3 : Hid (Below w.heap.size w w3) := B2.out.trans (hb3.mono (by first | omega | (simp only [World.size_alloc]; omega)))
  clear hb3
  go_wp2_with fail
  refine (toCx_any naC _ _ xaC hsaC _ (HaC.out.keeps B3.out)).mono ?_
  rintro e w4 ⟨g4, rfl, hge4, hlt4, hr4, hb4⟩
  try simp only [World.size_alloc] at hge4
  have F4 := Lib.hid hr4
  clear hr4
  have hz4 := hb4.size
  try simp only [World.size_alloc] at hz4
  have TaC4 := Lib.hid (TaC3.out.keeps hb4)
  clear TaC3
  clear tbaC3 tcaC3
  obtain ⟨taaC4, tbaC4, tcaC4, _, _⟩ := TaC4.out
  have R2 := Lib.hid (F3_0.out.keeps hb4)
  have B4 : Hid (Below w.heap.size w w4) := B3.out.trans (hb4.mono (by first | omega | (simp only [World.size_alloc]; omega)))
  clear hb4
  have hb5 : Below w4.heap.size w4 (w4.alloc (Obj.cells #[Value.int IntKind.i64 naC, .slice (some ⟨g4, 0, none⟩) xaC.length xaC.length] 27)) := (Below.refl _ _).alloc (Nat.le_refl _) _
  have hz5 := hb5.size
  try simp only [World.size_alloc] at hz5
  have TaC5 := Lib.hid (TaC4.out.keeps hb5)
  clear TaC4
  obtain ⟨taaC5, tbaC5, tcaC5, _, _⟩ := TaC5.out
  have R3 := Lib.hid (R2.out.keeps hb5)
  clear R2
  have R4 := Lib.hid (F4.out.keeps hb5)
  have B5 : Hid (Below w.heap.size w (w4.alloc (Obj.cells #[Value.int IntKind.i64 naC, .slice (some ⟨g4, 0, none⟩) xaC.length xaC.length] 27))) := B4.out.trans (hb5.mono (by first | omega | (simp only [World.size_alloc]; omega)))
  clear hb5
  have Tx05 := Lib.hid (Two.new w4 (.int .i64 naC) (.slice (some ⟨g4, 0, none⟩) xaC.length xaC.length) 27)
  obtain ⟨tax05, tbx05, tcx05, _, _⟩ := Tx05.out
  go_wp2_with fail
  refine ((HI.out _ _ _ hsaC (Nat.le_refl _) R4.out.ints).mono ?_)
  rintro e w6 ⟨v6_0, rfl, hO6_0, hb6⟩
  obtain ⟨a6_0, c6_0, g6_0, rfl, _, hg6_0, hr6_0, hd6_0⟩ := hO6_0.ata hb6.size
  try simp only [World.size_alloc] at hg6_0
  have F6_0 := Lib.hid hr6_0
  clear hO6_0 hr6_0
  have hz6 := hb6.size
  try simp only [World.size_alloc] at hz6
  have TaC6 := Lib.hid (TaC5.out.keeps hb6)
  clear TaC5
  clear tbaC5 tcaC5
  obtain ⟨taaC6, tbaC6, tcaC6, _, _⟩ := TaC6.out
  have Tx06 := Lib.hid (Tx05.out.keeps hb6)
  clear Tx05
  clear tbx05 tcx05
  obtain ⟨tax06, tbx06, tcx06, _, _⟩ := Tx06.out
  have R5 := Lib.hid (R3.out.keeps hb6)
  clear R3
  have R6 := Lib.hid (R4.out.keeps hb6)
  clear R4
  have B6 : Hid (Below w.heap.size w w6) := B5.out.trans (hb6.mono (by first | omega | (simp only [World.size_alloc]; omega)))
  clear hb6
  go_wp2_with fail
  refine (eqInt_any _ _ _ _ r0 (by omega) _ F6_0.out.ints R5.out.ints).mono ?_
  rintro e w7 ⟨rfl, hb7⟩
  have hz7 := hb7.size
  try simp only [World.size_alloc] at hz7
  have TaC7 := Lib.hid (TaC6.out.keeps hb7)
  clear TaC6
  clear tbaC6 tcaC6
  obtain ⟨taaC7, tbaC7, tcaC7, _, _⟩ := TaC7.out
  have Tx07 := Lib.hid (Tx06.out.keeps hb7)
  clear Tx06
  clear tbx06 tcx06
  obtain ⟨tax07, tbx07, tcx07, _, _⟩ := Tx07.out
  have R7 := Lib.hid (R5.out.keeps hb7)
  clear R5
  have R8 := Lib.hid (R6.out.keeps hb7)
  clear R6
  have R9 := Lib.hid (F6_0.out.keeps hb7)
  have B7 : Hid (Below w.heap.size w w7) := B6.out.trans (hb7.mono (by first | omega | (simp only [World.size_alloc]; omega)))
  clear hb7
  go_wp2_with fail
  go_region_held3 (fun w' => w'.cell? ⟨w4.heap.size, 0, none⟩ = some (.int .i64 naC) ∧ w'.cell? ⟨w4.heap.size, 1, none⟩ = some (.slice (some ⟨g4, 0, none⟩) xaC.length xaC.length) ∧ w'.cell? ⟨w.heap.size, 0, none⟩ = some (.int .i64 naC) ∧ w'.cell? ⟨w.heap.size, 1, none⟩ = some (.slice paC xaC.length caC) ∧ Below w7.heap.size w7 w') (first | (exact ⟨Tx07.out.drew.2.1, Tx07.out.drew.2.2.1, TaC7.out.drew.2.1, TaC7.out.drew.2.2.1, bdrew1 _⟩) | (exact ⟨(Tx07.out.keeps (below_fresh hbA8)).2.1, (Tx07.out.keeps (below_fresh hbA8)).2.2.1, (TaC7.out.keeps (below_fresh hbA8)).2.1, (TaC7.out.keeps (below_fresh hbA8)).2.2.1, below_fresh hbA8⟩) | (exact ⟨((Tx07.out.keeps (below_fresh hbA8)).keeps hbB8).2.1, ((Tx07.out.keeps (below_fresh hbA8)).keeps hbB8).2.2.1, ((TaC7.out.keeps (below_fresh hbA8)).keeps hbB8).2.1, ((TaC7.out.keeps (below_fresh hbA8)).keeps hbB8).2.2.1, (below_fresh hbA8).trans (hbB8.mono (below_fresh hbA8).size)⟩)) (first | (go_at_call 10; refine (toCx_any naC _ _ xaC hsaC _ (Ints.drew (HaC.out.keeps B7.out))).mono ?_; rintro e wA8 ⟨gA8, rfl, hgeA8, hltA8, hrA8, hbA8⟩) | (go_at_call 13; refine (eqCx_any _ _ _ _ _ xaC (by omega) _ (R8.out.keeps (below_fresh hbA8)).ints hrA8.ints).mono ?_; rintro e w8 ⟨rfl, hbB8⟩))
  have hb8 : Below w7.heap.size w7 w8 := (below_fresh hbA8).trans (hbB8.mono (below_fresh hbA8).size)
  have hz8 := hb8.size
  try simp only [World.size_alloc] at hz8
  have TaC8 := Lib.hid (TaC7.out.keeps hb8)
  clear TaC7
  clear tbaC7 tcaC7
  obtain ⟨taaC8, tbaC8, tcaC8, _, _⟩ := TaC8.out
  have Tx08 := Lib.hid (Tx07.out.keeps hb8)
  clear Tx07
  clear tbx07 tcx07
  obtain ⟨tax08, tbx08, tcx08, _, _⟩ := Tx08.out
  have R10 := Lib.hid (R7.out.keeps hb8)
  clear R7
  have R11 := Lib.hid (R8.out.keeps hb8)
  clear R8
  have R12 := Lib.hid (R9.out.keeps hb8)
  clear R9
  have B8 : Hid (Below w.heap.size w w8) := B7.out.trans (hb8.mono (by first | omega | (simp only [World.size_alloc]; omega)))
  clear hb8
  go_wp2_with fail
  refine (markCx_any _ _ _ _ xaC _ 1 (by first | rfl | omega) (by omega) (by omega) _ R11.out).mono ?_
  rintro e w9 ⟨rfl, hr9, hgb9⟩
  have M9 := Lib.hid hr9
  have G9 := Lib.hid hgb9
  clear hr9 hgb9
  clear R11
  have hz9 := G9.out.size
  try simp only [World.size_alloc] at hz9
  have TaC9 := Lib.hid (TaC8.out.far G9.out (by omega))
  clear TaC8
  clear tbaC8 tcaC8
  obtain ⟨taaC9, tbaC9, tcaC9, _, _⟩ := TaC9.out
  have Tx09 := Lib.hid (Tx08.out.far G9.out (by omega))
  clear Tx08
  clear tbx08 tcx08
  obtain ⟨tax09, tbx09, tcx09, _, _⟩ := Tx09.out
  have R13 := Lib.hid (IntsAt.fars F3_0.out R10.out G9.out (by omega))
  clear R10
  have R14 := Lib.hid (R12.out.far G9.out (by omega))
  clear R12
  have B9 : Hid (Below w.heap.size w w9) := B8.out.trans (Mem.below_of_but G9.out (by first | omega | (simp only [World.size_alloc]; omega)) (by first | omega | (simp only [World.size_alloc]; omega)))
  go_wp2_with fail
  refine (eqInt_any _ _ _ _ r0 (by omega) _ R14.out.ints R13.out.ints).mono ?_
  rintro e w10 ⟨rfl, hb10⟩
  have hz10 := hb10.size
  try simp only [World.size_alloc] at hz10
  have TaC10 := Lib.hid (TaC9.out.keeps hb10)
  clear TaC9
  clear tbaC9 tcaC9
  obtain ⟨taaC10, tbaC10, tcaC10, _, _⟩ := TaC10.out
  have Tx010 := Lib.hid (Tx09.out.keeps hb10)
  clear Tx09
  clear tbx09 tcx09
  obtain ⟨tax010, tbx010, tcx010, _, _⟩ := Tx010.out
  have R15 := Lib.hid (R13.out.keeps hb10)
  clear R13
  have R16 := Lib.hid (M9.out.keeps hb10)
  clear M9
  have R17 := Lib.hid (R14.out.keeps hb10)
  clear R14
  have B10 : Hid (Below w.heap.size w w10) := B9.out.trans (hb10.mono (by first | omega | (simp only [World.size_alloc]; omega)))
  clear hb10
  go_wp2_with fail
  refine (markInt_any _ _ _ r0 _ 1 (by first | rfl | omega) (by omega) (by omega) _ R17.out).mono ?_
  rintro e w11 ⟨rfl, hr11, hgb11⟩
  have M11 := Lib.hid hr11
  have G11 := Lib.hid hgb11
  clear hr11 hgb11
  clear R17
  have hz11 := G11.out.size
  try simp only [World.size_alloc] at hz11
  have TaC11 := Lib.hid (TaC10.out.far G11.out (by omega))
  clear TaC10
  clear tbaC10 tcaC10
  obtain ⟨taaC11, tbaC11, tcaC11, _, _⟩ := TaC11.out
  have Tx011 := Lib.hid (Tx010.out.far G11.out (by omega))
  clear Tx010
  clear tbx010 tcx010
  obtain ⟨tax011, tbx011, tcx011, _, _⟩ := Tx011.out
  have R18 := Lib.hid (IntsAt.fars F3_0.out R15.out G11.out (by omega))
  clear R15
  have R19 := Lib.hid (IntsAt.farl F4.out R16.out G11.out (by omega) (by rw [imarks_length]; exact Nat.le_refl _))
  clear R16
  have B11 : Hid (Below w.heap.size w w11) := B10.out.trans (Mem.below_of_but G11.out (by first | omega | (simp only [World.size_alloc]; omega)) (by first | omega | (simp only [World.size_alloc]; omega)))
  go_wp2_with fail
  refine (heldInt_any _ _ _ r0.length _ 1 (by first | rfl | omega) (by omega) (by omega) _ M11.out).mono ?_
  rintro e w12 ⟨rfl, hb12⟩
  have hz12 := hb12.size
  try simp only [World.size_alloc] at hz12
  have TaC12 := Lib.hid (TaC11.out.keeps hb12)
  clear TaC11
  clear tbaC11 tcaC11
  obtain ⟨taaC12, tbaC12, tcaC12, _, _⟩ := TaC12.out
  have Tx012 := Lib.hid (Tx011.out.keeps hb12)
  clear Tx011
  clear tbx011 tcx011
  obtain ⟨tax012, tbx012, tcx012, _, _⟩ := Tx012.out
  have R20 := Lib.hid (R18.out.keeps hb12)
  clear R18
  have R21 := Lib.hid (R19.out.keeps hb12)
  clear R19
  have R22 := Lib.hid (M11.out.keeps hb12)
  clear M11
  have B12 : Hid (Below w.heap.size w w12) := B11.out.trans (hb12.mono (by first | omega | (simp only [World.size_alloc]; omega)))
  clear hb12
  go_wp2_with fail
  refine (toCx_any naC _ _ xaC hsaC _ (HaC.out.keeps B12.out)).mono ?_
  rintro e w13 ⟨g13, rfl, hge13, hlt13, hr13, hb13⟩
  try simp only [World.size_alloc] at hge13
  have F13 := Lib.hid hr13
  clear hr13
  have hz13 := hb13.size
  try simp only [World.size_alloc] at hz13
  have TaC13 := Lib.hid (TaC12.out.keeps hb13)
  clear TaC12
  clear tbaC12 tcaC12
  obtain ⟨taaC13, tbaC13, tcaC13, _, _⟩ := TaC13.out
  have Tx013 := Lib.hid (Tx012.out.keeps hb13)
  clear Tx012
  clear tbx012 tcx012
  obtain ⟨tax013, tbx013, tcx013, _, _⟩ := Tx013.out
  have R24 := Lib.hid (R20.out.keeps hb13)
  clear R20
  have R25 := Lib.hid (R21.out.keeps hb13)
  clear R21
  have R26 := Lib.hid (R22.out.keeps hb13)
  clear R22
  have B13 : Hid (Below w.heap.size w w13) := B12.out.trans (hb13.mono (by first | omega | (simp only [World.size_alloc]; omega)))
  clear hb13
  go_wp2_with fail
  refine ((HI.out _ _ _ hsaC (Nat.le_refl _) F13.out.ints).mono ?_)
  rintro e w14 ⟨v14_0, rfl, hO14_0, hb14⟩
  obtain ⟨a14_0, c14_0, g14_0, rfl, _, hg14_0, hr14_0, hd14_0⟩ := hO14_0.ata hb14.size
  try simp only [World.size_alloc] at hg14_0
  have F14_0 := Lib.hid hr14_0
  clear hO14_0 hr14_0
  have hz14 := hb14.size
  try simp only [World.size_alloc] at hz14
  have TaC14 := Lib.hid (TaC13.out.keeps hb14)
  clear TaC13
  clear tbaC13 tcaC13
  obtain ⟨taaC14, tbaC14, tcaC14, _, _⟩ := TaC14.out
  have Tx014 := Lib.hid (Tx013.out.keeps hb14)
  clear Tx013
  clear tbx013 tcx013
  obtain ⟨tax014, tbx014, tcx014, _, _⟩ := Tx014.out
  have R27 := Lib.hid (R24.out.keeps hb14)
  clear R24
  have R28 := Lib.hid (R25.out.keeps hb14)
  clear R25
  have R29 := Lib.hid (R26.out.keeps hb14)
  clear R26
  have B14 : Hid (Below w.heap.size w w14) := B13.out.trans (hb14.mono (by first | omega | (simp only [World.size_alloc]; omega)))
  clear hb14
  go_wp2_with fail
  refine (eqInt_any _ _ _ _ r0 (by omega) _ F14_0.out.ints R27.out.ints).mono ?_
  rintro e w15 ⟨rfl, hb15⟩
  have hz15 := hb15.size
  try simp only [World.size_alloc] at hz15
  have TaC15 := Lib.hid (TaC14.out.keeps hb15)
  clear TaC14
  clear tbaC14 tcaC14
  obtain ⟨taaC15, tbaC15, tcaC15, _, _⟩ := TaC15.out
  have Tx015 := Lib.hid (Tx014.out.keeps hb15)
  clear Tx014
  clear tbx014 tcx014
  obtain ⟨tax015, tbx015, tcx015, _, _⟩ := Tx015.out
  have R30 := Lib.hid (R27.out.keeps hb15)
  clear R27
  have R31 := Lib.hid (R28.out.keeps hb15)
  clear R28
  have R32 := Lib.hid (R29.out.keeps hb15)
  clear R29
  have R33 := Lib.hid (F14_0.out.keeps hb15)
  have B15 : Hid (Below w.heap.size w w15) := B14.out.trans (hb15.mono (by first | omega | (simp only [World.size_alloc]; omega)))
  clear hb15
  go_wp2_with fail
  refine (heldInt_any _ _ _ r0.length _ 1 (by first | rfl | omega) (by omega) (by omega) _ R32.out).mono ?_
  rintro e w16 ⟨rfl, hb16⟩
  have hz16 := hb16.size
  try simp only [World.size_alloc] at hz16
  have TaC16 := Lib.hid (TaC15.out.keeps hb16)
  clear TaC15
  clear tbaC15 tcaC15
  obtain ⟨taaC16, tbaC16, tcaC16, _, _⟩ := TaC16.out
  have Tx016 := Lib.hid (Tx015.out.keeps hb16)
  clear Tx015
  clear tbx015 tcx015
  obtain ⟨tax016, tbx016, tcx016, _, _⟩ := Tx016.out
  have R34 := Lib.hid (R30.out.keeps hb16)
  clear R30
  have R35 := Lib.hid (R31.out.keeps hb16)
  clear R31
  have R36 := Lib.hid (R32.out.keeps hb16)
  clear R32
  have R37 := Lib.hid (R33.out.keeps hb16)
  clear R33
  have B16 : Hid (Below w.heap.size w w16) := B15.out.trans (hb16.mono (by first | omega | (simp only [World.size_alloc]; omega)))
  clear hb16
  go_wp2
  go_ret
  exact ⟨rfl, B16.out⟩

end Go.Proofs.Ytenpcjmhlnalcaa
