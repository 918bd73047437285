/-
  THE WALK of the law on CanonicalComplex: the law's own text; spec's and impl's answers are premises.
-/
import Derived.Test.YtbkkdgmiokdbmaaHas
import Derived.Deep.RegionHeld3
namespace Go.Proofs.Ytbkkdgmiokdbmaa
open Go.RowKit

set_option maxRecDepth 100000 in
set_option maxHeartbeats 4000000 in
theorem exactCanonicalComplex_walk (naC : Int) (paC : Option Addr) (caC : Nat) (xaC : List Int) (w : World) (r0n : Int) (r0 : List Int) (r1 : Bool) (hlenaC : xaC.length ≤ 9223372036854775807) (haC : Ints w paC xaC) (hr0 : r0.length ≤ 1048576)
    (hs : ∀ (w : World) (qaC : Option Addr) (daC : Nat), xaC.length ≤ 1048576 → xaC.length ≤ daC → Ints w qaC xaC → Calls Try.prog 21 #[cx naC (.slice qaC xaC.length daC)] w fun e w' => ∃ v0, e = .returned (.tuple #[cx r0n v0, .bool r1]) ∧ HasInts w' w.heap.size v0 r0 ∧ Below w.heap.size w w')
    (hi : ∀ (w : World) (qaC : Option Addr) (daC : Nat), xaC.length ≤ 1048576 → xaC.length ≤ daC → Ints w qaC xaC → Calls Try.prog 22 #[cx naC (.slice qaC xaC.length daC)] w fun e w' => ∃ v0, e = .returned (.tuple #[cx r0n v0, .bool r1]) ∧ HasInts w' w.heap.size v0 r0 ∧ Below w.heap.size w w') :
    Calls Try.prog 5 #[cx naC (.slice paC xaC.length caC)] w fun e w' => e = .returned (.bool true) ∧ Below w.heap.size w w' := by
  have HS := Lib.hid hs
  have HI := Lib.hid hi
  clear hs hi
  have HaC := Lib.hid haC
  clear haC
  have txaC := Two.new w (.int .i64 naC) (.slice paC xaC.length caC) 29
  have TXaC := Lib.hid txaC
  clear txaC
  have hbx : Below w.heap.size w (w.alloc (Obj.cells #[Value.int IntKind.i64 naC, Value.slice paC xaC.length caC] 29)) := ((Below.refl _ _).alloc (by simp) _)
  have HBX := Lib.hid hbx
  have hzx := hbx.size
  simp only [World.size_alloc] at hzx
  clear hbx
  by_cases hokaC : xaC.length ≤ 1048576
  case neg =>
    go_enter Try.func5, Try.ntmps5
    go_wp2_with fail
    refine (szCx_big _ _ _ xaC hlenaC _ (1048576) (by first | rfl | omega) (by omega) hokaC _).mono ?_
    rintro e vaC ⟨rfl, hvaC⟩
    go_wp2
    go_ret
    exact ⟨rfl, (HBX.out.trans (hvaC.mono HBX.out.size))⟩
  have hsaC : xaC.length ≤ 1048576 := by omega
  go_enter Try.func5, Try.ntmps5
  go_wp2_with fail
  refine (szCx_ok _ _ _ xaC _ (1048576) (by first | rfl | omega) (by omega) hokaC _).mono ?_
  rintro e w1 ⟨rfl, hb1⟩
  have hz1 : w.heap.size ≤ w1.heap.size := Nat.le_trans HBX.out.size hb1.size
  have B1 : Hid (Below w.heap.size w w1) := HBX.out.trans (hb1.mono HBX.out.size)
  have TaC1 := Lib.hid (TXaC.out.keeps hb1)
  obtain ⟨taaC1, tbaC1, tcaC1, _, _⟩ := TaC1.out
  clear hb1
  go_wp2_with fail
  refine (toCx_any naC _ _ xaC hsaC _ (HaC.out.keeps B1.out)).mono ?_
  rintro e w2 ⟨g2, rfl, hge2, hlt2, hr2, hb2⟩
  try simp only [World.size_alloc] at hge2
  have F2 := Lib.hid hr2
  clear hr2
  have hz2 := hb2.size
  try simp only [World.size_alloc] at hz2
  have TaC2 := Lib.hid (TaC1.out.keeps hb2)
  clear TaC1
  clear tbaC1 tcaC1
  obtain ⟨taaC2, tbaC2, tcaC2, _, _⟩ := TaC2.out
  have B2 : Hid (Below w.heap.size w w2) := B1.out.trans (hb2.mono (by first | omega | (simp only [World.size_alloc]; omega)))
  clear hb2
  go_wp2_with fail
  refine ((HS.out _ _ _ hsaC (Nat.le_refl _) F2.out.ints).mono ?_)
  rintro e w3 ⟨v3_0, rfl, hO3_0, hb3⟩
  obtain ⟨a3_0, c3_0, g3_0, rfl, _, hg3_0, hr3_0, hd3_0⟩ := hO3_0.ata hb3.size
  try simp only [World.size_alloc] at hg3_0
  have F3_0 := Lib.hid hr3_0
  clear hO3_0 hr3_0
  have hz3 := hb3.size
  try simp only [World.size_alloc] at hz3
  have TaC3 := Lib.hid (TaC2.out.keeps hb3)
  clear TaC2
  clear tbaC2 tcaC2
  obtain ⟨taaC3, tbaC3, tcaC3, _, _⟩ := TaC3.out
  have B3 : Hid (Below w.heap.size w w3) := B2.out.trans (hb3.mono (by first | omega | (simp only [World.size_alloc]; omega)))
  clear hb3
  have hb4 : Below w3.heap.size w3 (w3.alloc (Obj.cells #[Value.int IntKind.i64 r0n, .slice a3_0 r0.length c3_0] 31)) := (Below.refl _ _).alloc (Nat.le_refl _) _
  have hz4 := hb4.size
  try simp only [World.size_alloc] at hz4
  have TaC4 := Lib.hid (TaC3.out.keeps hb4)
  clear TaC3
  obtain ⟨taaC4, tbaC4, tcaC4, _, _⟩ := TaC4.out
  have R2 := Lib.hid (F3_0.out.keeps hb4)
  have B4 : Hid (Below w.heap.size w (w3.alloc (Obj.cells #[Value.int IntKind.i64 r0n, .slice a3_0 r0.length c3_0] 31))) := B3.out.trans (hb4.mono (by first | omega | (simp only [World.size_alloc]; omega)))
  clear hb4
  have Tw04 := Lib.hid (Two.new w3 (.int .i64 r0n) (.slice a3_0 r0.length c3_0) 31)
  obtain ⟨taw04, tbw04, tcw04, _, _⟩ := Tw04.out
  go_wp2_with fail
  refine (toCx_any naC _ _ xaC hsaC _ (HaC.out.keeps B4.out)).mono ?_
  rintro e w5 ⟨g5, rfl, hge5, hlt5, hr5, hb5⟩
  try simp only [World.size_alloc] at hge5
  have F5 := Lib.hid hr5
  clear hr5
  have hz5 := hb5.size
  try simp only [World.size_alloc] at hz5
  have TaC5 := Lib.hid (TaC4.out.keeps hb5)
  clear TaC4
  clear tbaC4 tcaC4
  obtain ⟨taaC5, tbaC5, tcaC5, _, _⟩ := TaC5.out
  have Tw05 := Lib.hid (Tw04.out.keeps hb5)
  clear Tw04
  clear tbw04 tcw04
  obtain ⟨taw05, tbw05, tcw05, _, _⟩ := Tw05.out
  have R3 := Lib.hid (R2.out.keeps hb5)
  clear R2
  have B5 : Hid (Below w.heap.size w w5) := B4.out.trans (hb5.mono (by first | omega | (simp only [World.size_alloc]; omega)))
  clear hb5
  have hb6 : Below w5.heap.size w5 (w5.alloc (Obj.cells #[Value.int IntKind.i64 naC, .slice (some ⟨g5, 0, none⟩) xaC.length xaC.length] 31)) := (Below.refl _ _).alloc (Nat.le_refl _) _
  have hz6 := hb6.size
  try simp only [World.size_alloc] at hz6
  have TaC6 := Lib.hid (TaC5.out.keeps hb6)
  clear TaC5
  obtain ⟨taaC6, tbaC6, tcaC6, _, _⟩ := TaC6.out
  have Tw06 := Lib.hid (Tw05.out.keeps hb6)
  clear Tw05
  obtain ⟨taw06, tbw06, tcw06, _, _⟩ := Tw06.out
  have R4 := Lib.hid (R3.out.keeps hb6)
  clear R3
  have R5 := Lib.hid (F5.out.keeps hb6)
  have B6 : Hid (Below w.heap.size w (w5.alloc (Obj.cells #[Value.int IntKind.i64 naC, .slice (some ⟨g5, 0, none⟩) xaC.length xaC.length] 31))) := B5.out.trans (hb6.mono (by first | omega | (simp only [World.size_alloc]; omega)))
  clear hb6
  have Tx06 := Lib.hid (Two.new w5 (.int .i64 naC) (.slice (some ⟨g5, 0, none⟩) xaC.length xaC.length) 31)
  obtain ⟨tax06, tbx06, tcx06, _, _⟩ := Tx06.out
  go_wp2_with fail
  refine ((HI.out _ _ _ hsaC (Nat.le_refl _) R5.out.ints).mono ?_)
  rintro e w7 ⟨v7_0, rfl, hO7_0, hb7⟩
  obtain ⟨a7_0, c7_0, g7_0, rfl, _, hg7_0, hr7_0, hd7_0⟩ := hO7_0.ata hb7.size
  try simp only [World.size_alloc] at hg7_0
  have F7_0 := Lib.hid hr7_0
  clear hO7_0 hr7_0
  have hz7 := hb7.size
  try simp only [World.size_alloc] at hz7
  have TaC7 := Lib.hid (TaC6.out.keeps hb7)
  clear TaC6
  clear tbaC6 tcaC6
  obtain ⟨taaC7, tbaC7, tcaC7, _, _⟩ := TaC7.out
  have Tw07 := Lib.hid (Tw06.out.keeps hb7)
  clear Tw06
  clear tbw06 tcw06
  obtain ⟨taw07, tbw07, tcw07, _, _⟩ := Tw07.out
  have Tx07 := Lib.hid (Tx06.out.keeps hb7)
  clear Tx06
  clear tbx06 tcx06
  obtain ⟨tax07, tbx07, tcx07, _, _⟩ := Tx07.out
  have R6 := Lib.hid (R4.out.keeps hb7)
  clear R4
  have R7 := Lib.hid (R5.out.keeps hb7)
  clear R5
  have B7 : Hid (Below w.heap.size w w7) := B6.out.trans (hb7.mono (by first | omega | (simp only [World.size_alloc]; omega)))
  clear hb7
  have hb8 : Below w7.heap.size w7 (w7.alloc (Obj.cells #[Value.int IntKind.i64 r0n, .slice a7_0 r0.length c7_0] 31)) := (Below.refl _ _).alloc (Nat.le_refl _) _
  have hz8 := hb8.size
  try simp only [World.size_alloc] at hz8
  have TaC8 := Lib.hid (TaC7.out.keeps hb8)
  clear TaC7
  obtain ⟨taaC8, tbaC8, tcaC8, _, _⟩ := TaC8.out
  have Tw08 := Lib.hid (Tw07.out.keeps hb8)
  clear Tw07
  obtain ⟨taw08, tbw08, tcw08, _, _⟩ := Tw08.out
  have Tx08 := Lib.hid (Tx07.out.keeps hb8)
  clear Tx07
  obtain ⟨tax08, tbx08, tcx08, _, _⟩ := Tx08.out
  have R8 := Lib.hid (R6.out.keeps hb8)
  clear R6
  have R9 := Lib.hid (R7.out.keeps hb8)
  clear R7
  have R10 := Lib.hid (F7_0.out.keeps hb8)
  have B8 : Hid (Below w.heap.size w (w7.alloc (Obj.cells #[Value.int IntKind.i64 r0n, .slice a7_0 r0.length c7_0] 31))) := B7.out.trans (hb8.mono (by first | omega | (simp only [World.size_alloc]; omega)))
  clear hb8
  have Tg08 := Lib.hid (Two.new w7 (.int .i64 r0n) (.slice a7_0 r0.length c7_0) 31)
  obtain ⟨tag08, tbg08, tcg08, _, _⟩ := Tg08.out
  go_wp2_with fail
  refine (eqCx_any _ _ _ _ _ r0 (by omega) _ R10.out.ints R8.out.ints).mono ?_
  rintro e w9 ⟨rfl, hb9⟩
  have hz9 := hb9.size
  try simp only [World.size_alloc] at hz9
  have TaC9 := Lib.hid (TaC8.out.keeps hb9)
  clear TaC8
  clear tbaC8 tcaC8
  obtain ⟨taaC9, tbaC9, tcaC9, _, _⟩ := TaC9.out
  have Tw09 := Lib.hid (Tw08.out.keeps hb9)
  clear Tw08
  clear tbw08 tcw08
  obtain ⟨taw09, tbw09, tcw09, _, _⟩ := Tw09.out
  have Tx09 := Lib.hid (Tx08.out.keeps hb9)
  clear Tx08
  clear tbx08 tcx08
  obtain ⟨tax09, tbx09, tcx09, _, _⟩ := Tx09.out
  have Tg09 := Lib.hid (Tg08.out.keeps hb9)
  clear Tg08
  clear tbg08 tcg08
  obtain ⟨tag09, tbg09, tcg09, _, _⟩ := Tg09.out
  have R11 := Lib.hid (R8.out.keeps hb9)
  clear R8
  have R12 := Lib.hid (R9.out.keeps hb9)
  clear R9
  have R13 := Lib.hid (R10.out.keeps hb9)
  clear R10
  have B9 : Hid (Below w.heap.size w w9) := B8.out.trans (hb9.mono (by first | omega | (simp only [World.size_alloc]; omega)))
  clear hb9
  go_wp2_with fail
  go_region_held3 (fun w' => w'.cell? ⟨w5.heap.size, 0, none⟩ = some (.int .i64 naC) ∧ w'.cell? ⟨w5.heap.size, 1, none⟩ = some (.slice (some ⟨g5, 0, none⟩) xaC.length xaC.length) ∧ w'.cell? ⟨w.heap.size, 0, none⟩ = some (.int .i64 naC) ∧ w'.cell? ⟨w.heap.size, 1, none⟩ = some (.slice paC xaC.length caC) ∧ Below w9.heap.size w9 w') (first | (exact ⟨Tx09.out.drew.2.1, Tx09.out.drew.2.2.1, TaC9.out.drew.2.1, TaC9.out.drew.2.2.1, bdrew1 _⟩) | (exact ⟨(Tx09.out.keeps (below_fresh hbA10)).2.1, (Tx09.out.keeps (below_fresh hbA10)).2.2.1, (TaC9.out.keeps (below_fresh hbA10)).2.1, (TaC9.out.keeps (below_fresh hbA10)).2.2.1, below_fresh hbA10⟩) | (exact ⟨((Tx09.out.keeps (below_fresh hbA10)).keeps hbB10).2.1, ((Tx09.out.keeps (below_fresh hbA10)).keeps hbB10).2.2.1, ((TaC9.out.keeps (below_fresh hbA10)).keeps hbB10).2.1, ((TaC9.out.keeps (below_fresh hbA10)).keeps hbB10).2.2.1, (below_fresh hbA10).trans (hbB10.mono (below_fresh hbA10).size)⟩)) (first | (go_at_call 15; refine (toCx_any naC _ _ xaC hsaC _ (Ints.drew (HaC.out.keeps B9.out))).mono ?_; rintro e wA10 ⟨gA10, rfl, hgeA10, hltA10, hrA10, hbA10⟩) | (go_at_call 17; refine (eqCx_any _ _ _ _ _ xaC (by omega) _ (R12.out.keeps (below_fresh hbA10)).ints hrA10.ints).mono ?_; rintro e w10 ⟨rfl, hbB10⟩))
  have hb10 : Below w9.heap.size w9 w10 := (below_fresh hbA10).trans (hbB10.mono (below_fresh hbA10).size)
  have hz10 := hb10.size
  try simp only [World.size_alloc] at hz10
  have TaC10 := Lib.hid (TaC9.out.keeps hb10)
  clear TaC9
  clear tbaC9 tcaC9
  obtain ⟨taaC10, tbaC10, tcaC10, _, _⟩ := TaC10.out
  have Tw010 := Lib.hid (Tw09.out.keeps hb10)
  clear Tw09
  clear tbw09 tcw09
  obtain ⟨taw010, tbw010, tcw010, _, _⟩ := Tw010.out
  have Tx010 := Lib.hid (Tx09.out.keeps hb10)
  clear Tx09
  clear tbx09 tcx09
  obtain ⟨tax010, tbx010, tcx010, _, _⟩ := Tx010.out
  have Tg010 := Lib.hid (Tg09.out.keeps hb10)
  clear Tg09
  clear tbg09 tcg09
  obtain ⟨tag010, tbg010, tcg010, _, _⟩ := Tg010.out
  have R14 := Lib.hid (R11.out.keeps hb10)
  clear R11
  have R15 := Lib.hid (R12.out.keeps hb10)
  clear R12
  have R16 := Lib.hid (R13.out.keeps hb10)
  clear R13
  have B10 : Hid (Below w.heap.size w w10) := B9.out.trans (hb10.mono (by first | omega | (simp only [World.size_alloc]; omega)))
  clear hb10
  go_wp2_with fail
  refine (markCx_any _ _ _ _ xaC _ 1 (by first | rfl | omega) (by omega) (by omega) _ R15.out).mono ?_
  rintro e w11 ⟨rfl, hr11, hgb11⟩
  have M11 := Lib.hid hr11
  have G11 := Lib.hid hgb11
  clear hr11 hgb11
  clear R15
  have hz11 := G11.out.size
  try simp only [World.size_alloc] at hz11
  have TaC11 := Lib.hid (TaC10.out.far G11.out (by omega))
  clear TaC10
  clear tbaC10 tcaC10
  obtain ⟨taaC11, tbaC11, tcaC11, _, _⟩ := TaC11.out
  have Tw011 := Lib.hid (Tw010.out.far G11.out (by omega))
  clear Tw010
  clear tbw010 tcw010
  obtain ⟨taw011, tbw011, tcw011, _, _⟩ := Tw011.out
  have Tx011 := Lib.hid (Tx010.out.far G11.out (by omega))
  clear Tx010
  clear tbx010 tcx010
  obtain ⟨tax011, tbx011, tcx011, _, _⟩ := Tx011.out
  have Tg011 := Lib.hid (Tg010.out.far G11.out (by omega))
  clear Tg010
  clear tbg010 tcg010
  obtain ⟨tag011, tbg011, tcg011, _, _⟩ := Tg011.out
  have R17 := Lib.hid (IntsAt.fars F3_0.out R14.out G11.out (by omega))
  clear R14
  have R18 := Lib.hid (R16.out.far G11.out (by omega))
  clear R16
  have B11 : Hid (Below w.heap.size w w11) := B10.out.trans (Mem.below_of_but G11.out (by first | omega | (simp only [World.size_alloc]; omega)) (by first | omega | (simp only [World.size_alloc]; omega)))
  go_wp2_with fail
  refine (eqCx_any _ _ _ _ _ r0 (by omega) _ R18.out.ints R17.out.ints).mono ?_
  rintro e w12 ⟨rfl, hb12⟩
  have hz12 := hb12.size
  try simp only [World.size_alloc] at hz12
  have TaC12 := Lib.hid (TaC11.out.keeps hb12)
  clear TaC11
  clear tbaC11 tcaC11
  obtain ⟨taaC12, tbaC12, tcaC12, _, _⟩ := TaC12.out
  have Tw012 := Lib.hid (Tw011.out.keeps hb12)
  clear Tw011
  clear tbw011 tcw011
  obtain ⟨taw012, tbw012, tcw012, _, _⟩ := Tw012.out
  have Tx012 := Lib.hid (Tx011.out.keeps hb12)
  clear Tx011
  clear tbx011 tcx011
  obtain ⟨tax012, tbx012, tcx012, _, _⟩ := Tx012.out
  have Tg012 := Lib.hid (Tg011.out.keeps hb12)
  clear Tg011
  clear tbg011 tcg011
  obtain ⟨tag012, tbg012, tcg012, _, _⟩ := Tg012.out
  have R19 := Lib.hid (R17.out.keeps hb12)
  clear R17
  have R20 := Lib.hid (M11.out.keeps hb12)
  clear M11
  have R21 := Lib.hid (R18.out.keeps hb12)
  clear R18
  have B12 : Hid (Below w.heap.size w w12) := B11.out.trans (hb12.mono (by first | omega | (simp only [World.size_alloc]; omega)))
  clear hb12
  go_wp2_with fail
  refine (markCx_any _ _ _ _ r0 _ 1 (by first | rfl | omega) (by omega) (by omega) _ R21.out).mono ?_
  rintro e w13 ⟨rfl, hr13, hgb13⟩
  have M13 := Lib.hid hr13
  have G13 := Lib.hid hgb13
  clear hr13 hgb13
  clear R21
  have hz13 := G13.out.size
  try simp only [World.size_alloc] at hz13
  have TaC13 := Lib.hid (TaC12.out.far G13.out (by omega))
  clear TaC12
  clear tbaC12 tcaC12
  obtain ⟨taaC13, tbaC13, tcaC13, _, _⟩ := TaC13.out
  have Tw013 := Lib.hid (Tw012.out.far G13.out (by omega))
  clear Tw012
  clear tbw012 tcw012
  obtain ⟨taw013, tbw013, tcw013, _, _⟩ := Tw013.out
  have Tx013 := Lib.hid (Tx012.out.far G13.out (by omega))
  clear Tx012
  clear tbx012 tcx012
  obtain ⟨tax013, tbx013, tcx013, _, _⟩ := Tx013.out
  have Tg013 := Lib.hid (Tg012.out.far G13.out (by omega))
  clear Tg012
  clear tbg012 tcg012
  obtain ⟨tag013, tbg013, tcg013, _, _⟩ := Tg013.out
  have R22 := Lib.hid (IntsAt.fars F3_0.out R19.out G13.out (by omega))
  clear R19
  have R23 := Lib.hid (IntsAt.farl F5.out R20.out G13.out (by omega) (by rw [imarks_length]; exact Nat.le_refl _))
  clear R20
  have B13 : Hid (Below w.heap.size w w13) := B12.out.trans (Mem.below_of_but G13.out (by first | omega | (simp only [World.size_alloc]; omega)) (by first | omega | (simp only [World.size_alloc]; omega)))
  go_wp2_with fail
  refine (heldCx_any _ _ _ _ r0.length _ 1 (by first | rfl | omega) (by omega) (by omega) _ M13.out).mono ?_
  rintro e w14 ⟨rfl, hb14⟩
  have hz14 := hb14.size
  try simp only [World.size_alloc] at hz14
  have TaC14 := Lib.hid (TaC13.out.keeps hb14)
  clear TaC13
  clear tbaC13 tcaC13
  obtain ⟨taaC14, tbaC14, tcaC14, _, _⟩ := TaC14.out
  have Tw014 := Lib.hid (Tw013.out.keeps hb14)
  clear Tw013
  clear tbw013 tcw013
  obtain ⟨taw014, tbw014, tcw014, _, _⟩ := Tw014.out
  have Tx014 := Lib.hid (Tx013.out.keeps hb14)
  clear Tx013
  clear tbx013 tcx013
  obtain ⟨tax014, tbx014, tcx014, _, _⟩ := Tx014.out
  have Tg014 := Lib.hid (Tg013.out.keeps hb14)
  clear Tg013
  clear tbg013 tcg013
  obtain ⟨tag014, tbg014, tcg014, _, _⟩ := Tg014.out
  have R24 := Lib.hid (R22.out.keeps hb14)
  clear R22
  have R25 := Lib.hid (R23.out.keeps hb14)
  clear R23
  have R26 := Lib.hid (M13.out.keeps hb14)
  clear M13
  have B14 : Hid (Below w.heap.size w w14) := B13.out.trans (hb14.mono (by first | omega | (simp only [World.size_alloc]; omega)))
  clear hb14
  go_wp2_with fail
  refine (toCx_any naC _ _ xaC hsaC _ (HaC.out.keeps B14.out)).mono ?_
  rintro e w15 ⟨g15, rfl, hge15, hlt15, hr15, hb15⟩
  try simp only [World.size_alloc] at hge15
  have F15 := Lib.hid hr15
  clear hr15
  have hz15 := hb15.size
  try simp only [World.size_alloc] at hz15
  have TaC15 := Lib.hid (TaC14.out.keeps hb15)
  clear TaC14
  clear tbaC14 tcaC14
  obtain ⟨taaC15, tbaC15, tcaC15, _, _⟩ := TaC15.out
  have Tw015 := Lib.hid (Tw014.out.keeps hb15)
  clear Tw014
  clear tbw014 tcw014
  obtain ⟨taw015, tbw015, tcw015, _, _⟩ := Tw015.out
  have Tx015 := Lib.hid (Tx014.out.keeps hb15)
  clear Tx014
  clear tbx014 tcx014
  obtain ⟨tax015, tbx015, tcx015, _, _⟩ := Tx015.out
  have Tg015 := Lib.hid (Tg014.out.keeps hb15)
  clear Tg014
  clear tbg014 tcg014
  obtain ⟨tag015, tbg015, tcg015, _, _⟩ := Tg015.out
  have R28 := Lib.hid (R24.out.keeps hb15)
  clear R24
  have R29 := Lib.hid (R25.out.keeps hb15)
  clear R25
  have R30 := Lib.hid (R26.out.keeps hb15)
  clear R26
  have B15 : Hid (Below w.heap.size w w15) := B14.out.trans (hb15.mono (by first | omega | (simp only [World.size_alloc]; omega)))
  clear hb15
  go_wp2_with fail
  refine ((HI.out _ _ _ hsaC (Nat.le_refl _) F15.out.ints).mono ?_)
  rintro e w16 ⟨v16_0, rfl, hO16_0, hb16⟩
  obtain ⟨a16_0, c16_0, g16_0, rfl, _, hg16_0, hr16_0, hd16_0⟩ := hO16_0.ata hb16.size
  try simp only [World.size_alloc] at hg16_0
  have F16_0 := Lib.hid hr16_0
  clear hO16_0 hr16_0
  have hz16 := hb16.size
  try simp only [World.size_alloc] at hz16
  have TaC16 := Lib.hid (TaC15.out.keeps hb16)
  clear TaC15
  clear tbaC15 tcaC15
  obtain ⟨taaC16, tbaC16, tcaC16, _, _⟩ := TaC16.out
  have Tw016 := Lib.hid (Tw015.out.keeps hb16)
  clear Tw015
  clear tbw015 tcw015
  obtain ⟨taw016, tbw016, tcw016, _, _⟩ := Tw016.out
  have Tx016 := Lib.hid (Tx015.out.keeps hb16)
  clear Tx015
  clear tbx015 tcx015
  obtain ⟨tax016, tbx016, tcx016, _, _⟩ := Tx016.out
  have Tg016 := Lib.hid (Tg015.out.keeps hb16)
  clear Tg015
  clear tbg015 tcg015
  obtain ⟨tag016, tbg016, tcg016, _, _⟩ := Tg016.out
  have R31 := Lib.hid (R28.out.keeps hb16)
  clear R28
  have R32 := Lib.hid (R29.out.keeps hb16)
  clear R29
  have R33 := Lib.hid (R30.out.keeps hb16)
  clear R30
  have B16 : Hid (Below w.heap.size w w16) := B15.out.trans (hb16.mono (by first | omega | (simp only [World.size_alloc]; omega)))
  clear hb16
  have hb17 : Below w16.heap.size w16 (w16.alloc (Obj.cells #[Value.int IntKind.i64 r0n, .slice a16_0 r0.length c16_0] 31)) := (Below.refl _ _).alloc (Nat.le_refl _) _
  have hz17 := hb17.size
  try simp only [World.size_alloc] at hz17
  have TaC17 := Lib.hid (TaC16.out.keeps hb17)
  clear TaC16
  obtain ⟨taaC17, tbaC17, tcaC17, _, _⟩ := TaC17.out
  have Tw017 := Lib.hid (Tw016.out.keeps hb17)
  clear Tw016
  obtain ⟨taw017, tbw017, tcw017, _, _⟩ := Tw017.out
  have Tx017 := Lib.hid (Tx016.out.keeps hb17)
  clear Tx016
  obtain ⟨tax017, tbx017, tcx017, _, _⟩ := Tx017.out
  have Tg017 := Lib.hid (Tg016.out.keeps hb17)
  clear Tg016
  obtain ⟨tag017, tbg017, tcg017, _, _⟩ := Tg017.out
  have R34 := Lib.hid (R31.out.keeps hb17)
  clear R31
  have R35 := Lib.hid (R32.out.keeps hb17)
  clear R32
  have R36 := Lib.hid (R33.out.keeps hb17)
  clear R33
  have R37 := Lib.hid (F16_0.out.keeps hb17)
  have B17 : Hid (Below w.heap.size w (w16.alloc (Obj.cells #[Value.int IntKind.i64 r0n, .slice a16_0 r0.length c16_0] 31))) := B16.out.trans (hb17.mono (by first | omega | (simp only [World.size_alloc]; omega)))
  clear hb17
  have Th017 := Lib.hid (Two.new w16 (.int .i64 r0n) (.slice a16_0 r0.length c16_0) 31)
  obtain ⟨tah017, tbh017, tch017, _, _⟩ := Th017.out
  go_wp2_with fail
  refine (eqCx_any _ _ _ _ _ r0 (by omega) _ R37.out.ints R34.out.ints).mono ?_
  rintro e w18 ⟨rfl, hb18⟩
  have hz18 := hb18.size
  try simp only [World.size_alloc] at hz18
  have TaC18 := Lib.hid (TaC17.out.keeps hb18)
  clear TaC17
  clear tbaC17 tcaC17
  obtain ⟨taaC18, tbaC18, tcaC18, _, _⟩ := TaC18.out
  have Tw018 := Lib.hid (Tw017.out.keeps hb18)
  clear Tw017
  clear tbw017 tcw017
  obtain ⟨taw018, tbw018, tcw018, _, _⟩ := Tw018.out
  have Tx018 := Lib.hid (Tx017.out.keeps hb18)
  clear Tx017
  clear tbx017 tcx017
  obtain ⟨tax018, tbx018, tcx018, _, _⟩ := Tx018.out
  have Tg018 := Lib.hid (Tg017.out.keeps hb18)
  clear Tg017
  clear tbg017 tcg017
  obtain ⟨tag018, tbg018, tcg018, _, _⟩ := Tg018.out
  have Th018 := Lib.hid (Th017.out.keeps hb18)
  clear Th017
  clear tbh017 tch017
  obtain ⟨tah018, tbh018, tch018, _, _⟩ := Th018.out
  have R38 := Lib.hid (R34.out.keeps hb18)
  clear R34
  have R39 := Lib.hid (R35.out.keeps hb18)
  clear R35
  have R40 := Lib.hid (R36.out.keeps hb18)
  clear R36
  have R41 := Lib.hid (R37.out.keeps hb18)
  clear R37
  have B18 : Hid (Below w.heap.size w w18) := B17.out.trans (hb18.mono (by first | omega | (simp only [World.size_alloc]; omega)))
  clear hb18
  go_wp2_with fail
  refine (heldCx_any _ _ _ _ r0.length _ 1 (by first | rfl | omega) (by omega) (by omega) _ R40.out).mono ?_
  rintro e w19 ⟨rfl, hb19⟩
  have hz19 := hb19.size
  try simp only [World.size_alloc] at hz19
  have TaC19 := Lib.hid (TaC18.out.keeps hb19)
  clear TaC18
  clear tbaC18 tcaC18
  obtain ⟨taaC19, tbaC19, tcaC19, _, _⟩ := TaC19.out
  have Tw019 := Lib.hid (Tw018.out.keeps hb19)
  clear Tw018
  clear tbw018 tcw018
  obtain ⟨taw019, tbw019, tcw019, _, _⟩ := Tw019.out
  have Tx019 := Lib.hid (Tx018.out.keeps hb19)
  clear Tx018
  clear tbx018 tcx018
  obtain ⟨tax019, tbx019, tcx019, _, _⟩ := Tx019.out
  have Tg019 := Lib.hid (Tg018.out.keeps hb19)
  clear Tg018
  clear tbg018 tcg018
  obtain ⟨tag019, tbg019, tcg019, _, _⟩ := Tg019.out
  have Th019 := Lib.hid (Th018.out.keeps hb19)
  clear Th018
  clear tbh018 tch018
  obtain ⟨tah019, tbh019, tch019, _, _⟩ := Th019.out
  have R42 := Lib.hid (R38.out.keeps hb19)
  clear R38
  have R43 := Lib.hid (R39.out.keeps hb19)
  clear R39
  have R44 := Lib.hid (R40.out.keeps hb19)
  clear R40
  have R45 := Lib.hid (R41.out.keeps hb19)
  clear R41
  have B19 : Hid (Below w.heap.size w w19) := B18.out.trans (hb19.mono (by first | omega | (simp only [World.size_alloc]; omega)))
  clear hb19
  go_wp2
  go_ret
  exact ⟨rfl, B19.out⟩

end Go.Proofs.Ytbkkdgmiokdbmaa
