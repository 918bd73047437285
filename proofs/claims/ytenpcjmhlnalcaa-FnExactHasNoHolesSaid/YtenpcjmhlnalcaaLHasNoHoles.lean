/-
  THE WALK of the law on HasNoHoles: the law's own text; spec's and impl's answers are premises.
-/
import Derived.Test.YtenpcjmhlnalcaaHas
import Derived.Deep.RegionHeld3
namespace Go.Proofs.Ytenpcjmhlnalcaa
open Go.RowKit

set_option maxRecDepth 100000 in
set_option maxHeartbeats 4000000 in
theorem exactHasNoHoles_walk (naC : Int) (paC : Option Addr) (caC : Nat) (xaC : List Int) (aP : Int) (w : World) (r0 : Bool) (hlenaC : xaC.length ≤ 9223372036854775807) (haC : Ints w paC xaC) 
    (hs : ∀ (w : World) (qaC : Option Addr) (daC : Nat), xaC.length ≤ 1048576 → xaC.length ≤ daC → Ints w qaC xaC → Calls Try.prog 19 #[cx naC (.slice qaC xaC.length daC), .int .i64 aP] w fun e w' => e = .returned (.bool r0) ∧ Below w.heap.size w w')
    (hi : ∀ (w : World) (qaC : Option Addr) (daC : Nat), xaC.length ≤ 1048576 → xaC.length ≤ daC → Ints w qaC xaC → Calls Try.prog 20 #[cx naC (.slice qaC xaC.length daC), .int .i64 aP] w fun e w' => e = .returned (.bool r0) ∧ Below w.heap.size w w') :
    Calls Try.prog 5 #[cx naC (.slice paC xaC.length caC), .int .i64 aP] w fun e w' => e = .returned (.bool true) ∧ Below w.heap.size w w' := by
  have HS := Lib.hid hs
  have HI := Lib.hid hi
  clear hs hi
  have HaC := Lib.hid haC
  clear haC
  have txaC := Two.new w (.int .i64 naC) (.slice paC xaC.length caC) 24
  have TXaC := Lib.hid txaC
  clear txaC
  have hbx : Below w.heap.size w (w.alloc (Obj.cells #[Value.int IntKind.i64 naC, Value.slice paC xaC.length caC] 24)) := ((Below.refl _ _).alloc (by simp) _)
  have HBX := Lib.hid hbx
  have hzx := hbx.size
  simp only [World.size_alloc] at hzx
  clear hbx
  by_cases hokaC : xaC.length ≤ 1048576
  case neg =>
    go_enter Try.func5, Try.ntmps5
    go_wp2_with fail
    refine (szCx_big _ _ _ xaC hlenaC _ (1048576) (by first | rfl | omega) (by omega) hokaC _).mono ?_
    rintro e vaC ⟨rfl, hvaC⟩
    go_wp2
    go_ret
    exact ⟨rfl, (HBX.out.trans (hvaC.mono HBX.out.size))⟩
  have hsaC : xaC.length ≤ 1048576 := by omega
  go_enter Try.func5, Try.ntmps5
  go_wp2_with fail
  refine (szCx_ok _ _ _ xaC _ (1048576) (by first | rfl | omega) (by omega) hokaC _).mono ?_
  rintro e w1 ⟨rfl, hb1⟩
  have hz1 : w.heap.size ≤ w1.heap.size := Nat.le_trans HBX.out.size hb1.size
  have B1 : Hid (Below w.heap.size w w1) := HBX.out.trans (hb1.mono HBX.out.size)
  have TaC1 := Lib.hid (TXaC.out.keeps hb1)
  obtain ⟨taaC1, tbaC1, tcaC1, _, _⟩ := TaC1.out
  clear hb1
  go_wp2_with fail
  refine (toCx_any naC _ _ xaC hsaC _ (HaC.out.keeps B1.out)).mono ?_
  rintro e w2 ⟨g2, rfl, hge2, hlt2, hr2, hb2⟩
  try simp only [World.size_alloc] at hge2
  have F2 := Lib.hid hr2
  clear hr2
  have hz2 := hb2.size
  try simp only [World.size_alloc] at hz2
  have TaC2 := Lib.hid (TaC1.out.keeps hb2)
  clear TaC1
  clear tbaC1 tcaC1
  obtain ⟨taaC2, tbaC2, tcaC2, _, _⟩ := TaC2.out
  have B2 : Hid (Below w.heap.size w w2) := B1.out.trans (hb2.mono (by first | omega | (simp only [World.size_alloc]; omega)))
  clear hb2
  go_wp2_with fail
  refine ((HS.out _ _ _ hsaC (Nat.le_refl _) F2.out.ints).mono ?_)
  rintro e w3 ⟨rfl, hb3⟩
  have hz3 := hb3.size
  try simp only [World.size_alloc] at hz3
  have TaC3 := Lib.hid (TaC2.out.keeps hb3)
  clear TaC2
  clear tbaC2 tcaC2
  obtain ⟨taaC3, tbaC3, tcaC3, _, _⟩ := TaC3.out
  have B3 : Hid (Below w.heap.size w w3) := B2.out.trans (hb3.mono (by first | omega | (simp only [World.size_alloc]; omega)))
  clear hb3
  go_wp2_with fail
  refine (toCx_any naC _ _ xaC hsaC _ (HaC.out.keeps B3.out)).mono ?_
  rintro e w4 ⟨g4, rfl, hge4, hlt4, hr4, hb4⟩
  try simp only [World.size_alloc] at hge4
  have F4 := Lib.hid hr4
  clear hr4
  have hz4 := hb4.size
  try simp only [World.size_alloc] at hz4
  have TaC4 := Lib.hid (TaC3.out.keeps hb4)
  clear TaC3
  clear tbaC3 tcaC3
  obtain ⟨taaC4, tbaC4, tcaC4, _, _⟩ := TaC4.out
  have B4 : Hid (Below w.heap.size w w4) := B3.out.trans (hb4.mono (by first | omega | (simp only [World.size_alloc]; omega)))
  clear hb4
  have hb5 : Below w4.heap.size w4 (w4.alloc (Obj.cells #[Value.int IntKind.i64 naC, .slice (some ⟨g4, 0, none⟩) xaC.length xaC.length] 27)) := (Below.refl _ _).alloc (Nat.le_refl _) _
  have hz5 := hb5.size
  try simp only [World.size_alloc] at hz5
  have TaC5 := Lib.hid (TaC4.out.keeps hb5)
  clear TaC4
  obtain ⟨taaC5, tbaC5, tcaC5, _, _⟩ := TaC5.out
  have R2 := Lib.hid (F4.out.keeps hb5)
  have B5 : Hid (Below w.heap.size w (w4.alloc (Obj.cells #[Value.int IntKind.i64 naC, .slice (some ⟨g4, 0, none⟩) xaC.length xaC.length] 27))) := B4.out.trans (hb5.mono (by first | omega | (simp only [World.size_alloc]; omega)))
  clear hb5
  have Tx05 := Lib.hid (Two.new w4 (.int .i64 naC) (.slice (some ⟨g4, 0, none⟩) xaC.length xaC.length) 27)
  obtain ⟨tax05, tbx05, tcx05, _, _⟩ := Tx05.out
  go_wp2_with fail
  refine ((HI.out _ _ _ hsaC (Nat.le_refl _) R2.out.ints).mono ?_)
  rintro e w6 ⟨rfl, hb6⟩
  have hz6 := hb6.size
  try simp only [World.size_alloc] at hz6
  have TaC6 := Lib.hid (TaC5.out.keeps hb6)
  clear TaC5
  clear tbaC5 tcaC5
  obtain ⟨taaC6, tbaC6, tcaC6, _, _⟩ := TaC6.out
  have Tx06 := Lib.hid (Tx05.out.keeps hb6)
  clear Tx05
  clear tbx05 tcx05
  obtain ⟨tax06, tbx06, tcx06, _, _⟩ := Tx06.out
  have R3 := Lib.hid (R2.out.keeps hb6)
  clear R2
  have B6 : Hid (Below w.heap.size w w6) := B5.out.trans (hb6.mono (by first | omega | (simp only [World.size_alloc]; omega)))
  clear hb6
  go_wp2_with fail
  go_region_held3 (fun w' => w'.cell? ⟨w4.heap.size, 0, none⟩ = some (.int .i64 naC) ∧ w'.cell? ⟨w4.heap.size, 1, none⟩ = some (.slice (some ⟨g4, 0, none⟩) xaC.length xaC.length) ∧ w'.cell? ⟨w.heap.size, 0, none⟩ = some (.int .i64 naC) ∧ w'.cell? ⟨w.heap.size, 1, none⟩ = some (.slice paC xaC.length caC) ∧ Below w6.heap.size w6 w') (first | (exact ⟨Tx06.out.drew.2.1, Tx06.out.drew.2.2.1, TaC6.out.drew.2.1, TaC6.out.drew.2.2.1, bdrew1 _⟩) | (exact ⟨(Tx06.out.keeps (below_fresh hbA7)).2.1, (Tx06.out.keeps (below_fresh hbA7)).2.2.1, (TaC6.out.keeps (below_fresh hbA7)).2.1, (TaC6.out.keeps (below_fresh hbA7)).2.2.1, below_fresh hbA7⟩) | (exact ⟨((Tx06.out.keeps (below_fresh hbA7)).keeps hbB7).2.1, ((Tx06.out.keeps (below_fresh hbA7)).keeps hbB7).2.2.1, ((TaC6.out.keeps (below_fresh hbA7)).keeps hbB7).2.1, ((TaC6.out.keeps (below_fresh hbA7)).keeps hbB7).2.2.1, (below_fresh hbA7).trans (hbB7.mono (below_fresh hbA7).size)⟩)) (first | (go_at_call 10; refine (toCx_any naC _ _ xaC hsaC _ (Ints.drew (HaC.out.keeps B6.out))).mono ?_; rintro e wA7 ⟨gA7, rfl, hgeA7, hltA7, hrA7, hbA7⟩) | (go_at_call 13; refine (eqCx_any _ _ _ _ _ xaC (by omega) _ (R3.out.keeps (below_fresh hbA7)).ints hrA7.ints).mono ?_; rintro e w7 ⟨rfl, hbB7⟩))
  have hb7 : Below w6.heap.size w6 w7 := (below_fresh hbA7).trans (hbB7.mono (below_fresh hbA7).size)
  have hz7 := hb7.size
  try simp only [World.size_alloc] at hz7
  have TaC7 := Lib.hid (TaC6.out.keeps hb7)
  clear TaC6
  clear tbaC6 tcaC6
  obtain ⟨taaC7, tbaC7, tcaC7, _, _⟩ := TaC7.out
  have Tx07 := Lib.hid (Tx06.out.keeps hb7)
  clear Tx06
  clear tbx06 tcx06
  obtain ⟨tax07, tbx07, tcx07, _, _⟩ := Tx07.out
  have R4 := Lib.hid (R3.out.keeps hb7)
  clear R3
  have B7 : Hid (Below w.heap.size w w7) := B6.out.trans (hb7.mono (by first | omega | (simp only [World.size_alloc]; omega)))
  clear hb7
  go_wp2
  go_ret
  exact ⟨rfl, B7.out⟩

end Go.Proofs.Ytenpcjmhlnalcaa
