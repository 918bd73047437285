/-
  THE WALK of the law on AreAlike: the law's own text; spec's and impl's answers are premises.
-/
import Derived.Test.YtbkkdgmiokdbmaaHas
import Derived.Deep.RegionHeld3
namespace Go.Proofs.Ytbkkdgmiokdbmaa
open Go.RowKit

set_option maxRecDepth 100000 in
set_option maxHeartbeats 4000000 in
theorem exactAreAlike_walk (naA : Int) (paA : Option Addr) (caA : Nat) (xaA : List Int) (naB : Int) (paB : Option Addr) (caB : Nat) (xaB : List Int) (w : World) (r0 : Bool) (hlenaA : xaA.length ≤ 9223372036854775807) (haA : Ints w paA xaA) (hlenaB : xaB.length ≤ 9223372036854775807) (haB : Ints w paB xaB) 
    (hs : ∀ (w : World) (qaA : Option Addr) (daA : Nat) (qaB : Option Addr) (daB : Nat), xaA.length ≤ 1048576 → xaB.length ≤ 1048576 → xaA.length ≤ daA → Ints w qaA xaA → xaB.length ≤ daB → Ints w qaB xaB → Calls Try.prog 23 #[cx naA (.slice qaA xaA.length daA), cx naB (.slice qaB xaB.length daB)] w fun e w' => e = .returned (.bool r0) ∧ Below w.heap.size w w')
    (hi : ∀ (w : World) (qaA : Option Addr) (daA : Nat) (qaB : Option Addr) (daB : Nat), xaA.length ≤ 1048576 → xaB.length ≤ 1048576 → xaA.length ≤ daA → Ints w qaA xaA → xaB.length ≤ daB → Ints w qaB xaB → Calls Try.prog 24 #[cx naA (.slice qaA xaA.length daA), cx naB (.slice qaB xaB.length daB)] w fun e w' => e = .returned (.bool r0) ∧ Below w.heap.size w w') :
    Calls Try.prog 6 #[cx naA (.slice paA xaA.length caA), cx naB (.slice paB xaB.length caB)] w fun e w' => e = .returned (.bool true) ∧ Below w.heap.size w w' := by
  have HS := Lib.hid hs
  have HI := Lib.hid hi
  clear hs hi
  have HaA := Lib.hid haA
  clear haA
  have HaB := Lib.hid haB
  clear haB
  have txaA := Two.new w (.int .i64 naA) (.slice paA xaA.length caA) 29
  have TXaA := Lib.hid txaA
  clear txaA
  have TXaA := Lib.hid (TXaA.out.alloc (Obj.cells #[Value.int IntKind.i64 naB, Value.slice paB xaB.length caB] 29))
  have txaB := Two.new (w.alloc (Obj.cells #[Value.int IntKind.i64 naA, Value.slice paA xaA.length caA] 29)) (.int .i64 naB) (.slice paB xaB.length caB) 29
  simp only [World.size_alloc] at txaB
  have TXaB := Lib.hid txaB
  clear txaB
  have hbx : Below w.heap.size w ((w.alloc (Obj.cells #[Value.int IntKind.i64 naA, Value.slice paA xaA.length caA] 29)).alloc (Obj.cells #[Value.int IntKind.i64 naB, Value.slice paB xaB.length caB] 29)) := (((Below.refl _ _).alloc (by simp) _).alloc (by simp) _)
  have HBX := Lib.hid hbx
  have hzx := hbx.size
  simp only [World.size_alloc] at hzx
  clear hbx
  by_cases hokaA : xaA.length ≤ 1048576
  case neg =>
    go_enter Try.func6, Try.ntmps6
    go_wp2_with fail
    refine (szCx_big _ _ _ xaA hlenaA _ (1048576) (by first | rfl | omega) (by omega) hokaA _).mono ?_
    rintro e vaA ⟨rfl, hvaA⟩
    go_wp2
    go_ret
    exact ⟨rfl, (HBX.out.trans (hvaA.mono HBX.out.size))⟩
  have hsaA : xaA.length ≤ 1048576 := by omega
  by_cases hokaB : xaB.length ≤ 1048576 - xaA.length
  case neg =>
    go_enter Try.func6, Try.ntmps6
    go_wp2_with fail
    refine (szCx_ok _ _ _ xaA _ (1048576) (by first | rfl | omega) (by omega) hokaA _).mono ?_
    rintro e vaA ⟨rfl, hvaA⟩
    have hvzaA := hvaA.size
    have TVaA := Lib.hid (TXaA.out.keeps hvaA)
    obtain ⟨tvaaA, tvbaA, tvcaA, _, _⟩ := TVaA.out
    have TVaB := Lib.hid (TXaB.out.keeps hvaA)
    obtain ⟨tvaaB, tvbaB, tvcaB, _, _⟩ := TVaB.out
    go_wp2_with fail
    refine (szCx_big _ _ _ xaB hlenaB _ (1048576 - xaA.length) (by first | rfl | omega) (by omega) hokaB _).mono ?_
    rintro e vaB ⟨rfl, hvaB⟩
    go_wp2
    go_ret
    exact ⟨rfl, ((HBX.out.trans (hvaA.mono HBX.out.size)).trans (hvaB.mono (Nat.le_trans HBX.out.size hvzaA)))⟩
  have hsaB : xaB.length ≤ 1048576 := by omega
  go_enter Try.func6, Try.ntmps6
  go_wp2_with fail
  refine (szCx_ok _ _ _ xaA _ (1048576) (by first | rfl | omega) (by omega) hokaA _).mono ?_
  rintro e w1 ⟨rfl, hb1⟩
  have hz1 : w.heap.size ≤ w1.heap.size := Nat.le_trans HBX.out.size hb1.size
  have B1 : Hid (Below w.heap.size w w1) := HBX.out.trans (hb1.mono HBX.out.size)
  have TaA1 := Lib.hid (TXaA.out.keeps hb1)
  obtain ⟨taaA1, tbaA1, tcaA1, _, _⟩ := TaA1.out
  have TaB1 := Lib.hid (TXaB.out.keeps hb1)
  obtain ⟨taaB1, tbaB1, tcaB1, _, _⟩ := TaB1.out
  clear hb1
  go_wp2_with fail
  refine (szCx_ok _ _ _ xaB _ (1048576 - xaA.length) (by first | rfl | omega) (by omega) hokaB _).mono ?_
  rintro e w2 ⟨rfl, hb2⟩
  have hz2 := hb2.size
  try simp only [World.size_alloc] at hz2
  have TaA2 := Lib.hid (TaA1.out.keeps hb2)
  clear TaA1
  clear tbaA1 tcaA1
  obtain ⟨taaA2, tbaA2, tcaA2, _, _⟩ := TaA2.out
  have TaB2 := Lib.hid (TaB1.out.keeps hb2)
  clear TaB1
  clear tbaB1 tcaB1
  obtain ⟨taaB2, tbaB2, tcaB2, _, _⟩ := TaB2.out
  have B2 : Hid (Below w.heap.size w w2) := B1.out.trans (hb2.mono (by first | omega | (simp only [World.size_alloc]; omega)))
  clear hb2
  go_wp2_with fail
  go_region_held3 (fun w' => w'.cell? ⟨w.heap.size, 0, none⟩ = some (.int .i64 naA) ∧ w'.cell? ⟨w.heap.size, 1, none⟩ = some (.slice paA xaA.length caA) ∧ w'.cell? ⟨w.heap.size + 1, 0, none⟩ = some (.int .i64 naB) ∧ w'.cell? ⟨w.heap.size + 1, 1, none⟩ = some (.slice paB xaB.length caB) ∧ Below w2.heap.size w2 w') (first | (exact ⟨TaA2.out.drew.2.1, TaA2.out.drew.2.2.1, TaB2.out.drew.2.1, TaB2.out.drew.2.2.1, bdrew1 _⟩) | (exact ⟨(TaA2.out.keeps (below_fresh hbA3)).2.1, (TaA2.out.keeps (below_fresh hbA3)).2.2.1, (TaB2.out.keeps (below_fresh hbA3)).2.1, (TaB2.out.keeps (below_fresh hbA3)).2.2.1, (below_fresh hbA3)⟩) | (exact ⟨((TaA2.out.keeps (below_fresh hbA3)).keeps hbB3).2.1, ((TaA2.out.keeps (below_fresh hbA3)).keeps hbB3).2.2.1, ((TaB2.out.keeps (below_fresh hbA3)).keeps hbB3).2.1, ((TaB2.out.keeps (below_fresh hbA3)).keeps hbB3).2.2.1, ((below_fresh hbA3).trans (hbB3.mono (below_fresh hbA3).size))⟩) | (exact ⟨(((TaA2.out.keeps (below_fresh hbA3)).keeps hbB3).keeps hbZ3).2.1, (((TaA2.out.keeps (below_fresh hbA3)).keeps hbB3).keeps hbZ3).2.2.1, (((TaB2.out.keeps (below_fresh hbA3)).keeps hbB3).keeps hbZ3).2.1, (((TaB2.out.keeps (below_fresh hbA3)).keeps hbB3).keeps hbZ3).2.2.1, (((below_fresh hbA3).trans (hbB3.mono (below_fresh hbA3).size)).trans (hbZ3.mono ((below_fresh hbA3).trans (hbB3.mono (below_fresh hbA3).size)).size))⟩)) (first | (go_at_call 15; with_reducible refine (toCx_any naA _ _ xaA hsaA _ (Ints.drew (HaA.out.keeps B2.out))).mono ?_; rintro e wA3 ⟨gA3, rfl, hgeA3, hltA3, hrA3, hbA3⟩) | (go_at_call 15; with_reducible refine (toCx_any naB _ _ xaB hsaB _ ((HaB.out.keeps B2.out).keeps (below_fresh hbA3))).mono ?_; rintro e wB3 ⟨gB3, rfl, hgeB3, hltB3, hrB3, hbB3⟩) | (go_at_call 23; refine (HS.out _ _ _ _ _ hsaA hsaB (Nat.le_refl _) (hrA3.keeps hbB3).ints (Nat.le_refl _) hrB3.ints).mono ?_; rintro e w3 ⟨rfl, hbZ3⟩))
  have hb3 : Below w2.heap.size w2 w3 := (((below_fresh hbA3).trans (hbB3.mono (below_fresh hbA3).size)).trans (hbZ3.mono ((below_fresh hbA3).trans (hbB3.mono (below_fresh hbA3).size)).size))
  have hz3 := hb3.size
  try simp only [World.size_alloc] at hz3
  have TaA3 := Lib.hid (TaA2.out.keeps hb3)
  clear TaA2
  clear tbaA2 tcaA2
  obtain ⟨taaA3, tbaA3, tcaA3, _, _⟩ := TaA3.out
  have TaB3 := Lib.hid (TaB2.out.keeps hb3)
  clear TaB2
  clear tbaB2 tcaB2
  obtain ⟨taaB3, tbaB3, tcaB3, _, _⟩ := TaB3.out
  have B3 : Hid (Below w.heap.size w w3) := B2.out.trans (hb3.mono (by first | omega | (simp only [World.size_alloc]; omega)))
  clear hb3
  go_wp2_with fail
  refine (toCx_any naA _ _ xaA hsaA _ (HaA.out.keeps B3.out)).mono ?_
  rintro e w4 ⟨g4, rfl, hge4, hlt4, hr4, hb4⟩
  try simp only [World.size_alloc] at hge4
  have F4 := Lib.hid hr4
  clear hr4
  have hz4 := hb4.size
  try simp only [World.size_alloc] at hz4
  have TaA4 := Lib.hid (TaA3.out.keeps hb4)
  clear TaA3
  clear tbaA3 tcaA3
  obtain ⟨taaA4, tbaA4, tcaA4, _, _⟩ := TaA4.out
  have TaB4 := Lib.hid (TaB3.out.keeps hb4)
  clear TaB3
  clear tbaB3 tcaB3
  obtain ⟨taaB4, tbaB4, tcaB4, _, _⟩ := TaB4.out
  have B4 : Hid (Below w.heap.size w w4) := B3.out.trans (hb4.mono (by first | omega | (simp only [World.size_alloc]; omega)))
  clear hb4
  have hb5 : Below w4.heap.size w4 (w4.alloc (Obj.cells #[Value.int IntKind.i64 naA, .slice (some ⟨g4, 0, none⟩) xaA.length xaA.length] 31)) := (Below.refl _ _).alloc (Nat.le_refl _) _
  have hz5 := hb5.size
  try simp only [World.size_alloc] at hz5
  have TaA5 := Lib.hid (TaA4.out.keeps hb5)
  clear TaA4
  obtain ⟨taaA5, tbaA5, tcaA5, _, _⟩ := TaA5.out
  have TaB5 := Lib.hid (TaB4.out.keeps hb5)
  clear TaB4
  obtain ⟨taaB5, tbaB5, tcaB5, _, _⟩ := TaB5.out
  have R1 := Lib.hid (F4.out.keeps hb5)
  have B5 : Hid (Below w.heap.size w (w4.alloc (Obj.cells #[Value.int IntKind.i64 naA, .slice (some ⟨g4, 0, none⟩) xaA.length xaA.length] 31))) := B4.out.trans (hb5.mono (by first | omega | (simp only [World.size_alloc]; omega)))
  clear hb5
  have Tx05 := Lib.hid (Two.new w4 (.int .i64 naA) (.slice (some ⟨g4, 0, none⟩) xaA.length xaA.length) 31)
  obtain ⟨tax05, tbx05, tcx05, _, _⟩ := Tx05.out
  go_wp2_with fail
  refine (toCx_any naB _ _ xaB hsaB _ (HaB.out.keeps B5.out)).mono ?_
  rintro e w6 ⟨g6, rfl, hge6, hlt6, hr6, hb6⟩
  try simp only [World.size_alloc] at hge6
  have F6 := Lib.hid hr6
  clear hr6
  have hz6 := hb6.size
  try simp only [World.size_alloc] at hz6
  have TaA6 := Lib.hid (TaA5.out.keeps hb6)
  clear TaA5
  clear tbaA5 tcaA5
  obtain ⟨taaA6, tbaA6, tcaA6, _, _⟩ := TaA6.out
  have TaB6 := Lib.hid (TaB5.out.keeps hb6)
  clear TaB5
  clear tbaB5 tcaB5
  obtain ⟨taaB6, tbaB6, tcaB6, _, _⟩ := TaB6.out
  have Tx06 := Lib.hid (Tx05.out.keeps hb6)
  clear Tx05
  clear tbx05 tcx05
  obtain ⟨tax06, tbx06, tcx06, _, _⟩ := Tx06.out
  have R2 := Lib.hid (R1.out.keeps hb6)
  clear R1
  have B6 : Hid (Below w.heap.size w w6) := B5.out.trans (hb6.mono (by first | omega | (simp only [World.size_alloc]; omega)))
  clear hb6
  have hb7 : Below w6.heap.size w6 (w6.alloc (Obj.cells #[Value.int IntKind.i64 naB, .slice (some ⟨g6, 0, none⟩) xaB.length xaB.length] 31)) := (Below.refl _ _).alloc (Nat.le_refl _) _
  have hz7 := hb7.size
  try simp only [World.size_alloc] at hz7
  have TaA7 := Lib.hid (TaA6.out.keeps hb7)
  clear TaA6
  obtain ⟨taaA7, tbaA7, tcaA7, _, _⟩ := TaA7.out
  have TaB7 := Lib.hid (TaB6.out.keeps hb7)
  clear TaB6
  obtain ⟨taaB7, tbaB7, tcaB7, _, _⟩ := TaB7.out
  have Tx07 := Lib.hid (Tx06.out.keeps hb7)
  clear Tx06
  obtain ⟨tax07, tbx07, tcx07, _, _⟩ := Tx07.out
  have R3 := Lib.hid (R2.out.keeps hb7)
  clear R2
  have R4 := Lib.hid (F6.out.keeps hb7)
  have B7 : Hid (Below w.heap.size w (w6.alloc (Obj.cells #[Value.int IntKind.i64 naB, .slice (some ⟨g6, 0, none⟩) xaB.length xaB.length] 31))) := B6.out.trans (hb7.mono (by first | omega | (simp only [World.size_alloc]; omega)))
  clear hb7
  have Tx17 := Lib.hid (Two.new w6 (.int .i64 naB) (.slice (some ⟨g6, 0, none⟩) xaB.length xaB.length) 31)
  obtain ⟨tax17, tbx17, tcx17, _, _⟩ := Tx17.out
  go_wp2_with fail
  refine ((HI.out _ _ _ _ _ hsaA hsaB (Nat.le_refl _) R3.out.ints (Nat.le_refl _) R4.out.ints).mono ?_)
  rintro e w8 ⟨rfl, hb8⟩
  have hz8 := hb8.size
  try simp only [World.size_alloc] at hz8
  have TaA8 := Lib.hid (TaA7.out.keeps hb8)
  clear TaA7
  clear tbaA7 tcaA7
  obtain ⟨taaA8, tbaA8, tcaA8, _, _⟩ := TaA8.out
  have TaB8 := Lib.hid (TaB7.out.keeps hb8)
  clear TaB7
  clear tbaB7 tcaB7
  obtain ⟨taaB8, tbaB8, tcaB8, _, _⟩ := TaB8.out
  have Tx08 := Lib.hid (Tx07.out.keeps hb8)
  clear Tx07
  clear tbx07 tcx07
  obtain ⟨tax08, tbx08, tcx08, _, _⟩ := Tx08.out
  have Tx18 := Lib.hid (Tx17.out.keeps hb8)
  clear Tx17
  clear tbx17 tcx17
  obtain ⟨tax18, tbx18, tcx18, _, _⟩ := Tx18.out
  have R5 := Lib.hid (R3.out.keeps hb8)
  clear R3
  have R6 := Lib.hid (R4.out.keeps hb8)
  clear R4
  have B8 : Hid (Below w.heap.size w w8) := B7.out.trans (hb8.mono (by first | omega | (simp only [World.size_alloc]; omega)))
  clear hb8
  go_wp2_with fail
  go_region_held3 (fun w' => w'.cell? ⟨w4.heap.size, 0, none⟩ = some (.int .i64 naA) ∧ w'.cell? ⟨w4.heap.size, 1, none⟩ = some (.slice (some ⟨g4, 0, none⟩) xaA.length xaA.length) ∧ w'.cell? ⟨w.heap.size, 0, none⟩ = some (.int .i64 naA) ∧ w'.cell? ⟨w.heap.size, 1, none⟩ = some (.slice paA xaA.length caA) ∧ Below w8.heap.size w8 w') (first | (exact ⟨Tx08.out.drew.2.1, Tx08.out.drew.2.2.1, TaA8.out.drew.2.1, TaA8.out.drew.2.2.1, bdrew1 _⟩) | (exact ⟨(Tx08.out.keeps (below_fresh hbA9)).2.1, (Tx08.out.keeps (below_fresh hbA9)).2.2.1, (TaA8.out.keeps (below_fresh hbA9)).2.1, (TaA8.out.keeps (below_fresh hbA9)).2.2.1, below_fresh hbA9⟩) | (exact ⟨((Tx08.out.keeps (below_fresh hbA9)).keeps hbB9).2.1, ((Tx08.out.keeps (below_fresh hbA9)).keeps hbB9).2.2.1, ((TaA8.out.keeps (below_fresh hbA9)).keeps hbB9).2.1, ((TaA8.out.keeps (below_fresh hbA9)).keeps hbB9).2.2.1, (below_fresh hbA9).trans (hbB9.mono (below_fresh hbA9).size)⟩)) (first | (go_at_call 15; refine (toCx_any naA _ _ xaA hsaA _ (Ints.drew (HaA.out.keeps B8.out))).mono ?_; rintro e wA9 ⟨gA9, rfl, hgeA9, hltA9, hrA9, hbA9⟩) | (go_at_call 17; refine (eqCx_any _ _ _ _ _ xaA (by omega) _ (R5.out.keeps (below_fresh hbA9)).ints hrA9.ints).mono ?_; rintro e w9 ⟨rfl, hbB9⟩))
  have hb9 : Below w8.heap.size w8 w9 := (below_fresh hbA9).trans (hbB9.mono (below_fresh hbA9).size)
  have hz9 := hb9.size
  try simp only [World.size_alloc] at hz9
  have TaA9 := Lib.hid (TaA8.out.keeps hb9)
  clear TaA8
  clear tbaA8 tcaA8
  obtain ⟨taaA9, tbaA9, tcaA9, _, _⟩ := TaA9.out
  have TaB9 := Lib.hid (TaB8.out.keeps hb9)
  clear TaB8
  clear tbaB8 tcaB8
  obtain ⟨taaB9, tbaB9, tcaB9, _, _⟩ := TaB9.out
  have Tx09 := Lib.hid (Tx08.out.keeps hb9)
  clear Tx08
  clear tbx08 tcx08
  obtain ⟨tax09, tbx09, tcx09, _, _⟩ := Tx09.out
  have Tx19 := Lib.hid (Tx18.out.keeps hb9)
  clear Tx18
  clear tbx18 tcx18
  obtain ⟨tax19, tbx19, tcx19, _, _⟩ := Tx19.out
  have R7 := Lib.hid (R5.out.keeps hb9)
  clear R5
  have R8 := Lib.hid (R6.out.keeps hb9)
  clear R6
  have B9 : Hid (Below w.heap.size w w9) := B8.out.trans (hb9.mono (by first | omega | (simp only [World.size_alloc]; omega)))
  clear hb9
  go_wp2_with fail
  go_region_held3 (fun w' => w'.cell? ⟨w6.heap.size, 0, none⟩ = some (.int .i64 naB) ∧ w'.cell? ⟨w6.heap.size, 1, none⟩ = some (.slice (some ⟨g6, 0, none⟩) xaB.length xaB.length) ∧ w'.cell? ⟨w.heap.size + 1, 0, none⟩ = some (.int .i64 naB) ∧ w'.cell? ⟨w.heap.size + 1, 1, none⟩ = some (.slice paB xaB.length caB) ∧ Below w9.heap.size w9 w') (first | (exact ⟨Tx19.out.drew.2.1, Tx19.out.drew.2.2.1, TaB9.out.drew.2.1, TaB9.out.drew.2.2.1, bdrew1 _⟩) | (exact ⟨(Tx19.out.keeps (below_fresh hbA10)).2.1, (Tx19.out.keeps (below_fresh hbA10)).2.2.1, (TaB9.out.keeps (below_fresh hbA10)).2.1, (TaB9.out.keeps (below_fresh hbA10)).2.2.1, below_fresh hbA10⟩) | (exact ⟨((Tx19.out.keeps (below_fresh hbA10)).keeps hbB10).2.1, ((Tx19.out.keeps (below_fresh hbA10)).keeps hbB10).2.2.1, ((TaB9.out.keeps (below_fresh hbA10)).keeps hbB10).2.1, ((TaB9.out.keeps (below_fresh hbA10)).keeps hbB10).2.2.1, (below_fresh hbA10).trans (hbB10.mono (below_fresh hbA10).size)⟩)) (first | (go_at_call 15; refine (toCx_any naB _ _ xaB hsaB _ (Ints.drew (HaB.out.keeps B9.out))).mono ?_; rintro e wA10 ⟨gA10, rfl, hgeA10, hltA10, hrA10, hbA10⟩) | (go_at_call 17; refine (eqCx_any _ _ _ _ _ xaB (by omega) _ (R8.out.keeps (below_fresh hbA10)).ints hrA10.ints).mono ?_; rintro e w10 ⟨rfl, hbB10⟩))
  have hb10 : Below w9.heap.size w9 w10 := (below_fresh hbA10).trans (hbB10.mono (below_fresh hbA10).size)
  have hz10 := hb10.size
  try simp only [World.size_alloc] at hz10
  have TaA10 := Lib.hid (TaA9.out.keeps hb10)
  clear TaA9
  clear tbaA9 tcaA9
  obtain ⟨taaA10, tbaA10, tcaA10, _, _⟩ := TaA10.out
  have TaB10 := Lib.hid (TaB9.out.keeps hb10)
  clear TaB9
  clear tbaB9 tcaB9
  obtain ⟨taaB10, tbaB10, tcaB10, _, _⟩ := TaB10.out
  have Tx010 := Lib.hid (Tx09.out.keeps hb10)
  clear Tx09
  clear tbx09 tcx09
  obtain ⟨tax010, tbx010, tcx010, _, _⟩ := Tx010.out
  have Tx110 := Lib.hid (Tx19.out.keeps hb10)
  clear Tx19
  clear tbx19 tcx19
  obtain ⟨tax110, tbx110, tcx110, _, _⟩ := Tx110.out
  have R9 := Lib.hid (R7.out.keeps hb10)
  clear R7
  have R10 := Lib.hid (R8.out.keeps hb10)
  clear R8
  have B10 : Hid (Below w.heap.size w w10) := B9.out.trans (hb10.mono (by first | omega | (simp only [World.size_alloc]; omega)))
  clear hb10
  go_wp2
  go_ret
  exact ⟨rfl, B10.out⟩

end Go.Proofs.Ytbkkdgmiokdbmaa
