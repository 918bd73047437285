/-
  THE WALK of the law on DisjointOf: the law's own text; spec's and impl's answers are premises.
-/
import Derived.Test.YthobncbggaggjaaFill
import Derived.Deep.RegionHeld3
import Derived.Deep.DeepCutAuto
namespace Go.Proofs.Ythobncbggaggjaa
open Go.RowKit

set_option maxRecDepth 100000 in
set_option maxHeartbeats 4000000 in
theorem exactDisjointOf_walk (naA : Int) (paA : Option Addr) (caA : Nat) (xaA : List Int) (naB : Int) (paB : Option Addr) (caB : Nat) (xaB : List Int) (w : World) (r0n : Int) (r0 : List Int) (r1 : Bool) (hlenaA : xaA.length ≤ 9223372036854775807) (haA : Ints w paA xaA) (hlenaB : xaB.length ≤ 9223372036854775807) (haB : Ints w paB xaB) (hr0 : r0.length ≤ 1048576)
    (hs : ∀ (w : World) (qaA : Option Addr) (daA : Nat) (qaB : Option Addr) (daB : Nat), xaA.length ≤ 1048576 → xaB.length ≤ 1048576 → xaA.length ≤ daA → Ints w qaA xaA → xaB.length ≤ daB → Ints w qaB xaB → Calls Try.prog 16 #[cx naA (.slice qaA xaA.length daA), cx naB (.slice qaB xaB.length daB)] w fun e w' => ∃ v0, e = .returned (.tuple #[cx r0n v0, .bool r1]) ∧ HasInts w' w.heap.size v0 r0 ∧ Below w.heap.size w w')
    (hi : ∀ (w : World) (qaA : Option Addr) (daA : Nat) (qaB : Option Addr) (daB : Nat), xaA.length ≤ 1048576 → xaB.length ≤ 1048576 → xaA.length ≤ daA → Ints w qaA xaA → xaB.length ≤ daB → Ints w qaB xaB → Calls Try.prog 15 #[cx naA (.slice qaA xaA.length daA), cx naB (.slice qaB xaB.length daB)] w fun e w' => ∃ v0, e = .returned (.tuple #[cx r0n v0, .bool r1]) ∧ HasInts w' w.heap.size v0 r0 ∧ Below w.heap.size w w') :
    Calls Try.prog 5 #[cx naA (.slice paA xaA.length caA), cx naB (.slice paB xaB.length caB)] w fun e w' => e = .returned (.bool true) ∧ Below w.heap.size w w' := by
  have HS := Lib.hid hs
  have HI := Lib.hid hi
  clear hs hi
  have HaA := Lib.hid haA
  clear haA
  have HaB := Lib.hid haB
  clear haB
  have txaA := Two.new w (.int .i64 naA) (.slice paA xaA.length caA) 42
  have TXaA := Lib.hid txaA
  clear txaA
  have TXaA := Lib.hid (TXaA.out.alloc (Obj.cells #[Value.int IntKind.i64 naB, Value.slice paB xaB.length caB] 42))
  have txaB := Two.new (w.alloc (Obj.cells #[Value.int IntKind.i64 naA, Value.slice paA xaA.length caA] 42)) (.int .i64 naB) (.slice paB xaB.length caB) 42
  simp only [World.size_alloc] at txaB
  have TXaB := Lib.hid txaB
  clear txaB
  have hbx : Below w.heap.size w ((w.alloc (Obj.cells #[Value.int IntKind.i64 naA, Value.slice paA xaA.length caA] 42)).alloc (Obj.cells #[Value.int IntKind.i64 naB, Value.slice paB xaB.length caB] 42)) := (((Below.refl _ _).alloc (by simp) _).alloc (by simp) _)
  have HBX := Lib.hid hbx
  have hzx := hbx.size
  simp only [World.size_alloc] at hzx
  clear hbx
  by_cases hokaA : xaA.length ≤ 1048576
  case neg =>
    go_enter Try.func5, Try.ntmps5
    go_wp2_with fail
    refine (szCx_big _ _ _ xaA hlenaA _ (1048576) (by first | rfl | omega) (by omega) hokaA _).mono ?_
    rintro e vaA ⟨rfl, hvaA⟩
    go_wp2
    go_ret
    exact ⟨rfl, (HBX.out.trans (hvaA.mono HBX.out.size))⟩
  have hsaA : xaA.length ≤ 1048576 := by omega
  by_cases hokaB : xaB.length ≤ 1048576 - xaA.length
  case neg =>
    go_enter Try.func5, Try.ntmps5
    go_wp2_with fail
    refine (szCx_ok _ _ _ xaA _ (1048576) (by first | rfl | omega) (by omega) hokaA _).mono ?_
    rintro e vaA ⟨rfl, hvaA⟩
    have hvzaA := hvaA.size
    have TVaA := Lib.hid (TXaA.out.keeps hvaA)
    obtain ⟨tvaaA, tvbaA, tvcaA, _, _⟩ := TVaA.out
    have TVaB := Lib.hid (TXaB.out.keeps hvaA)
    obtain ⟨tvaaB, tvbaB, tvcaB, _, _⟩ := TVaB.out
    go_wp2_with fail
    refine (szCx_big _ _ _ xaB hlenaB _ (1048576 - xaA.length) (by first | rfl | omega) (by omega) hokaB _).mono ?_
    rintro e vaB ⟨rfl, hvaB⟩
    go_wp2
    go_ret
    exact ⟨rfl, ((HBX.out.trans (hvaA.mono HBX.out.size)).trans (hvaB.mono (Nat.le_trans HBX.out.size hvzaA)))⟩
  have hsaB : xaB.length ≤ 1048576 := by omega
  go_enter Try.func5, Try.ntmps5
  go_wp2_with fail
  refine (szCx_ok _ _ _ xaA _ (1048576) (by first | rfl | omega) (by omega) hokaA _).mono ?_
  rintro e w1 ⟨rfl, hb1⟩
  have hz1 : w.heap.size ≤ w1.heap.size := Nat.le_trans HBX.out.size hb1.size
  have B1 : Hid (Below w.heap.size w w1) := HBX.out.trans (hb1.mono HBX.out.size)
  have TaA1 := Lib.hid (TXaA.out.keeps hb1)
  obtain ⟨taaA1, tbaA1, tcaA1, _, _⟩ := TaA1.out
  have TaB1 := Lib.hid (TXaB.out.keeps hb1)
  obtain ⟨taaB1, tbaB1, tcaB1, _, _⟩ := TaB1.out
  clear hb1
  go_wp2_with fail
  refine (szCx_ok _ _ _ xaB _ (1048576 - xaA.length) (by first | rfl | omega) (by omega) hokaB _).mono ?_
  rintro e w2 ⟨rfl, hb2⟩
  have hz2 := hb2.size
  try simp only [World.size_alloc] at hz2
  have TaA2 := Lib.hid (TaA1.out.keeps hb2)
  clear TaA1
  clear tbaA1 tcaA1
  obtain ⟨taaA2, tbaA2, tcaA2, _, _⟩ := TaA2.out
  have TaB2 := Lib.hid (TaB1.out.keeps hb2)
  clear TaB1
  clear tbaB1 tcaB1
  obtain ⟨taaB2, tbaB2, tcaB2, _, _⟩ := TaB2.out
  have B2 : Hid (Below w.heap.size w w2) := B1.out.trans (hb2.mono (by first | omega | (simp only [World.size_alloc]; omega)))
  clear hb2
  have HBC : Hid (Below w2.heap.size w2 (World.drew w2)) := bdrew1 _
  go_upto_region 8 with fail
  go_cut [6, 7] (fun s s' wx => ∃ (bx : Nat) (a : Option Addr) (c g : Nat), s = .pointer (some ⟨bx, 0, none⟩) ∧ s' = .bool r1 ∧ Two wx bx (.int .i64 r0n) (.slice a r0.length c) ∧ IntsAt wx g a r0 ∧ w2.heap.size ≤ bx ∧ w2.heap.size ≤ g ∧ (g < wx.heap.size ∨ wx.heap.size + 4 ≤ g) ∧ Below w2.heap.size w2 wx)
  case first =>
    go_region_held3 (fun w' => w'.cell? ⟨w.heap.size, 0, none⟩ = some (.int .i64 naA) ∧ w'.cell? ⟨w.heap.size, 1, none⟩ = some (.slice paA xaA.length caA) ∧ w'.cell? ⟨w.heap.size + 1, 0, none⟩ = some (.int .i64 naB) ∧ w'.cell? ⟨w.heap.size + 1, 1, none⟩ = some (.slice paB xaB.length caB) ∧ Below w2.heap.size w2 w') (first | (exact ⟨(TaA2.out.keeps HBC.out).2.1, (TaA2.out.keeps HBC.out).2.2.1, (TaB2.out.keeps HBC.out).2.1, (TaB2.out.keeps HBC.out).2.2.1, HBC.out⟩) | (exact ⟨(TaA2.out.keeps (HBC.out.alloc HBC.out.size _)).2.1, (TaA2.out.keeps (HBC.out.alloc HBC.out.size _)).2.2.1, (TaB2.out.keeps (HBC.out.alloc HBC.out.size _)).2.1, (TaB2.out.keeps (HBC.out.alloc HBC.out.size _)).2.2.1, (HBC.out.alloc HBC.out.size _)⟩) | (exact ⟨(TaA2.out.keeps (((Below.refl _ _).alloc (Nat.le_refl _) _).drew)).2.1, (TaA2.out.keeps (((Below.refl _ _).alloc (Nat.le_refl _) _).drew)).2.2.1, (TaB2.out.keeps (((Below.refl _ _).alloc (Nat.le_refl _) _).drew)).2.1, (TaB2.out.keeps (((Below.refl _ _).alloc (Nat.le_refl _) _).drew)).2.2.1, (((Below.refl _ _).alloc (Nat.le_refl _) _).drew)⟩) | (exact ⟨(TaA2.out.keeps ((HBC.out.setCell HBX3.out _).setCell HBX3.out _)).2.1, (TaA2.out.keeps ((HBC.out.setCell HBX3.out _).setCell HBX3.out _)).2.2.1, (TaB2.out.keeps ((HBC.out.setCell HBX3.out _).setCell HBX3.out _)).2.1, (TaB2.out.keeps ((HBC.out.setCell HBX3.out _).setCell HBX3.out _)).2.2.1, ((HBC.out.setCell HBX3.out _).setCell HBX3.out _)⟩) | fail "arm") (first | (go_at_call 35; with_reducible refine (toCx_any naA _ _ xaA hsaA _ (HaA.out.keeps (B2.out.trans ((show Below w2.heap.size w2 (World.drew (World.alloc w2 (Obj.cells #[Value.int IntKind.i64 0, Value.slice none 0 0] 26))) from (((Below.refl _ _).alloc (Nat.le_refl _) (Obj.cells #[Value.int IntKind.i64 0, Value.slice none 0 0] 26)).drew)).mono B2.out.size)))).mono ?_; rintro e wA3 ⟨gA3, rfl, hgeA3, hltA3, hrA3, hbA3⟩; have TZ3 := Lib.hid ((Two.new w2 (.int .i64 0) (.slice none 0 0) 26).drew.keeps hbA3); have z1 := Two.z1 (Hid.out TZ3); have z2 := Two.z2 (Hid.out TZ3); have z3 := Two.z3 (Hid.out TZ3); have z4 := Two.z4 (Hid.out TZ3); have HBX3 := Lib.hid (Nat.le_refl (World.heap w2).size); have HBC := Lib.hid ((show Below w2.heap.size w2 (World.drew (World.alloc w2 (Obj.cells #[Value.int IntKind.i64 0, Value.slice none 0 0] 26))) from (((Below.refl _ _).alloc (Nat.le_refl _) (Obj.cells #[Value.int IntKind.i64 0, Value.slice none 0 0] 26)).drew)).trans (hbA3.mono (show Below w2.heap.size w2 (World.drew (World.alloc w2 (Obj.cells #[Value.int IntKind.i64 0, Value.slice none 0 0] 26))) from (((Below.refl _ _).alloc (Nat.le_refl _) (Obj.cells #[Value.int IntKind.i64 0, Value.slice none 0 0] 26)).drew)).size))) | (go_at_call 35; with_reducible refine (toCx_any naA _ _ xaA hsaA _ (HaA.out.keeps (B2.out.trans (HBC.out.mono B2.out.size)))).mono ?_; rintro e wA3 ⟨gA3, rfl, hgeA3, hltA3, hrA3, hbA3⟩; have HBC := Lib.hid (HBC.out.trans (hbA3.mono HBC.out.size))) | (go_at_call 35; with_reducible refine (toCx_any naB _ _ xaB hsaB _ (HaB.out.keeps (B2.out.trans ((HBC.out.alloc HBC.out.size (Obj.cells #[Value.int IntKind.i64 0, Value.slice none 0 0] 26)).mono B2.out.size)))).mono ?_; rintro e wB3 ⟨gB3, rfl, hgeB3, hltB3, hrB3, hbB3⟩; have TZ3 := Lib.hid ((Two.new wA3 (.int .i64 0) (.slice none 0 0) 26).keeps hbB3); have z1 := Two.z1 (Hid.out TZ3); have z2 := Two.z2 (Hid.out TZ3); have z3 := Two.z3 (Hid.out TZ3); have z4 := Two.z4 (Hid.out TZ3); have HBX3 := Lib.hid HBC.out.size; have HRA3 := Lib.hid ((hrA3.keeps ((Below.refl _ _).alloc (Nat.le_refl _) (Obj.cells #[Value.int IntKind.i64 0, Value.slice none 0 0] 26))).keeps hbB3); have HBC := Lib.hid ((HBC.out.alloc HBC.out.size (Obj.cells #[Value.int IntKind.i64 0, Value.slice none 0 0] 26)).trans (hbB3.mono (HBC.out.alloc HBC.out.size (Obj.cells #[Value.int IntKind.i64 0, Value.slice none 0 0] 26)).size))) | (go_at_call 35; with_reducible refine (toCx_any naB _ _ xaB hsaB _ (HaB.out.keeps (B2.out.trans (HBC.out.mono B2.out.size)))).mono ?_; rintro e wB3 ⟨gB3, rfl, hgeB3, hltB3, hrB3, hbB3⟩; have TZ3 := Lib.hid (TZ3.out.keeps hbB3); have z1 := Two.z1 (Hid.out TZ3); have z2 := Two.z2 (Hid.out TZ3); have z3 := Two.z3 (Hid.out TZ3); have z4 := Two.z4 (Hid.out TZ3); have HRA3 := Lib.hid (hrA3.keeps hbB3); have HBC := Lib.hid (HBC.out.trans (hbB3.mono HBC.out.size))) | (go_at_call 35; with_reducible refine (toCx_any naB _ _ xaB hsaB _ (HaB.out.keeps (B2.out.trans (HBC.out.mono B2.out.size)))).mono ?_; rintro e wB3 ⟨gB3, rfl, hgeB3, hltB3, hrB3, hbB3⟩; have HRA3 := Lib.hid (hrA3.keeps hbB3); have HBC := Lib.hid (HBC.out.trans (hbB3.mono HBC.out.size))) | (go_at_call 16; refine (HS.out _ _ _ _ _ hsaA hsaB  (Nat.le_refl _) (HRA3.out.keeps ((Below.refl _ _).alloc (Nat.le_refl _) (Obj.cells #[Value.int IntKind.i64 0, Value.slice none 0 0] 26))).ints (Nat.le_refl _) (hrB3.keeps ((Below.refl _ _).alloc (Nat.le_refl _) (Obj.cells #[Value.int IntKind.i64 0, Value.slice none 0 0] 26))).ints).mono ?_; rintro e w3 ⟨v3_0, rfl, hO3_0, hbZ3⟩; obtain ⟨a3_0, c3_0, g3_0, rfl, _, hg3_0, hr3_0, hd3_0⟩ := HasInts.ata hO3_0 hbZ3.size; have HLT3 := Lib.hid (Nat.lt_of_lt_of_le (Two.new wB3 (.int .i64 0) (.slice none 0 0) 26).1 hg3_0); have HG3 : Hid (w2.heap.size ≤ g3_0) := Nat.le_trans (HBC.out.alloc HBC.out.size (Obj.cells #[Value.int IntKind.i64 0, Value.slice none 0 0] 26)).size hg3_0; have TZ3 := Lib.hid ((Two.new wB3 (.int .i64 0) (.slice none 0 0) 26).keeps hbZ3); have z1 := Two.z1 (Hid.out TZ3); have z2 := Two.z2 (Hid.out TZ3); have z3 := Two.z3 (Hid.out TZ3); have z4 := Two.z4 (Hid.out TZ3); have HBX3 := Lib.hid HBC.out.size; have HBC := Lib.hid ((HBC.out.alloc HBC.out.size (Obj.cells #[Value.int IntKind.i64 0, Value.slice none 0 0] 26)).trans (hbZ3.mono (HBC.out.alloc HBC.out.size (Obj.cells #[Value.int IntKind.i64 0, Value.slice none 0 0] 26)).size))) | (go_at_call 16; refine (HS.out _ _ _ _ _ hsaA hsaB  (Nat.le_refl _) HRA3.out.ints (Nat.le_refl _) hrB3.ints).mono ?_; rintro e w3 ⟨v3_0, rfl, hO3_0, hbZ3⟩; obtain ⟨a3_0, c3_0, g3_0, rfl, _, hg3_0, hr3_0, hd3_0⟩ := HasInts.ata hO3_0 hbZ3.size; have HLT3 := Lib.hid (Nat.lt_of_lt_of_le TZ3.out.1 hg3_0); have HG3 : Hid (w2.heap.size ≤ g3_0) := Nat.le_trans HBC.out.size hg3_0; have TZ3 := Lib.hid (TZ3.out.keeps hbZ3); have z1 := Two.z1 (Hid.out TZ3); have z2 := Two.z2 (Hid.out TZ3); have z3 := Two.z3 (Hid.out TZ3); have z4 := Two.z4 (Hid.out TZ3); have HBC := Lib.hid (HBC.out.trans (hbZ3.mono HBC.out.size))) | (go_at_call 16; refine (HS.out _ _ _ _ _ hsaA hsaB  (Nat.le_refl _) HRA3.out.ints (Nat.le_refl _) hrB3.ints).mono ?_; rintro e w3 ⟨v3_0, rfl, hO3_0, hbZ3⟩; obtain ⟨a3_0, c3_0, g3_0, rfl, _, hg3_0, hr3_0, hd3_0⟩ := HasInts.ata hO3_0 hbZ3.size; have HG3 : Hid (w2.heap.size ≤ g3_0) := Nat.le_trans HBC.out.size hg3_0; have HBC := Lib.hid (HBC.out.trans (hbZ3.mono HBC.out.size))) | fail "arm")
    all_goals
      go_wp2_with fail
      go_meet
      first | (exact ⟨_, _, _, g3_0, rfl, rfl, Two.new _ _ _ _, hr3_0.keeps ((Below.refl _ _).alloc (Nat.le_refl _) _), HBC.out.size, HG3.out, (by rw [World.size_alloc]; omega), HBC.out.alloc HBC.out.size _⟩) | (exact ⟨_, _, _, g3_0, rfl, rfl, TZ3.out.fill _ _, IntsAt.fill hr3_0 (Nat.ne_of_gt HLT3.out) _ _, HBX3.out, HG3.out, (by rw [size_fill]; omega), (HBC.out.setCell HBX3.out _).setCell HBX3.out _⟩) | fail "meet"
  case rest =>
    obtain ⟨w3, rfl⟩ : ∃ z : World, z = wc := ⟨_, rfl⟩
    obtain ⟨bx3, a3_0, c3_0, g3_0, rfl, rfl, hT3, hF3, hbx3, hg3_0, hd3_0, hb3⟩ := hcut
    clear HBC
    have F3_0 := Lib.hid hF3
    have HT3 := Lib.hid hT3
    clear hF3 hT3
    have hz3 := hb3.size
    try simp only [World.size_alloc] at hz3
    have TaA3 := Lib.hid (TaA2.out.keeps hb3)
    clear TaA2
    clear tbaA2 tcaA2
    obtain ⟨taaA3, tbaA3, tcaA3, _, _⟩ := TaA3.out
    have TaB3 := Lib.hid (TaB2.out.keeps hb3)
    clear TaB2
    clear tbaB2 tcaB2
    obtain ⟨taaB3, tbaB3, tcaB3, _, _⟩ := TaB3.out
    have B3 : Hid (Below w.heap.size w w3) := B2.out.trans (hb3.mono (by first | omega | (simp only [World.size_alloc]; omega)))
    clear hb3
    have Tw03 := HT3
    obtain ⟨taw03, tbw03, tcw03, _, _⟩ := Tw03.out
    go_wp2_with fail
    refine (toCx_any naA _ _ xaA hsaA _ (HaA.out.keeps B3.out)).mono ?_
    rintro e w4 ⟨g4, rfl, hge4, hlt4, hr4, hb4⟩
    try simp only [World.size_alloc] at hge4
    have F4 := Lib.hid hr4
    clear hr4
    have hz4 := hb4.size
    try simp only [World.size_alloc] at hz4
    have TaA4 := Lib.hid (TaA3.out.keeps hb4)
    clear TaA3
    clear tbaA3 tcaA3
    obtain ⟨taaA4, tbaA4, tcaA4, _, _⟩ := TaA4.out
    have TaB4 := Lib.hid (TaB3.out.keeps hb4)
    clear TaB3
    clear tbaB3 tcaB3
    obtain ⟨taaB4, tbaB4, tcaB4, _, _⟩ := TaB4.out
    have Tw04 := Lib.hid (Tw03.out.keeps hb4)
    clear Tw03
    clear tbw03 tcw03
    obtain ⟨taw04, tbw04, tcw04, _, _⟩ := Tw04.out
    have R1 := Lib.hid (F3_0.out.keeps hb4)
    have B4 : Hid (Below w.heap.size w w4) := B3.out.trans (hb4.mono (by first | omega | (simp only [World.size_alloc]; omega)))
    clear hb4
    have hb5 : Below w4.heap.size w4 (w4.alloc (Obj.cells #[Value.int IntKind.i64 naA, .slice (some ⟨g4, 0, none⟩) xaA.length xaA.length] 26)) := (Below.refl _ _).alloc (Nat.le_refl _) _
    have hz5 := hb5.size
    try simp only [World.size_alloc] at hz5
    have TaA5 := Lib.hid (TaA4.out.keeps hb5)
    clear TaA4
    obtain ⟨taaA5, tbaA5, tcaA5, _, _⟩ := TaA5.out
    have TaB5 := Lib.hid (TaB4.out.keeps hb5)
    clear TaB4
    obtain ⟨taaB5, tbaB5, tcaB5, _, _⟩ := TaB5.out
    have Tw05 := Lib.hid (Tw04.out.keeps hb5)
    clear Tw04
    obtain ⟨taw05, tbw05, tcw05, _, _⟩ := Tw05.out
    have R2 := Lib.hid (R1.out.keeps hb5)
    clear R1
    have R3 := Lib.hid (F4.out.keeps hb5)
    have B5 : Hid (Below w.heap.size w (w4.alloc (Obj.cells #[Value.int IntKind.i64 naA, .slice (some ⟨g4, 0, none⟩) xaA.length xaA.length] 26))) := B4.out.trans (hb5.mono (by first | omega | (simp only [World.size_alloc]; omega)))
    clear hb5
    have Tx05 := Lib.hid (Two.new w4 (.int .i64 naA) (.slice (some ⟨g4, 0, none⟩) xaA.length xaA.length) 26)
    obtain ⟨tax05, tbx05, tcx05, _, _⟩ := Tx05.out
    go_wp2_with fail
    refine (toCx_any naB _ _ xaB hsaB _ (HaB.out.keeps B5.out)).mono ?_
    rintro e w6 ⟨g6, rfl, hge6, hlt6, hr6, hb6⟩
    try simp only [World.size_alloc] at hge6
    have F6 := Lib.hid hr6
    clear hr6
    have hz6 := hb6.size
    try simp only [World.size_alloc] at hz6
    have TaA6 := Lib.hid (TaA5.out.keeps hb6)
    clear TaA5
    clear tbaA5 tcaA5
    obtain ⟨taaA6, tbaA6, tcaA6, _, _⟩ := TaA6.out
    have TaB6 := Lib.hid (TaB5.out.keeps hb6)
    clear TaB5
    clear tbaB5 tcaB5
    obtain ⟨taaB6, tbaB6, tcaB6, _, _⟩ := TaB6.out
    have Tw06 := Lib.hid (Tw05.out.keeps hb6)
    clear Tw05
    clear tbw05 tcw05
    obtain ⟨taw06, tbw06, tcw06, _, _⟩ := Tw06.out
    have Tx06 := Lib.hid (Tx05.out.keeps hb6)
    clear Tx05
    clear tbx05 tcx05
    obtain ⟨tax06, tbx06, tcx06, _, _⟩ := Tx06.out
    have R4 := Lib.hid (R2.out.keeps hb6)
    clear R2
    have R5 := Lib.hid (R3.out.keeps hb6)
    clear R3
    have B6 : Hid (Below w.heap.size w w6) := B5.out.trans (hb6.mono (by first | omega | (simp only [World.size_alloc]; omega)))
    clear hb6
    have hb7 : Below w6.heap.size w6 (w6.alloc (Obj.cells #[Value.int IntKind.i64 naB, .slice (some ⟨g6, 0, none⟩) xaB.length xaB.length] 26)) := (Below.refl _ _).alloc (Nat.le_refl _) _
    have hz7 := hb7.size
    try simp only [World.size_alloc] at hz7
    have TaA7 := Lib.hid (TaA6.out.keeps hb7)
    clear TaA6
    obtain ⟨taaA7, tbaA7, tcaA7, _, _⟩ := TaA7.out
    have TaB7 := Lib.hid (TaB6.out.keeps hb7)
    clear TaB6
    obtain ⟨taaB7, tbaB7, tcaB7, _, _⟩ := TaB7.out
    have Tw07 := Lib.hid (Tw06.out.keeps hb7)
    clear Tw06
    obtain ⟨taw07, tbw07, tcw07, _, _⟩ := Tw07.out
    have Tx07 := Lib.hid (Tx06.out.keeps hb7)
    clear Tx06
    obtain ⟨tax07, tbx07, tcx07, _, _⟩ := Tx07.out
    have R6 := Lib.hid (R4.out.keeps hb7)
    clear R4
    have R7 := Lib.hid (R5.out.keeps hb7)
    clear R5
    have R8 := Lib.hid (F6.out.keeps hb7)
    have B7 : Hid (Below w.heap.size w (w6.alloc (Obj.cells #[Value.int IntKind.i64 naB, .slice (some ⟨g6, 0, none⟩) xaB.length xaB.length] 26))) := B6.out.trans (hb7.mono (by first | omega | (simp only [World.size_alloc]; omega)))
    clear hb7
    have Tx17 := Lib.hid (Two.new w6 (.int .i64 naB) (.slice (some ⟨g6, 0, none⟩) xaB.length xaB.length) 26)
    obtain ⟨tax17, tbx17, tcx17, _, _⟩ := Tx17.out
    go_wp2_with fail
    refine ((HI.out _ _ _ _ _ hsaA hsaB (Nat.le_refl _) R7.out.ints (Nat.le_refl _) R8.out.ints).mono ?_)
    rintro e w8 ⟨v8_0, rfl, hO8_0, hb8⟩
    obtain ⟨a8_0, c8_0, g8_0, rfl, _, hg8_0, hr8_0, hd8_0⟩ := hO8_0.ata hb8.size
    try simp only [World.size_alloc] at hg8_0
    have F8_0 := Lib.hid hr8_0
    clear hO8_0 hr8_0
    have hz8 := hb8.size
    try simp only [World.size_alloc] at hz8
    have TaA8 := Lib.hid (TaA7.out.keeps hb8)
    clear TaA7
    clear tbaA7 tcaA7
    obtain ⟨taaA8, tbaA8, tcaA8, _, _⟩ := TaA8.out
    have TaB8 := Lib.hid (TaB7.out.keeps hb8)
    clear TaB7
    clear tbaB7 tcaB7
    obtain ⟨taaB8, tbaB8, tcaB8, _, _⟩ := TaB8.out
    have Tw08 := Lib.hid (Tw07.out.keeps hb8)
    clear Tw07
    clear tbw07 tcw07
    obtain ⟨taw08, tbw08, tcw08, _, _⟩ := Tw08.out
    have Tx08 := Lib.hid (Tx07.out.keeps hb8)
    clear Tx07
    clear tbx07 tcx07
    obtain ⟨tax08, tbx08, tcx08, _, _⟩ := Tx08.out
    have Tx18 := Lib.hid (Tx17.out.keeps hb8)
    clear Tx17
    clear tbx17 tcx17
    obtain ⟨tax18, tbx18, tcx18, _, _⟩ := Tx18.out
    have R9 := Lib.hid (R6.out.keeps hb8)
    clear R6
    have R10 := Lib.hid (R7.out.keeps hb8)
    clear R7
    have R11 := Lib.hid (R8.out.keeps hb8)
    clear R8
    have B8 : Hid (Below w.heap.size w w8) := B7.out.trans (hb8.mono (by first | omega | (simp only [World.size_alloc]; omega)))
    clear hb8
    have hb9 : Below w8.heap.size w8 (w8.alloc (Obj.cells #[Value.int IntKind.i64 r0n, .slice a8_0 r0.length c8_0] 26)) := (Below.refl _ _).alloc (Nat.le_refl _) _
    have hz9 := hb9.size
    try simp only [World.size_alloc] at hz9
    have TaA9 := Lib.hid (TaA8.out.keeps hb9)
    clear TaA8
    obtain ⟨taaA9, tbaA9, tcaA9, _, _⟩ := TaA9.out
    have TaB9 := Lib.hid (TaB8.out.keeps hb9)
    clear TaB8
    obtain ⟨taaB9, tbaB9, tcaB9, _, _⟩ := TaB9.out
    have Tw09 := Lib.hid (Tw08.out.keeps hb9)
    clear Tw08
    obtain ⟨taw09, tbw09, tcw09, _, _⟩ := Tw09.out
    have Tx09 := Lib.hid (Tx08.out.keeps hb9)
    clear Tx08
    obtain ⟨tax09, tbx09, tcx09, _, _⟩ := Tx09.out
    have Tx19 := Lib.hid (Tx18.out.keeps hb9)
    clear Tx18
    obtain ⟨tax19, tbx19, tcx19, _, _⟩ := Tx19.out
    have R12 := Lib.hid (R9.out.keeps hb9)
    clear R9
    have R13 := Lib.hid (R10.out.keeps hb9)
    clear R10
    have R14 := Lib.hid (R11.out.keeps hb9)
    clear R11
    have R15 := Lib.hid (F8_0.out.keeps hb9)
    have B9 : Hid (Below w.heap.size w (w8.alloc (Obj.cells #[Value.int IntKind.i64 r0n, .slice a8_0 r0.length c8_0] 26))) := B8.out.trans (hb9.mono (by first | omega | (simp only [World.size_alloc]; omega)))
    clear hb9
    have Tg09 := Lib.hid (Two.new w8 (.int .i64 r0n) (.slice a8_0 r0.length c8_0) 26)
    obtain ⟨tag09, tbg09, tcg09, _, _⟩ := Tg09.out
    go_wp2_with fail
    refine (eqCx_any _ _ _ _ _ r0 (by omega) _ R15.out.ints R12.out.ints).mono ?_
    rintro e w10 ⟨rfl, hb10⟩
    have hz10 := hb10.size
    try simp only [World.size_alloc] at hz10
    have TaA10 := Lib.hid (TaA9.out.keeps hb10)
    clear TaA9
    clear tbaA9 tcaA9
    obtain ⟨taaA10, tbaA10, tcaA10, _, _⟩ := TaA10.out
    have TaB10 := Lib.hid (TaB9.out.keeps hb10)
    clear TaB9
    clear tbaB9 tcaB9
    obtain ⟨taaB10, tbaB10, tcaB10, _, _⟩ := TaB10.out
    have Tw010 := Lib.hid (Tw09.out.keeps hb10)
    clear Tw09
    clear tbw09 tcw09
    obtain ⟨taw010, tbw010, tcw010, _, _⟩ := Tw010.out
    have Tx010 := Lib.hid (Tx09.out.keeps hb10)
    clear Tx09
    clear tbx09 tcx09
    obtain ⟨tax010, tbx010, tcx010, _, _⟩ := Tx010.out
    have Tx110 := Lib.hid (Tx19.out.keeps hb10)
    clear Tx19
    clear tbx19 tcx19
    obtain ⟨tax110, tbx110, tcx110, _, _⟩ := Tx110.out
    have Tg010 := Lib.hid (Tg09.out.keeps hb10)
    clear Tg09
    clear tbg09 tcg09
    obtain ⟨tag010, tbg010, tcg010, _, _⟩ := Tg010.out
    have R16 := Lib.hid (R12.out.keeps hb10)
    clear R12
    have R17 := Lib.hid (R13.out.keeps hb10)
    clear R13
    have R18 := Lib.hid (R14.out.keeps hb10)
    clear R14
    have R19 := Lib.hid (R15.out.keeps hb10)
    clear R15
    have B10 : Hid (Below w.heap.size w w10) := B9.out.trans (hb10.mono (by first | omega | (simp only [World.size_alloc]; omega)))
    clear hb10
    go_wp2_with fail
    go_region_held3 (fun w' => w'.cell? ⟨w4.heap.size, 0, none⟩ = some (.int .i64 naA) ∧ w'.cell? ⟨w4.heap.size, 1, none⟩ = some (.slice (some ⟨g4, 0, none⟩) xaA.length xaA.length) ∧ w'.cell? ⟨w.heap.size, 0, none⟩ = some (.int .i64 naA) ∧ w'.cell? ⟨w.heap.size, 1, none⟩ = some (.slice paA xaA.length caA) ∧ Below w10.heap.size w10 w') (first | (exact ⟨Tx010.out.drew.2.1, Tx010.out.drew.2.2.1, TaA10.out.drew.2.1, TaA10.out.drew.2.2.1, bdrew1 _⟩) | (exact ⟨(Tx010.out.keeps (below_fresh hbA11)).2.1, (Tx010.out.keeps (below_fresh hbA11)).2.2.1, (TaA10.out.keeps (below_fresh hbA11)).2.1, (TaA10.out.keeps (below_fresh hbA11)).2.2.1, below_fresh hbA11⟩) | (exact ⟨((Tx010.out.keeps (below_fresh hbA11)).keeps hbB11).2.1, ((Tx010.out.keeps (below_fresh hbA11)).keeps hbB11).2.2.1, ((TaA10.out.keeps (below_fresh hbA11)).keeps hbB11).2.1, ((TaA10.out.keeps (below_fresh hbA11)).keeps hbB11).2.2.1, (below_fresh hbA11).trans (hbB11.mono (below_fresh hbA11).size)⟩)) (first | (go_at_call 35; refine (toCx_any naA _ _ xaA hsaA _ (Ints.drew (HaA.out.keeps B10.out))).mono ?_; rintro e wA11 ⟨gA11, rfl, hgeA11, hltA11, hrA11, hbA11⟩) | (go_at_call 36; refine (eqCx_any _ _ _ _ _ xaA (by omega) _ (R17.out.keeps (below_fresh hbA11)).ints hrA11.ints).mono ?_; rintro e w11 ⟨rfl, hbB11⟩))
    have hb11 : Below w10.heap.size w10 w11 := (below_fresh hbA11).trans (hbB11.mono (below_fresh hbA11).size)
    have hz11 := hb11.size
    try simp only [World.size_alloc] at hz11
    have TaA11 := Lib.hid (TaA10.out.keeps hb11)
    clear TaA10
    clear tbaA10 tcaA10
    obtain ⟨taaA11, tbaA11, tcaA11, _, _⟩ := TaA11.out
    have TaB11 := Lib.hid (TaB10.out.keeps hb11)
    clear TaB10
    clear tbaB10 tcaB10
    obtain ⟨taaB11, tbaB11, tcaB11, _, _⟩ := TaB11.out
    have Tw011 := Lib.hid (Tw010.out.keeps hb11)
    clear Tw010
    clear tbw010 tcw010
    obtain ⟨taw011, tbw011, tcw011, _, _⟩ := Tw011.out
    have Tx011 := Lib.hid (Tx010.out.keeps hb11)
    clear Tx010
    clear tbx010 tcx010
    obtain ⟨tax011, tbx011, tcx011, _, _⟩ := Tx011.out
    have Tx111 := Lib.hid (Tx110.out.keeps hb11)
    clear Tx110
    clear tbx110 tcx110
    obtain ⟨tax111, tbx111, tcx111, _, _⟩ := Tx111.out
    have Tg011 := Lib.hid (Tg010.out.keeps hb11)
    clear Tg010
    clear tbg010 tcg010
    obtain ⟨tag011, tbg011, tcg011, _, _⟩ := Tg011.out
    have R20 := Lib.hid (R16.out.keeps hb11)
    clear R16
    have R21 := Lib.hid (R17.out.keeps hb11)
    clear R17
    have R22 := Lib.hid (R18.out.keeps hb11)
    clear R18
    have R23 := Lib.hid (R19.out.keeps hb11)
    clear R19
    have B11 : Hid (Below w.heap.size w w11) := B10.out.trans (hb11.mono (by first | omega | (simp only [World.size_alloc]; omega)))
    clear hb11
    go_wp2_with fail
    go_region_held3 (fun w' => w'.cell? ⟨w6.heap.size, 0, none⟩ = some (.int .i64 naB) ∧ w'.cell? ⟨w6.heap.size, 1, none⟩ = some (.slice (some ⟨g6, 0, none⟩) xaB.length xaB.length) ∧ w'.cell? ⟨w.heap.size + 1, 0, none⟩ = some (.int .i64 naB) ∧ w'.cell? ⟨w.heap.size + 1, 1, none⟩ = some (.slice paB xaB.length caB) ∧ Below w11.heap.size w11 w') (first | (exact ⟨Tx111.out.drew.2.1, Tx111.out.drew.2.2.1, TaB11.out.drew.2.1, TaB11.out.drew.2.2.1, bdrew1 _⟩) | (exact ⟨(Tx111.out.keeps (below_fresh hbA12)).2.1, (Tx111.out.keeps (below_fresh hbA12)).2.2.1, (TaB11.out.keeps (below_fresh hbA12)).2.1, (TaB11.out.keeps (below_fresh hbA12)).2.2.1, below_fresh hbA12⟩) | (exact ⟨((Tx111.out.keeps (below_fresh hbA12)).keeps hbB12).2.1, ((Tx111.out.keeps (below_fresh hbA12)).keeps hbB12).2.2.1, ((TaB11.out.keeps (below_fresh hbA12)).keeps hbB12).2.1, ((TaB11.out.keeps (below_fresh hbA12)).keeps hbB12).2.2.1, (below_fresh hbA12).trans (hbB12.mono (below_fresh hbA12).size)⟩)) (first | (go_at_call 35; refine (toCx_any naB _ _ xaB hsaB _ (Ints.drew (HaB.out.keeps B11.out))).mono ?_; rintro e wA12 ⟨gA12, rfl, hgeA12, hltA12, hrA12, hbA12⟩) | (go_at_call 36; refine (eqCx_any _ _ _ _ _ xaB (by omega) _ (R22.out.keeps (below_fresh hbA12)).ints hrA12.ints).mono ?_; rintro e w12 ⟨rfl, hbB12⟩))
    have hb12 : Below w11.heap.size w11 w12 := (below_fresh hbA12).trans (hbB12.mono (below_fresh hbA12).size)
    have hz12 := hb12.size
    try simp only [World.size_alloc] at hz12
    have TaA12 := Lib.hid (TaA11.out.keeps hb12)
    clear TaA11
    clear tbaA11 tcaA11
    obtain ⟨taaA12, tbaA12, tcaA12, _, _⟩ := TaA12.out
    have TaB12 := Lib.hid (TaB11.out.keeps hb12)
    clear TaB11
    clear tbaB11 tcaB11
    obtain ⟨taaB12, tbaB12, tcaB12, _, _⟩ := TaB12.out
    have Tw012 := Lib.hid (Tw011.out.keeps hb12)
    clear Tw011
    clear tbw011 tcw011
    obtain ⟨taw012, tbw012, tcw012, _, _⟩ := Tw012.out
    have Tx012 := Lib.hid (Tx011.out.keeps hb12)
    clear Tx011
    clear tbx011 tcx011
    obtain ⟨tax012, tbx012, tcx012, _, _⟩ := Tx012.out
    have Tx112 := Lib.hid (Tx111.out.keeps hb12)
    clear Tx111
    clear tbx111 tcx111
    obtain ⟨tax112, tbx112, tcx112, _, _⟩ := Tx112.out
    have Tg012 := Lib.hid (Tg011.out.keeps hb12)
    clear Tg011
    clear tbg011 tcg011
    obtain ⟨tag012, tbg012, tcg012, _, _⟩ := Tg012.out
    have R24 := Lib.hid (R20.out.keeps hb12)
    clear R20
    have R25 := Lib.hid (R21.out.keeps hb12)
    clear R21
    have R26 := Lib.hid (R22.out.keeps hb12)
    clear R22
    have R27 := Lib.hid (R23.out.keeps hb12)
    clear R23
    have B12 : Hid (Below w.heap.size w w12) := B11.out.trans (hb12.mono (by first | omega | (simp only [World.size_alloc]; omega)))
    clear hb12
    go_wp2_with fail
    refine (markCx_any _ _ _ _ xaA _ 1 (by first | rfl | omega) (by omega) (by omega) _ R25.out).mono ?_
    rintro e w13 ⟨rfl, hr13, hgb13⟩
    have M13 := Lib.hid hr13
    have G13 := Lib.hid hgb13
    clear hr13 hgb13
    clear R25
    have hz13 := G13.out.size
    try simp only [World.size_alloc] at hz13
    have TaA13 := Lib.hid (TaA12.out.far G13.out (by omega))
    clear TaA12
    clear tbaA12 tcaA12
    obtain ⟨taaA13, tbaA13, tcaA13, _, _⟩ := TaA13.out
    have TaB13 := Lib.hid (TaB12.out.far G13.out (by omega))
    clear TaB12
    clear tbaB12 tcaB12
    obtain ⟨taaB13, tbaB13, tcaB13, _, _⟩ := TaB13.out
    have Tw013 := Lib.hid (Tw012.out.far G13.out (by omega))
    clear Tw012
    clear tbw012 tcw012
    obtain ⟨taw013, tbw013, tcw013, _, _⟩ := Tw013.out
    have Tx013 := Lib.hid (Tx012.out.far G13.out (by omega))
    clear Tx012
    clear tbx012 tcx012
    obtain ⟨tax013, tbx013, tcx013, _, _⟩ := Tx013.out
    have Tx113 := Lib.hid (Tx112.out.far G13.out (by omega))
    clear Tx112
    clear tbx112 tcx112
    obtain ⟨tax113, tbx113, tcx113, _, _⟩ := Tx113.out
    have Tg013 := Lib.hid (Tg012.out.far G13.out (by omega))
    clear Tg012
    clear tbg012 tcg012
    obtain ⟨tag013, tbg013, tcg013, _, _⟩ := Tg013.out
    have R28 := Lib.hid (IntsAt.fars F3_0.out R24.out G13.out (by omega))
    clear R24
    have R29 := Lib.hid (R26.out.far G13.out (by omega))
    clear R26
    have R30 := Lib.hid (R27.out.far G13.out (by omega))
    clear R27
    have B13 : Hid (Below w.heap.size w w13) := B12.out.trans (Mem.below_of_but G13.out (by first | omega | (simp only [World.size_alloc]; omega)) (by first | omega | (simp only [World.size_alloc]; omega)))
    go_wp2_with fail
    refine (markCx_any _ _ _ _ xaB _ (1 + xaA.length) (by first | rfl | omega) (by omega) (by omega) _ R29.out).mono ?_
    rintro e w14 ⟨rfl, hr14, hgb14⟩
    have M14 := Lib.hid hr14
    have G14 := Lib.hid hgb14
    clear hr14 hgb14
    clear R29
    have hz14 := G14.out.size
    try simp only [World.size_alloc] at hz14
    have TaA14 := Lib.hid (TaA13.out.far G14.out (by omega))
    clear TaA13
    clear tbaA13 tcaA13
    obtain ⟨taaA14, tbaA14, tcaA14, _, _⟩ := TaA14.out
    have TaB14 := Lib.hid (TaB13.out.far G14.out (by omega))
    clear TaB13
    clear tbaB13 tcaB13
    obtain ⟨taaB14, tbaB14, tcaB14, _, _⟩ := TaB14.out
    have Tw014 := Lib.hid (Tw013.out.far G14.out (by omega))
    clear Tw013
    clear tbw013 tcw013
    obtain ⟨taw014, tbw014, tcw014, _, _⟩ := Tw014.out
    have Tx014 := Lib.hid (Tx013.out.far G14.out (by omega))
    clear Tx013
    clear tbx013 tcx013
    obtain ⟨tax014, tbx014, tcx014, _, _⟩ := Tx014.out
    have Tx114 := Lib.hid (Tx113.out.far G14.out (by omega))
    clear Tx113
    clear tbx113 tcx113
    obtain ⟨tax114, tbx114, tcx114, _, _⟩ := Tx114.out
    have Tg014 := Lib.hid (Tg013.out.far G14.out (by omega))
    clear Tg013
    clear tbg013 tcg013
    obtain ⟨tag014, tbg014, tcg014, _, _⟩ := Tg014.out
    have R31 := Lib.hid (IntsAt.fars F3_0.out R28.out G14.out (by omega))
    clear R28
    have R32 := Lib.hid (IntsAt.farl F4.out M13.out G14.out (by omega) (by rw [imarks_length]; exact Nat.le_refl _))
    clear M13
    have R33 := Lib.hid (R30.out.far G14.out (by omega))
    clear R30
    have B14 : Hid (Below w.heap.size w w14) := B13.out.trans (Mem.below_of_but G14.out (by first | omega | (simp only [World.size_alloc]; omega)) (by first | omega | (simp only [World.size_alloc]; omega)))
    go_wp2_with fail
    refine (eqCx_any _ _ _ _ _ r0 (by omega) _ R33.out.ints R31.out.ints).mono ?_
    rintro e w15 ⟨rfl, hb15⟩
    have hz15 := hb15.size
    try simp only [World.size_alloc] at hz15
    have TaA15 := Lib.hid (TaA14.out.keeps hb15)
    clear TaA14
    clear tbaA14 tcaA14
    obtain ⟨taaA15, tbaA15, tcaA15, _, _⟩ := TaA15.out
    have TaB15 := Lib.hid (TaB14.out.keeps hb15)
    clear TaB14
    clear tbaB14 tcaB14
    obtain ⟨taaB15, tbaB15, tcaB15, _, _⟩ := TaB15.out
    have Tw015 := Lib.hid (Tw014.out.keeps hb15)
    clear Tw014
    clear tbw014 tcw014
    obtain ⟨taw015, tbw015, tcw015, _, _⟩ := Tw015.out
    have Tx015 := Lib.hid (Tx014.out.keeps hb15)
    clear Tx014
    clear tbx014 tcx014
    obtain ⟨tax015, tbx015, tcx015, _, _⟩ := Tx015.out
    have Tx115 := Lib.hid (Tx114.out.keeps hb15)
    clear Tx114
    clear tbx114 tcx114
    obtain ⟨tax115, tbx115, tcx115, _, _⟩ := Tx115.out
    have Tg015 := Lib.hid (Tg014.out.keeps hb15)
    clear Tg014
    clear tbg014 tcg014
    obtain ⟨tag015, tbg015, tcg015, _, _⟩ := Tg015.out
    have R34 := Lib.hid (R31.out.keeps hb15)
    clear R31
    have R35 := Lib.hid (R32.out.keeps hb15)
    clear R32
    have R36 := Lib.hid (M14.out.keeps hb15)
    clear M14
    have R37 := Lib.hid (R33.out.keeps hb15)
    clear R33
    have B15 : Hid (Below w.heap.size w w15) := B14.out.trans (hb15.mono (by first | omega | (simp only [World.size_alloc]; omega)))
    clear hb15
    go_wp2_with fail
    refine (markCx_any _ _ _ _ r0 _ 1 (by first | rfl | omega) (by omega) (by omega) _ R37.out).mono ?_
    rintro e w16 ⟨rfl, hr16, hgb16⟩
    have M16 := Lib.hid hr16
    have G16 := Lib.hid hgb16
    clear hr16 hgb16
    clear R37
    have hz16 := G16.out.size
    try simp only [World.size_alloc] at hz16
    have TaA16 := Lib.hid (TaA15.out.far G16.out (by omega))
    clear TaA15
    clear tbaA15 tcaA15
    obtain ⟨taaA16, tbaA16, tcaA16, _, _⟩ := TaA16.out
    have TaB16 := Lib.hid (TaB15.out.far G16.out (by omega))
    clear TaB15
    clear tbaB15 tcaB15
    obtain ⟨taaB16, tbaB16, tcaB16, _, _⟩ := TaB16.out
    have Tw016 := Lib.hid (Tw015.out.far G16.out (by omega))
    clear Tw015
    clear tbw015 tcw015
    obtain ⟨taw016, tbw016, tcw016, _, _⟩ := Tw016.out
    have Tx016 := Lib.hid (Tx015.out.far G16.out (by omega))
    clear Tx015
    clear tbx015 tcx015
    obtain ⟨tax016, tbx016, tcx016, _, _⟩ := Tx016.out
    have Tx116 := Lib.hid (Tx115.out.far G16.out (by omega))
    clear Tx115
    clear tbx115 tcx115
    obtain ⟨tax116, tbx116, tcx116, _, _⟩ := Tx116.out
    have Tg016 := Lib.hid (Tg015.out.far G16.out (by omega))
    clear Tg015
    clear tbg015 tcg015
    obtain ⟨tag016, tbg016, tcg016, _, _⟩ := Tg016.out
    have R38 := Lib.hid (IntsAt.fars F3_0.out R34.out G16.out (by omega))
    clear R34
    have R39 := Lib.hid (IntsAt.farl F4.out R35.out G16.out (by omega) (by rw [imarks_length]; exact Nat.le_refl _))
    clear R35
    have R40 := Lib.hid (IntsAt.farl F6.out R36.out G16.out (by omega) (by rw [imarks_length]; exact Nat.le_refl _))
    clear R36
    have B16 : Hid (Below w.heap.size w w16) := B15.out.trans (Mem.below_of_but G16.out (by first | omega | (simp only [World.size_alloc]; omega)) (by first | omega | (simp only [World.size_alloc]; omega)))
    go_wp2_with fail
    refine (heldCx_any _ _ _ _ r0.length _ 1 (by first | rfl | omega) (by omega) (by omega) _ M16.out).mono ?_
    rintro e w17 ⟨rfl, hb17⟩
    have hz17 := hb17.size
    try simp only [World.size_alloc] at hz17
    have TaA17 := Lib.hid (TaA16.out.keeps hb17)
    clear TaA16
    clear tbaA16 tcaA16
    obtain ⟨taaA17, tbaA17, tcaA17, _, _⟩ := TaA17.out
    have TaB17 := Lib.hid (TaB16.out.keeps hb17)
    clear TaB16
    clear tbaB16 tcaB16
    obtain ⟨taaB17, tbaB17, tcaB17, _, _⟩ := TaB17.out
    have Tw017 := Lib.hid (Tw016.out.keeps hb17)
    clear Tw016
    clear tbw016 tcw016
    obtain ⟨taw017, tbw017, tcw017, _, _⟩ := Tw017.out
    have Tx017 := Lib.hid (Tx016.out.keeps hb17)
    clear Tx016
    clear tbx016 tcx016
    obtain ⟨tax017, tbx017, tcx017, _, _⟩ := Tx017.out
    have Tx117 := Lib.hid (Tx116.out.keeps hb17)
    clear Tx116
    clear tbx116 tcx116
    obtain ⟨tax117, tbx117, tcx117, _, _⟩ := Tx117.out
    have Tg017 := Lib.hid (Tg016.out.keeps hb17)
    clear Tg016
    clear tbg016 tcg016
    obtain ⟨tag017, tbg017, tcg017, _, _⟩ := Tg017.out
    have R41 := Lib.hid (R38.out.keeps hb17)
    clear R38
    have R42 := Lib.hid (R39.out.keeps hb17)
    clear R39
    have R43 := Lib.hid (R40.out.keeps hb17)
    clear R40
    have R44 := Lib.hid (M16.out.keeps hb17)
    clear M16
    have B17 : Hid (Below w.heap.size w w17) := B16.out.trans (hb17.mono (by first | omega | (simp only [World.size_alloc]; omega)))
    clear hb17
    have HBC : Hid (Below w17.heap.size w17 (World.drew w17)) := bdrew1 _
    go_upto_region 31 with fail
    go_cut [15, 16] (fun s s' wx => ∃ (bx : Nat) (a : Option Addr) (c g : Nat), s = .pointer (some ⟨bx, 0, none⟩) ∧ s' = .bool r1 ∧ Two wx bx (.int .i64 r0n) (.slice a r0.length c) ∧ IntsAt wx g a r0 ∧ w17.heap.size ≤ bx ∧ w17.heap.size ≤ g ∧ (g < wx.heap.size ∨ wx.heap.size + 4 ≤ g) ∧ Below w17.heap.size w17 wx)
    case first =>
      go_region_held3 (fun w' => w'.cell? ⟨w.heap.size, 0, none⟩ = some (.int .i64 naA) ∧ w'.cell? ⟨w.heap.size, 1, none⟩ = some (.slice paA xaA.length caA) ∧ w'.cell? ⟨w.heap.size + 1, 0, none⟩ = some (.int .i64 naB) ∧ w'.cell? ⟨w.heap.size + 1, 1, none⟩ = some (.slice paB xaB.length caB) ∧ Below w17.heap.size w17 w') (first | (exact ⟨(TaA17.out.keeps HBC.out).2.1, (TaA17.out.keeps HBC.out).2.2.1, (TaB17.out.keeps HBC.out).2.1, (TaB17.out.keeps HBC.out).2.2.1, HBC.out⟩) | (exact ⟨(TaA17.out.keeps (HBC.out.alloc HBC.out.size _)).2.1, (TaA17.out.keeps (HBC.out.alloc HBC.out.size _)).2.2.1, (TaB17.out.keeps (HBC.out.alloc HBC.out.size _)).2.1, (TaB17.out.keeps (HBC.out.alloc HBC.out.size _)).2.2.1, (HBC.out.alloc HBC.out.size _)⟩) | (exact ⟨(TaA17.out.keeps (((Below.refl _ _).alloc (Nat.le_refl _) _).drew)).2.1, (TaA17.out.keeps (((Below.refl _ _).alloc (Nat.le_refl _) _).drew)).2.2.1, (TaB17.out.keeps (((Below.refl _ _).alloc (Nat.le_refl _) _).drew)).2.1, (TaB17.out.keeps (((Below.refl _ _).alloc (Nat.le_refl _) _).drew)).2.2.1, (((Below.refl _ _).alloc (Nat.le_refl _) _).drew)⟩) | (exact ⟨(TaA17.out.keeps ((HBC.out.setCell HBX18.out _).setCell HBX18.out _)).2.1, (TaA17.out.keeps ((HBC.out.setCell HBX18.out _).setCell HBX18.out _)).2.2.1, (TaB17.out.keeps ((HBC.out.setCell HBX18.out _).setCell HBX18.out _)).2.1, (TaB17.out.keeps ((HBC.out.setCell HBX18.out _).setCell HBX18.out _)).2.2.1, ((HBC.out.setCell HBX18.out _).setCell HBX18.out _)⟩) | fail "arm") (first | (go_at_call 35; with_reducible refine (toCx_any naA _ _ xaA hsaA _ (HaA.out.keeps (B17.out.trans ((show Below w17.heap.size w17 (World.drew (World.alloc w17 (Obj.cells #[Value.int IntKind.i64 0, Value.slice none 0 0] 26))) from (((Below.refl _ _).alloc (Nat.le_refl _) (Obj.cells #[Value.int IntKind.i64 0, Value.slice none 0 0] 26)).drew)).mono B17.out.size)))).mono ?_; rintro e wA18 ⟨gA18, rfl, hgeA18, hltA18, hrA18, hbA18⟩; have TZ18 := Lib.hid ((Two.new w17 (.int .i64 0) (.slice none 0 0) 26).drew.keeps hbA18); have z1 := Two.z1 (Hid.out TZ18); have z2 := Two.z2 (Hid.out TZ18); have z3 := Two.z3 (Hid.out TZ18); have z4 := Two.z4 (Hid.out TZ18); have HBX18 := Lib.hid (Nat.le_refl (World.heap w17).size); have HBC := Lib.hid ((show Below w17.heap.size w17 (World.drew (World.alloc w17 (Obj.cells #[Value.int IntKind.i64 0, Value.slice none 0 0] 26))) from (((Below.refl _ _).alloc (Nat.le_refl _) (Obj.cells #[Value.int IntKind.i64 0, Value.slice none 0 0] 26)).drew)).trans (hbA18.mono (show Below w17.heap.size w17 (World.drew (World.alloc w17 (Obj.cells #[Value.int IntKind.i64 0, Value.slice none 0 0] 26))) from (((Below.refl _ _).alloc (Nat.le_refl _) (Obj.cells #[Value.int IntKind.i64 0, Value.slice none 0 0] 26)).drew)).size))) | (go_at_call 35; with_reducible refine (toCx_any naA _ _ xaA hsaA _ (HaA.out.keeps (B17.out.trans (HBC.out.mono B17.out.size)))).mono ?_; rintro e wA18 ⟨gA18, rfl, hgeA18, hltA18, hrA18, hbA18⟩; have HBC := Lib.hid (HBC.out.trans (hbA18.mono HBC.out.size))) | (go_at_call 35; with_reducible refine (toCx_any naB _ _ xaB hsaB _ (HaB.out.keeps (B17.out.trans ((HBC.out.alloc HBC.out.size (Obj.cells #[Value.int IntKind.i64 0, Value.slice none 0 0] 26)).mono B17.out.size)))).mono ?_; rintro e wB18 ⟨gB18, rfl, hgeB18, hltB18, hrB18, hbB18⟩; have TZ18 := Lib.hid ((Two.new wA18 (.int .i64 0) (.slice none 0 0) 26).keeps hbB18); have z1 := Two.z1 (Hid.out TZ18); have z2 := Two.z2 (Hid.out TZ18); have z3 := Two.z3 (Hid.out TZ18); have z4 := Two.z4 (Hid.out TZ18); have HBX18 := Lib.hid HBC.out.size; have HRA18 := Lib.hid ((hrA18.keeps ((Below.refl _ _).alloc (Nat.le_refl _) (Obj.cells #[Value.int IntKind.i64 0, Value.slice none 0 0] 26))).keeps hbB18); have HBC := Lib.hid ((HBC.out.alloc HBC.out.size (Obj.cells #[Value.int IntKind.i64 0, Value.slice none 0 0] 26)).trans (hbB18.mono (HBC.out.alloc HBC.out.size (Obj.cells #[Value.int IntKind.i64 0, Value.slice none 0 0] 26)).size))) | (go_at_call 35; with_reducible refine (toCx_any naB _ _ xaB hsaB _ (HaB.out.keeps (B17.out.trans (HBC.out.mono B17.out.size)))).mono ?_; rintro e wB18 ⟨gB18, rfl, hgeB18, hltB18, hrB18, hbB18⟩; have TZ18 := Lib.hid (TZ18.out.keeps hbB18); have z1 := Two.z1 (Hid.out TZ18); have z2 := Two.z2 (Hid.out TZ18); have z3 := Two.z3 (Hid.out TZ18); have z4 := Two.z4 (Hid.out TZ18); have HRA18 := Lib.hid (hrA18.keeps hbB18); have HBC := Lib.hid (HBC.out.trans (hbB18.mono HBC.out.size))) | (go_at_call 35; with_reducible refine (toCx_any naB _ _ xaB hsaB _ (HaB.out.keeps (B17.out.trans (HBC.out.mono B17.out.size)))).mono ?_; rintro e wB18 ⟨gB18, rfl, hgeB18, hltB18, hrB18, hbB18⟩; have HRA18 := Lib.hid (hrA18.keeps hbB18); have HBC := Lib.hid (HBC.out.trans (hbB18.mono HBC.out.size))) | (go_at_call 15; refine (HI.out _ _ _ _ _ hsaA hsaB  (Nat.le_refl _) (HRA18.out.keeps ((Below.refl _ _).alloc (Nat.le_refl _) (Obj.cells #[Value.int IntKind.i64 0, Value.slice none 0 0] 26))).ints (Nat.le_refl _) (hrB18.keeps ((Below.refl _ _).alloc (Nat.le_refl _) (Obj.cells #[Value.int IntKind.i64 0, Value.slice none 0 0] 26))).ints).mono ?_; rintro e w18 ⟨v18_0, rfl, hO18_0, hbZ18⟩; obtain ⟨a18_0, c18_0, g18_0, rfl, _, hg18_0, hr18_0, hd18_0⟩ := HasInts.ata hO18_0 hbZ18.size; have HLT18 := Lib.hid (Nat.lt_of_lt_of_le (Two.new wB18 (.int .i64 0) (.slice none 0 0) 26).1 hg18_0); have HG18 : Hid (w17.heap.size ≤ g18_0) := Nat.le_trans (HBC.out.alloc HBC.out.size (Obj.cells #[Value.int IntKind.i64 0, Value.slice none 0 0] 26)).size hg18_0; have TZ18 := Lib.hid ((Two.new wB18 (.int .i64 0) (.slice none 0 0) 26).keeps hbZ18); have z1 := Two.z1 (Hid.out TZ18); have z2 := Two.z2 (Hid.out TZ18); have z3 := Two.z3 (Hid.out TZ18); have z4 := Two.z4 (Hid.out TZ18); have HBX18 := Lib.hid HBC.out.size; have HBC := Lib.hid ((HBC.out.alloc HBC.out.size (Obj.cells #[Value.int IntKind.i64 0, Value.slice none 0 0] 26)).trans (hbZ18.mono (HBC.out.alloc HBC.out.size (Obj.cells #[Value.int IntKind.i64 0, Value.slice none 0 0] 26)).size))) | (go_at_call 15; refine (HI.out _ _ _ _ _ hsaA hsaB  (Nat.le_refl _) HRA18.out.ints (Nat.le_refl _) hrB18.ints).mono ?_; rintro e w18 ⟨v18_0, rfl, hO18_0, hbZ18⟩; obtain ⟨a18_0, c18_0, g18_0, rfl, _, hg18_0, hr18_0, hd18_0⟩ := HasInts.ata hO18_0 hbZ18.size; have HLT18 := Lib.hid (Nat.lt_of_lt_of_le TZ18.out.1 hg18_0); have HG18 : Hid (w17.heap.size ≤ g18_0) := Nat.le_trans HBC.out.size hg18_0; have TZ18 := Lib.hid (TZ18.out.keeps hbZ18); have z1 := Two.z1 (Hid.out TZ18); have z2 := Two.z2 (Hid.out TZ18); have z3 := Two.z3 (Hid.out TZ18); have z4 := Two.z4 (Hid.out TZ18); have HBC := Lib.hid (HBC.out.trans (hbZ18.mono HBC.out.size))) | (go_at_call 15; refine (HI.out _ _ _ _ _ hsaA hsaB  (Nat.le_refl _) HRA18.out.ints (Nat.le_refl _) hrB18.ints).mono ?_; rintro e w18 ⟨v18_0, rfl, hO18_0, hbZ18⟩; obtain ⟨a18_0, c18_0, g18_0, rfl, _, hg18_0, hr18_0, hd18_0⟩ := HasInts.ata hO18_0 hbZ18.size; have HG18 : Hid (w17.heap.size ≤ g18_0) := Nat.le_trans HBC.out.size hg18_0; have HBC := Lib.hid (HBC.out.trans (hbZ18.mono HBC.out.size))) | fail "arm")
      all_goals
        go_wp2_with fail
        go_meet
        first | (exact ⟨_, _, _, g18_0, rfl, rfl, Two.new _ _ _ _, hr18_0.keeps ((Below.refl _ _).alloc (Nat.le_refl _) _), HBC.out.size, HG18.out, (by rw [World.size_alloc]; omega), HBC.out.alloc HBC.out.size _⟩) | (exact ⟨_, _, _, g18_0, rfl, rfl, TZ18.out.fill _ _, IntsAt.fill hr18_0 (Nat.ne_of_gt HLT18.out) _ _, HBX18.out, HG18.out, (by rw [size_fill]; omega), (HBC.out.setCell HBX18.out _).setCell HBX18.out _⟩) | fail "meet"
    case rest =>
      obtain ⟨w18, rfl⟩ : ∃ z : World, z = wc := ⟨_, rfl⟩
      obtain ⟨bx18, a18_0, c18_0, g18_0, rfl, rfl, hT18, hF18, hbx18, hg18_0, hd18_0, hb18⟩ := hcut
      clear HBC
      have F18_0 := Lib.hid hF18
      have HT18 := Lib.hid hT18
      clear hF18 hT18
      have hz18 := hb18.size
      try simp only [World.size_alloc] at hz18
      have TaA18 := Lib.hid (TaA17.out.keeps hb18)
      clear TaA17
      clear tbaA17 tcaA17
      obtain ⟨taaA18, tbaA18, tcaA18, _, _⟩ := TaA18.out
      have TaB18 := Lib.hid (TaB17.out.keeps hb18)
      clear TaB17
      clear tbaB17 tcaB17
      obtain ⟨taaB18, tbaB18, tcaB18, _, _⟩ := TaB18.out
      have Tw018 := Lib.hid (Tw017.out.keeps hb18)
      clear Tw017
      clear tbw017 tcw017
      obtain ⟨taw018, tbw018, tcw018, _, _⟩ := Tw018.out
      have Tx018 := Lib.hid (Tx017.out.keeps hb18)
      clear Tx017
      clear tbx017 tcx017
      obtain ⟨tax018, tbx018, tcx018, _, _⟩ := Tx018.out
      have Tx118 := Lib.hid (Tx117.out.keeps hb18)
      clear Tx117
      clear tbx117 tcx117
      obtain ⟨tax118, tbx118, tcx118, _, _⟩ := Tx118.out
      have Tg018 := Lib.hid (Tg017.out.keeps hb18)
      clear Tg017
      clear tbg017 tcg017
      obtain ⟨tag018, tbg018, tcg018, _, _⟩ := Tg018.out
      have R45 := Lib.hid (R41.out.keeps hb18)
      clear R41
      have R46 := Lib.hid (R42.out.keeps hb18)
      clear R42
      have R47 := Lib.hid (R43.out.keeps hb18)
      clear R43
      have R48 := Lib.hid (R44.out.keeps hb18)
      clear R44
      have B18 : Hid (Below w.heap.size w w18) := B17.out.trans (hb18.mono (by first | omega | (simp only [World.size_alloc]; omega)))
      clear hb18
      have Th018 := HT18
      obtain ⟨tah018, tbh018, tch018, _, _⟩ := Th018.out
      go_wp2_with fail
      refine (eqCx_any _ _ _ _ _ r0 (by omega) _ F18_0.out.ints R45.out.ints).mono ?_
      rintro e w19 ⟨rfl, hb19⟩
      have hz19 := hb19.size
      try simp only [World.size_alloc] at hz19
      have TaA19 := Lib.hid (TaA18.out.keeps hb19)
      clear TaA18
      clear tbaA18 tcaA18
      obtain ⟨taaA19, tbaA19, tcaA19, _, _⟩ := TaA19.out
      have TaB19 := Lib.hid (TaB18.out.keeps hb19)
      clear TaB18
      clear tbaB18 tcaB18
      obtain ⟨taaB19, tbaB19, tcaB19, _, _⟩ := TaB19.out
      have Tw019 := Lib.hid (Tw018.out.keeps hb19)
      clear Tw018
      clear tbw018 tcw018
      obtain ⟨taw019, tbw019, tcw019, _, _⟩ := Tw019.out
      have Tx019 := Lib.hid (Tx018.out.keeps hb19)
      clear Tx018
      clear tbx018 tcx018
      obtain ⟨tax019, tbx019, tcx019, _, _⟩ := Tx019.out
      have Tx119 := Lib.hid (Tx118.out.keeps hb19)
      clear Tx118
      clear tbx118 tcx118
      obtain ⟨tax119, tbx119, tcx119, _, _⟩ := Tx119.out
      have Tg019 := Lib.hid (Tg018.out.keeps hb19)
      clear Tg018
      clear tbg018 tcg018
      obtain ⟨tag019, tbg019, tcg019, _, _⟩ := Tg019.out
      have Th019 := Lib.hid (Th018.out.keeps hb19)
      clear Th018
      clear tbh018 tch018
      obtain ⟨tah019, tbh019, tch019, _, _⟩ := Th019.out
      have R49 := Lib.hid (R45.out.keeps hb19)
      clear R45
      have R50 := Lib.hid (R46.out.keeps hb19)
      clear R46
      have R51 := Lib.hid (R47.out.keeps hb19)
      clear R47
      have R52 := Lib.hid (R48.out.keeps hb19)
      clear R48
      have R53 := Lib.hid (F18_0.out.keeps hb19)
      have B19 : Hid (Below w.heap.size w w19) := B18.out.trans (hb19.mono (by first | omega | (simp only [World.size_alloc]; omega)))
      clear hb19
      go_wp2_with fail
      refine (heldCx_any _ _ _ _ r0.length _ 1 (by first | rfl | omega) (by omega) (by omega) _ R52.out).mono ?_
      rintro e w20 ⟨rfl, hb20⟩
      have hz20 := hb20.size
      try simp only [World.size_alloc] at hz20
      have TaA20 := Lib.hid (TaA19.out.keeps hb20)
      clear TaA19
      clear tbaA19 tcaA19
      obtain ⟨taaA20, tbaA20, tcaA20, _, _⟩ := TaA20.out
      have TaB20 := Lib.hid (TaB19.out.keeps hb20)
      clear TaB19
      clear tbaB19 tcaB19
      obtain ⟨taaB20, tbaB20, tcaB20, _, _⟩ := TaB20.out
      have Tw020 := Lib.hid (Tw019.out.keeps hb20)
      clear Tw019
      clear tbw019 tcw019
      obtain ⟨taw020, tbw020, tcw020, _, _⟩ := Tw020.out
      have Tx020 := Lib.hid (Tx019.out.keeps hb20)
      clear Tx019
      clear tbx019 tcx019
      obtain ⟨tax020, tbx020, tcx020, _, _⟩ := Tx020.out
      have Tx120 := Lib.hid (Tx119.out.keeps hb20)
      clear Tx119
      clear tbx119 tcx119
      obtain ⟨tax120, tbx120, tcx120, _, _⟩ := Tx120.out
      have Tg020 := Lib.hid (Tg019.out.keeps hb20)
      clear Tg019
      clear tbg019 tcg019
      obtain ⟨tag020, tbg020, tcg020, _, _⟩ := Tg020.out
      have Th020 := Lib.hid (Th019.out.keeps hb20)
      clear Th019
      clear tbh019 tch019
      obtain ⟨tah020, tbh020, tch020, _, _⟩ := Th020.out
      have R54 := Lib.hid (R49.out.keeps hb20)
      clear R49
      have R55 := Lib.hid (R50.out.keeps hb20)
      clear R50
      have R56 := Lib.hid (R51.out.keeps hb20)
      clear R51
      have R57 := Lib.hid (R52.out.keeps hb20)
      clear R52
      have R58 := Lib.hid (R53.out.keeps hb20)
      clear R53
      have B20 : Hid (Below w.heap.size w w20) := B19.out.trans (hb20.mono (by first | omega | (simp only [World.size_alloc]; omega)))
      clear hb20
      go_wp2
      go_ret
      exact ⟨rfl, B20.out⟩

end Go.Proofs.Ythobncbggaggjaa
