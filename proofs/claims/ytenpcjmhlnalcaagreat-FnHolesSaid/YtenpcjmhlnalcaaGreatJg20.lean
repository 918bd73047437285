/-
  TEXTS of one claim, put together: WCx7, WDrawCx3, WDrawCx4, WDrawCx5.
-/
import Derived.Test.YtenpcjmhlnalcaaGreatJg11
import Derived.Test.YtenpcjmhlnalcaaGreatWDrawCx2
import Derived.Test.YtenpcjmhlnalcaaGreatJg19
import Derived.Deep.RegionLaw
import Derived.Deep.AppendLies
/-! WALKS: the full complex and its border, by impl and by spec. -/

namespace Go.Proofs.YtenpcjmhlnalcaaGreat
open Go.RowKit
open Sets

/-- FullComplex. -/
def full (n : Int) : Option (Int × List Int) := if inB 1 6 n = true then some (n, [2 ^ n.toNat - 1]) else none
/-- BorderComplex. -/
def border (n : Int) : Option (Int × List Int) := if inB 1 6 n = true then some (n, maximal (firsts (fun _ => true) (2 ^ n.toNat - 1))) else none
theorem full_no {n : Int} (h : inB 1 6 n = false) : full n = none := by unfold full; rw [if_neg (by rw [h]; simp)]
theorem border_no {n : Int} (h : inB 1 6 n = false) : border n = none := by unfold border; rw [if_neg (by rw [h]; simp)]
theorem six (n : Int) (h : inB 1 6 n = true) : n = 1 ∨ n = 2 ∨ n = 3 ∨ n = 4 ∨ n = 5 ∨ n = 6 := by
  have := (inB_iff _ _ _).1 h
  omega

theorem Ints.one (w : World) (x : Int) : Ints (w.alloc (Obj.cells #[Value.int IntKind.i64 x] 3)) (some ⟨w.heap.size, 0, none⟩) [x] := fun j hj => by
  obtain rfl : j = 0 := by simp at hj; omega
  exact ⟨_, _, rfl, by simp⟩

theorem full_1 : full 1 = some (1, [1]) := by decide +kernel
theorem made_full_1 : made 1 [1] = some (1, [1]) := by decide +kernel
theorem faces_full_1 : (faces 1 [1]).length = 2 := by decide +kernel
theorem made_border_1 : made 1 ((faces 1 [1]).take 1) = some (1, maximal (firsts (fun _ => true) 1)) := by decide +kernel
theorem border_1 : border 1 = some (1, maximal (firsts (fun _ => true) 1)) := by decide +kernel
theorem border_ok_1 : allOk (firsts (fun _ => true) 1) = true := by decide +kernel

set_option maxRecDepth 100000 in
set_option maxHeartbeats 2000000 in
theorem specBorder_1 (w : World) : Calls Tryz.prog 78 #[.int .i64 1] w fun e w' =>
      ∃ v, e = .returned (.tuple #[cx 1 v, .bool true]) ∧ OwnInts w' w.heap.size v (maximal (firsts (fun _ => true) 1)) ∧ Below w.heap.size w w' := by
  obtain ⟨i0, hi, hz0, hz1, hz2⟩ := info_parts info_int
  have htwo : Two (w.alloc (Obj.cells #[Value.int IntKind.i64 0, Value.slice none 0 0] 26)) w.heap.size (.int .i64 0) (.slice none 0 0) := Two.new _ _ _ _
  have hb0 : Below w.heap.size w (w.alloc (Obj.cells #[Value.int IntKind.i64 0, Value.slice none 0 0] 26)) := (Below.refl _ _).alloc (Nat.le_refl _) _
  have HT := Lib.hid htwo
  have HB0 := Lib.hid hb0
  clear htwo hb0
  go_enter Tryz.func78, Tryz.ntmps78
  go_wp2_with fail
  refine (in_b 1 1 6 true (by decide) _).mono ?_
  rintro e w' ⟨rfl, rfl⟩
  have HO0 := Lib.hid (OwnInts.lit (w.alloc (Obj.cells #[Value.int IntKind.i64 0, Value.slice none 0 0] 26)) (w.heap.size + 1) [] (by simp) (by simp))
  have hszW : (w.alloc (Obj.cells #[Value.int IntKind.i64 0, Value.slice none 0 0] 26)).heap.size = w.heap.size + 1 := by simp
  go_wp2
  generalize (w.alloc (Obj.cells #[Value.int IntKind.i64 0, Value.slice none 0 0] 26)) = W at *
  have HSZ := Lib.hid hszW
  clear hszW
  go_loopw [4, 5] (fun v i wr => ∃ k : Nat, k ≤ 1 ∧ i = .int .i64 (k : Int) ∧ OwnInts wr W.heap.size v (firsts (fun _ => true) k) ∧ Below W.heap.size W wr) (fun _ i _ => 1 - (intOf i).toNat)
  case atStart => exact ⟨0, by omega, rfl, by have h := HO0.out; rw [HSZ.out] at h ⊢; exact h, (Below.refl _ _).alloc (Nat.le_refl _) _⟩
  case round =>
    obtain ⟨k, hk, rfl, hO, hB⟩ := hrel
    have hsz := hB.size
    have hl := firsts_length (fun _ => true) k
    by_cases hlt : k < 1
    · unfold OwnInts at hO
      have HO := Lib.hid hO
      clear hO
      go_wp2_with (at_builtin; refine wpList_append_own _ rfl _ _ 24 rfl W.heap.size 3 i0 (.int .i64 0) 1 8 Tryz.underlying24 hi hz0 hz1 hz2 rfl (by decide) _ _ _ rfl (HO.out.alloc _) ⟨wr.heap.size, 0, none⟩ 1 1 [.int .i64 (k : Int)] rfl rfl ?c1 ?c2 ?c3 ?c4 ?c5 ?_)
      case c1 => intro j u hj; exact Mem.cell_new wr _ _ j u hj
      case c2 => intro u hu; simp at hu; subst hu; rfl
      case c3 => unfold maxLen; omega
      case c4 => omega
      case c5 => simp; omega
      intro v' w1 hown1 hgrow _
      have hB1 : Below W.heap.size W w1 := (hB.alloc hsz _).grown hgrow (by simp; omega) (fun g hg => (HO.out.lt g hg).1)
      have H1 := Lib.hid hown1
      clear hown1 hgrow
      go_wp2
      go_roundw
      case rel => exact ⟨k + 1, by omega, by go_num, by rw [firsts_hit _ k rfl]; exact OwnInts.next H1.out, hB1⟩
      case measure => simp [intOf]; omega
    · have E := Lib.hid (show k = 1 by omega)
      rw [E.out] at hO hl
      obtain ⟨a1, c1, g1, rfl, hg1, hr1⟩ := hO.at
      have R1 := Lib.hid hr1
      have HT1 := Lib.hid (HT.out.keeps hB)
      have hsz1 := HT1.out.1
      have HB1 : Hid (Below w.heap.size w wr) := HB0.out.trans (hB.mono (by have := HSZ.out; omega))
      clear hO hr1 hB
      go_wp2_with fail
      refine (l3Make_any 1 _ _ (firsts (fun _ => true) 1) border_ok_1 (by omega) _ R1.out.ints).mono ?_
      rintro e w4 ⟨v, rfl, hO, hb4⟩
      obtain ⟨a4, c4, g4, rfl, _⟩ := hO.atc
      have HO := Lib.hid hO
      obtain ⟨t0, t1, t2, t3, t4⟩ := HT1.out.keeps hb4
      have HB4 : Hid (Below w.heap.size w w4) := HB1.out.trans (hb4.mono (by omega))
      clear hb4 hO
      go_wp2
      refine ret_cx2 w.heap.size rfl rfl rfl (x := .int .i64 1) (y := .slice a4 (maximal (firsts (fun _ => true) 1)).length c4) (by go_simp) (by go_simp) rfl ?_
      exact ⟨_, rfl, (OwnInts.set (OwnInts.set HO.out _ _ _ (by omega)) _ _ _ (by omega)).lower (by omega), (HB4.out.setCell (by simp) _).setCell (by simp) _⟩

theorem full_2 : full 2 = some (2, [3]) := by decide +kernel
theorem made_full_2 : made 2 [3] = some (2, [3]) := by decide +kernel
theorem faces_full_2 : (faces 2 [3]).length = 4 := by decide +kernel
theorem made_border_2 : made 2 ((faces 2 [3]).take 3) = some (2, maximal (firsts (fun _ => true) 3)) := by decide +kernel
theorem border_2 : border 2 = some (2, maximal (firsts (fun _ => true) 3)) := by decide +kernel
theorem border_ok_2 : allOk (firsts (fun _ => true) 3) = true := by decide +kernel

set_option maxRecDepth 100000 in
set_option maxHeartbeats 2000000 in
theorem specBorder_2 (w : World) : Calls Tryz.prog 78 #[.int .i64 2] w fun e w' =>
      ∃ v, e = .returned (.tuple #[cx 2 v, .bool true]) ∧ OwnInts w' w.heap.size v (maximal (firsts (fun _ => true) 3)) ∧ Below w.heap.size w w' := by
  obtain ⟨i0, hi, hz0, hz1, hz2⟩ := info_parts info_int
  have htwo : Two (w.alloc (Obj.cells #[Value.int IntKind.i64 0, Value.slice none 0 0] 26)) w.heap.size (.int .i64 0) (.slice none 0 0) := Two.new _ _ _ _
  have hb0 : Below w.heap.size w (w.alloc (Obj.cells #[Value.int IntKind.i64 0, Value.slice none 0 0] 26)) := (Below.refl _ _).alloc (Nat.le_refl _) _
  have HT := Lib.hid htwo
  have HB0 := Lib.hid hb0
  clear htwo hb0
  go_enter Tryz.func78, Tryz.ntmps78
  go_wp2_with fail
  refine (in_b 2 1 6 true (by decide) _).mono ?_
  rintro e w' ⟨rfl, rfl⟩
  have HO0 := Lib.hid (OwnInts.lit (w.alloc (Obj.cells #[Value.int IntKind.i64 0, Value.slice none 0 0] 26)) (w.heap.size + 1) [] (by simp) (by simp))
  have hszW : (w.alloc (Obj.cells #[Value.int IntKind.i64 0, Value.slice none 0 0] 26)).heap.size = w.heap.size + 1 := by simp
  go_wp2
  generalize (w.alloc (Obj.cells #[Value.int IntKind.i64 0, Value.slice none 0 0] 26)) = W at *
  have HSZ := Lib.hid hszW
  clear hszW
  go_loopw [4, 5] (fun v i wr => ∃ k : Nat, k ≤ 3 ∧ i = .int .i64 (k : Int) ∧ OwnInts wr W.heap.size v (firsts (fun _ => true) k) ∧ Below W.heap.size W wr) (fun _ i _ => 3 - (intOf i).toNat)
  case atStart => exact ⟨0, by omega, rfl, by have h := HO0.out; rw [HSZ.out] at h ⊢; exact h, (Below.refl _ _).alloc (Nat.le_refl _) _⟩
  case round =>
    obtain ⟨k, hk, rfl, hO, hB⟩ := hrel
    have hsz := hB.size
    have hl := firsts_length (fun _ => true) k
    by_cases hlt : k < 3
    · unfold OwnInts at hO
      have HO := Lib.hid hO
      clear hO
      go_wp2_with (at_builtin; refine wpList_append_own _ rfl _ _ 24 rfl W.heap.size 3 i0 (.int .i64 0) 1 8 Tryz.underlying24 hi hz0 hz1 hz2 rfl (by decide) _ _ _ rfl (HO.out.alloc _) ⟨wr.heap.size, 0, none⟩ 1 1 [.int .i64 (k : Int)] rfl rfl ?c1 ?c2 ?c3 ?c4 ?c5 ?_)
      case c1 => intro j u hj; exact Mem.cell_new wr _ _ j u hj
      case c2 => intro u hu; simp at hu; subst hu; rfl
      case c3 => unfold maxLen; omega
      case c4 => omega
      case c5 => simp; omega
      intro v' w1 hown1 hgrow _
      have hB1 : Below W.heap.size W w1 := (hB.alloc hsz _).grown hgrow (by simp; omega) (fun g hg => (HO.out.lt g hg).1)
      have H1 := Lib.hid hown1
      clear hown1 hgrow
      go_wp2
      go_roundw
      case rel => exact ⟨k + 1, by omega, by go_num, by rw [firsts_hit _ k rfl]; exact OwnInts.next H1.out, hB1⟩
      case measure => simp [intOf]; omega
    · have E := Lib.hid (show k = 3 by omega)
      rw [E.out] at hO hl
      obtain ⟨a1, c1, g1, rfl, hg1, hr1⟩ := hO.at
      have R1 := Lib.hid hr1
      have HT1 := Lib.hid (HT.out.keeps hB)
      have hsz1 := HT1.out.1
      have HB1 : Hid (Below w.heap.size w wr) := HB0.out.trans (hB.mono (by have := HSZ.out; omega))
      clear hO hr1 hB
      go_wp2_with fail
      refine (l3Make_any 2 _ _ (firsts (fun _ => true) 3) border_ok_2 (by omega) _ R1.out.ints).mono ?_
      rintro e w4 ⟨v, rfl, hO, hb4⟩
      obtain ⟨a4, c4, g4, rfl, _⟩ := hO.atc
      have HO := Lib.hid hO
      obtain ⟨t0, t1, t2, t3, t4⟩ := HT1.out.keeps hb4
      have HB4 : Hid (Below w.heap.size w w4) := HB1.out.trans (hb4.mono (by omega))
      clear hb4 hO
      go_wp2
      refine ret_cx2 w.heap.size rfl rfl rfl (x := .int .i64 2) (y := .slice a4 (maximal (firsts (fun _ => true) 3)).length c4) (by go_simp) (by go_simp) rfl ?_
      exact ⟨_, rfl, (OwnInts.set (OwnInts.set HO.out _ _ _ (by omega)) _ _ _ (by omega)).lower (by omega), (HB4.out.setCell (by simp) _).setCell (by simp) _⟩

theorem full_3 : full 3 = some (3, [7]) := by decide +kernel
theorem made_full_3 : made 3 [7] = some (3, [7]) := by decide +kernel
theorem faces_full_3 : (faces 3 [7]).length = 8 := by decide +kernel
theorem made_border_3 : made 3 ((faces 3 [7]).take 7) = some (3, maximal (firsts (fun _ => true) 7)) := by decide +kernel
theorem border_3 : border 3 = some (3, maximal (firsts (fun _ => true) 7)) := by decide +kernel
theorem border_ok_3 : allOk (firsts (fun _ => true) 7) = true := by decide +kernel

set_option maxRecDepth 100000 in
set_option maxHeartbeats 2000000 in
theorem specBorder_3 (w : World) : Calls Tryz.prog 78 #[.int .i64 3] w fun e w' =>
      ∃ v, e = .returned (.tuple #[cx 3 v, .bool true]) ∧ OwnInts w' w.heap.size v (maximal (firsts (fun _ => true) 7)) ∧ Below w.heap.size w w' := by
  obtain ⟨i0, hi, hz0, hz1, hz2⟩ := info_parts info_int
  have htwo : Two (w.alloc (Obj.cells #[Value.int IntKind.i64 0, Value.slice none 0 0] 26)) w.heap.size (.int .i64 0) (.slice none 0 0) := Two.new _ _ _ _
  have hb0 : Below w.heap.size w (w.alloc (Obj.cells #[Value.int IntKind.i64 0, Value.slice none 0 0] 26)) := (Below.refl _ _).alloc (Nat.le_refl _) _
  have HT := Lib.hid htwo
  have HB0 := Lib.hid hb0
  clear htwo hb0
  go_enter Tryz.func78, Tryz.ntmps78
  go_wp2_with fail
  refine (in_b 3 1 6 true (by decide) _).mono ?_
  rintro e w' ⟨rfl, rfl⟩
  have HO0 := Lib.hid (OwnInts.lit (w.alloc (Obj.cells #[Value.int IntKind.i64 0, Value.slice none 0 0] 26)) (w.heap.size + 1) [] (by simp) (by simp))
  have hszW : (w.alloc (Obj.cells #[Value.int IntKind.i64 0, Value.slice none 0 0] 26)).heap.size = w.heap.size + 1 := by simp
  go_wp2
  generalize (w.alloc (Obj.cells #[Value.int IntKind.i64 0, Value.slice none 0 0] 26)) = W at *
  have HSZ := Lib.hid hszW
  clear hszW
  go_loopw [4, 5] (fun v i wr => ∃ k : Nat, k ≤ 7 ∧ i = .int .i64 (k : Int) ∧ OwnInts wr W.heap.size v (firsts (fun _ => true) k) ∧ Below W.heap.size W wr) (fun _ i _ => 7 - (intOf i).toNat)
  case atStart => exact ⟨0, by omega, rfl, by have h := HO0.out; rw [HSZ.out] at h ⊢; exact h, (Below.refl _ _).alloc (Nat.le_refl _) _⟩
  case round =>
    obtain ⟨k, hk, rfl, hO, hB⟩ := hrel
    have hsz := hB.size
    have hl := firsts_length (fun _ => true) k
    by_cases hlt : k < 7
    · unfold OwnInts at hO
      have HO := Lib.hid hO
      clear hO
      go_wp2_with (at_builtin; refine wpList_append_own _ rfl _ _ 24 rfl W.heap.size 3 i0 (.int .i64 0) 1 8 Tryz.underlying24 hi hz0 hz1 hz2 rfl (by decide) _ _ _ rfl (HO.out.alloc _) ⟨wr.heap.size, 0, none⟩ 1 1 [.int .i64 (k : Int)] rfl rfl ?c1 ?c2 ?c3 ?c4 ?c5 ?_)
      case c1 => intro j u hj; exact Mem.cell_new wr _ _ j u hj
      case c2 => intro u hu; simp at hu; subst hu; rfl
      case c3 => unfold maxLen; omega
      case c4 => omega
      case c5 => simp; omega
      intro v' w1 hown1 hgrow _
      have hB1 : Below W.heap.size W w1 := (hB.alloc hsz _).grown hgrow (by simp; omega) (fun g hg => (HO.out.lt g hg).1)
      have H1 := Lib.hid hown1
      clear hown1 hgrow
      go_wp2
      go_roundw
      case rel => exact ⟨k + 1, by omega, by go_num, by rw [firsts_hit _ k rfl]; exact OwnInts.next H1.out, hB1⟩
      case measure => simp [intOf]; omega
    · have E := Lib.hid (show k = 7 by omega)
      rw [E.out] at hO hl
      obtain ⟨a1, c1, g1, rfl, hg1, hr1⟩ := hO.at
      have R1 := Lib.hid hr1
      have HT1 := Lib.hid (HT.out.keeps hB)
      have hsz1 := HT1.out.1
      have HB1 : Hid (Below w.heap.size w wr) := HB0.out.trans (hB.mono (by have := HSZ.out; omega))
      clear hO hr1 hB
      go_wp2_with fail
      refine (l3Make_any 3 _ _ (firsts (fun _ => true) 7) border_ok_3 (by omega) _ R1.out.ints).mono ?_
      rintro e w4 ⟨v, rfl, hO, hb4⟩
      obtain ⟨a4, c4, g4, rfl, _⟩ := hO.atc
      have HO := Lib.hid hO
      obtain ⟨t0, t1, t2, t3, t4⟩ := HT1.out.keeps hb4
      have HB4 : Hid (Below w.heap.size w w4) := HB1.out.trans (hb4.mono (by omega))
      clear hb4 hO
      go_wp2
      refine ret_cx2 w.heap.size rfl rfl rfl (x := .int .i64 3) (y := .slice a4 (maximal (firsts (fun _ => true) 7)).length c4) (by go_simp) (by go_simp) rfl ?_
      exact ⟨_, rfl, (OwnInts.set (OwnInts.set HO.out _ _ _ (by omega)) _ _ _ (by omega)).lower (by omega), (HB4.out.setCell (by simp) _).setCell (by simp) _⟩

theorem full_4 : full 4 = some (4, [15]) := by decide +kernel
theorem made_full_4 : made 4 [15] = some (4, [15]) := by decide +kernel
theorem faces_full_4 : (faces 4 [15]).length = 16 := by decide +kernel
theorem made_border_4 : made 4 ((faces 4 [15]).take 15) = some (4, maximal (firsts (fun _ => true) 15)) := by decide +kernel
theorem border_4 : border 4 = some (4, maximal (firsts (fun _ => true) 15)) := by decide +kernel
theorem border_ok_4 : allOk (firsts (fun _ => true) 15) = true := by decide +kernel

set_option maxRecDepth 100000 in
set_option maxHeartbeats 2000000 in
theorem specBorder_4 (w : World) : Calls Tryz.prog 78 #[.int .i64 4] w fun e w' =>
      ∃ v, e = .returned (.tuple #[cx 4 v, .bool true]) ∧ OwnInts w' w.heap.size v (maximal (firsts (fun _ => true) 15)) ∧ Below w.heap.size w w' := by
  obtain ⟨i0, hi, hz0, hz1, hz2⟩ := info_parts info_int
  have htwo : Two (w.alloc (Obj.cells #[Value.int IntKind.i64 0, Value.slice none 0 0] 26)) w.heap.size (.int .i64 0) (.slice none 0 0) := Two.new _ _ _ _
  have hb0 : Below w.heap.size w (w.alloc (Obj.cells #[Value.int IntKind.i64 0, Value.slice none 0 0] 26)) := (Below.refl _ _).alloc (Nat.le_refl _) _
  have HT := Lib.hid htwo
  have HB0 := Lib.hid hb0
  clear htwo hb0
  go_enter Tryz.func78, Tryz.ntmps78
  go_wp2_with fail
  refine (in_b 4 1 6 true (by decide) _).mono ?_
  rintro e w' ⟨rfl, rfl⟩
  have HO0 := Lib.hid (OwnInts.lit (w.alloc (Obj.cells #[Value.int IntKind.i64 0, Value.slice none 0 0] 26)) (w.heap.size + 1) [] (by simp) (by simp))
  have hszW : (w.alloc (Obj.cells #[Value.int IntKind.i64 0, Value.slice none 0 0] 26)).heap.size = w.heap.size + 1 := by simp
  go_wp2
  generalize (w.alloc (Obj.cells #[Value.int IntKind.i64 0, Value.slice none 0 0] 26)) = W at *
  have HSZ := Lib.hid hszW
  clear hszW
  go_loopw [4, 5] (fun v i wr => ∃ k : Nat, k ≤ 15 ∧ i = .int .i64 (k : Int) ∧ OwnInts wr W.heap.size v (firsts (fun _ => true) k) ∧ Below W.heap.size W wr) (fun _ i _ => 15 - (intOf i).toNat)
  case atStart => exact ⟨0, by omega, rfl, by have h := HO0.out; rw [HSZ.out] at h ⊢; exact h, (Below.refl _ _).alloc (Nat.le_refl _) _⟩
  case round =>
    obtain ⟨k, hk, rfl, hO, hB⟩ := hrel
    have hsz := hB.size
    have hl := firsts_length (fun _ => true) k
    by_cases hlt : k < 15
    · unfold OwnInts at hO
      have HO := Lib.hid hO
      clear hO
      go_wp2_with (at_builtin; refine wpList_append_own _ rfl _ _ 24 rfl W.heap.size 3 i0 (.int .i64 0) 1 8 Tryz.underlying24 hi hz0 hz1 hz2 rfl (by decide) _ _ _ rfl (HO.out.alloc _) ⟨wr.heap.size, 0, none⟩ 1 1 [.int .i64 (k : Int)] rfl rfl ?c1 ?c2 ?c3 ?c4 ?c5 ?_)
      case c1 => intro j u hj; exact Mem.cell_new wr _ _ j u hj
      case c2 => intro u hu; simp at hu; subst hu; rfl
      case c3 => unfold maxLen; omega
      case c4 => omega
      case c5 => simp; omega
      intro v' w1 hown1 hgrow _
      have hB1 : Below W.heap.size W w1 := (hB.alloc hsz _).grown hgrow (by simp; omega) (fun g hg => (HO.out.lt g hg).1)
      have H1 := Lib.hid hown1
      clear hown1 hgrow
      go_wp2
      go_roundw
      case rel => exact ⟨k + 1, by omega, by go_num, by rw [firsts_hit _ k rfl]; exact OwnInts.next H1.out, hB1⟩
      case measure => simp [intOf]; omega
    · have E := Lib.hid (show k = 15 by omega)
      rw [E.out] at hO hl
      obtain ⟨a1, c1, g1, rfl, hg1, hr1⟩ := hO.at
      have R1 := Lib.hid hr1
      have HT1 := Lib.hid (HT.out.keeps hB)
      have hsz1 := HT1.out.1
      have HB1 : Hid (Below w.heap.size w wr) := HB0.out.trans (hB.mono (by have := HSZ.out; omega))
      clear hO hr1 hB
      go_wp2_with fail
      refine (l3Make_any 4 _ _ (firsts (fun _ => true) 15) border_ok_4 (by omega) _ R1.out.ints).mono ?_
      rintro e w4 ⟨v, rfl, hO, hb4⟩
      obtain ⟨a4, c4, g4, rfl, _⟩ := hO.atc
      have HO := Lib.hid hO
      obtain ⟨t0, t1, t2, t3, t4⟩ := HT1.out.keeps hb4
      have HB4 : Hid (Below w.heap.size w w4) := HB1.out.trans (hb4.mono (by omega))
      clear hb4 hO
      go_wp2
      refine ret_cx2 w.heap.size rfl rfl rfl (x := .int .i64 4) (y := .slice a4 (maximal (firsts (fun _ => true) 15)).length c4) (by go_simp) (by go_simp) rfl ?_
      exact ⟨_, rfl, (OwnInts.set (OwnInts.set HO.out _ _ _ (by omega)) _ _ _ (by omega)).lower (by omega), (HB4.out.setCell (by simp) _).setCell (by simp) _⟩

theorem full_5 : full 5 = some (5, [31]) := by decide +kernel
theorem made_full_5 : made 5 [31] = some (5, [31]) := by decide +kernel
theorem faces_full_5 : (faces 5 [31]).length = 32 := by decide +kernel
theorem made_border_5 : made 5 ((faces 5 [31]).take 31) = some (5, maximal (firsts (fun _ => true) 31)) := by decide +kernel
theorem border_5 : border 5 = some (5, maximal (firsts (fun _ => true) 31)) := by decide +kernel
theorem border_ok_5 : allOk (firsts (fun _ => true) 31) = true := by decide +kernel

set_option maxRecDepth 100000 in
set_option maxHeartbeats 2000000 in
theorem specBorder_5 (w : World) : Calls Tryz.prog 78 #[.int .i64 5] w fun e w' =>
      ∃ v, e = .returned (.tuple #[cx 5 v, .bool true]) ∧ OwnInts w' w.heap.size v (maximal (firsts (fun _ => true) 31)) ∧ Below w.heap.size w w' := by
  obtain ⟨i0, hi, hz0, hz1, hz2⟩ := info_parts info_int
  have htwo : Two (w.alloc (Obj.cells #[Value.int IntKind.i64 0, Value.slice none 0 0] 26)) w.heap.size (.int .i64 0) (.slice none 0 0) := Two.new _ _ _ _
  have hb0 : Below w.heap.size w (w.alloc (Obj.cells #[Value.int IntKind.i64 0, Value.slice none 0 0] 26)) := (Below.refl _ _).alloc (Nat.le_refl _) _
  have HT := Lib.hid htwo
  have HB0 := Lib.hid hb0
  clear htwo hb0
  go_enter Tryz.func78, Tryz.ntmps78
  go_wp2_with fail
  refine (in_b 5 1 6 true (by decide) _).mono ?_
  rintro e w' ⟨rfl, rfl⟩
  have HO0 := Lib.hid (OwnInts.lit (w.alloc (Obj.cells #[Value.int IntKind.i64 0, Value.slice none 0 0] 26)) (w.heap.size + 1) [] (by simp) (by simp))
  have hszW : (w.alloc (Obj.cells #[Value.int IntKind.i64 0, Value.slice none 0 0] 26)).heap.size = w.heap.size + 1 := by simp
  go_wp2
  generalize (w.alloc (Obj.cells #[Value.int IntKind.i64 0, Value.slice none 0 0] 26)) = W at *
  have HSZ := Lib.hid hszW
  clear hszW
  go_loopw [4, 5] (fun v i wr => ∃ k : Nat, k ≤ 31 ∧ i = .int .i64 (k : Int) ∧ OwnInts wr W.heap.size v (firsts (fun _ => true) k) ∧ Below W.heap.size W wr) (fun _ i _ => 31 - (intOf i).toNat)
  case atStart => exact ⟨0, by omega, rfl, by have h := HO0.out; rw [HSZ.out] at h ⊢; exact h, (Below.refl _ _).alloc (Nat.le_refl _) _⟩
  case round =>
    obtain ⟨k, hk, rfl, hO, hB⟩ := hrel
    have hsz := hB.size
    have hl := firsts_length (fun _ => true) k
    by_cases hlt : k < 31
    · unfold OwnInts at hO
      have HO := Lib.hid hO
      clear hO
      go_wp2_with (at_builtin; refine wpList_append_own _ rfl _ _ 24 rfl W.heap.size 3 i0 (.int .i64 0) 1 8 Tryz.underlying24 hi hz0 hz1 hz2 rfl (by decide) _ _ _ rfl (HO.out.alloc _) ⟨wr.heap.size, 0, none⟩ 1 1 [.int .i64 (k : Int)] rfl rfl ?c1 ?c2 ?c3 ?c4 ?c5 ?_)
      case c1 => intro j u hj; exact Mem.cell_new wr _ _ j u hj
      case c2 => intro u hu; simp at hu; subst hu; rfl
      case c3 => unfold maxLen; omega
      case c4 => omega
      case c5 => simp; omega
      intro v' w1 hown1 hgrow _
      have hB1 : Below W.heap.size W w1 := (hB.alloc hsz _).grown hgrow (by simp; omega) (fun g hg => (HO.out.lt g hg).1)
      have H1 := Lib.hid hown1
      clear hown1 hgrow
      go_wp2
      go_roundw
      case rel => exact ⟨k + 1, by omega, by go_num, by rw [firsts_hit _ k rfl]; exact OwnInts.next H1.out, hB1⟩
      case measure => simp [intOf]; omega
    · have E := Lib.hid (show k = 31 by omega)
      rw [E.out] at hO hl
      obtain ⟨a1, c1, g1, rfl, hg1, hr1⟩ := hO.at
      have R1 := Lib.hid hr1
      have HT1 := Lib.hid (HT.out.keeps hB)
      have hsz1 := HT1.out.1
      have HB1 : Hid (Below w.heap.size w wr) := HB0.out.trans (hB.mono (by have := HSZ.out; omega))
      clear hO hr1 hB
      go_wp2_with fail
      refine (l3Make_any 5 _ _ (firsts (fun _ => true) 31) border_ok_5 (by omega) _ R1.out.ints).mono ?_
      rintro e w4 ⟨v, rfl, hO, hb4⟩
      obtain ⟨a4, c4, g4, rfl, _⟩ := hO.atc
      have HO := Lib.hid hO
      obtain ⟨t0, t1, t2, t3, t4⟩ := HT1.out.keeps hb4
      have HB4 : Hid (Below w.heap.size w w4) := HB1.out.trans (hb4.mono (by omega))
      clear hb4 hO
      go_wp2
      refine ret_cx2 w.heap.size rfl rfl rfl (x := .int .i64 5) (y := .slice a4 (maximal (firsts (fun _ => true) 31)).length c4) (by go_simp) (by go_simp) rfl ?_
      exact ⟨_, rfl, (OwnInts.set (OwnInts.set HO.out _ _ _ (by omega)) _ _ _ (by omega)).lower (by omega), (HB4.out.setCell (by simp) _).setCell (by simp) _⟩

theorem full_6 : full 6 = some (6, [63]) := by decide +kernel
theorem made_full_6 : made 6 [63] = some (6, [63]) := by decide +kernel
theorem faces_full_6 : (faces 6 [63]).length = 64 := by decide +kernel
theorem made_border_6 : made 6 ((faces 6 [63]).take 63) = some (6, maximal (firsts (fun _ => true) 63)) := by decide +kernel
theorem border_6 : border 6 = some (6, maximal (firsts (fun _ => true) 63)) := by decide +kernel
theorem border_ok_6 : allOk (firsts (fun _ => true) 63) = true := by decide +kernel

set_option maxRecDepth 100000 in
set_option maxHeartbeats 2000000 in
theorem specBorder_6 (w : World) : Calls Tryz.prog 78 #[.int .i64 6] w fun e w' =>
      ∃ v, e = .returned (.tuple #[cx 6 v, .bool true]) ∧ OwnInts w' w.heap.size v (maximal (firsts (fun _ => true) 63)) ∧ Below w.heap.size w w' := by
  obtain ⟨i0, hi, hz0, hz1, hz2⟩ := info_parts info_int
  have htwo : Two (w.alloc (Obj.cells #[Value.int IntKind.i64 0, Value.slice none 0 0] 26)) w.heap.size (.int .i64 0) (.slice none 0 0) := Two.new _ _ _ _
  have hb0 : Below w.heap.size w (w.alloc (Obj.cells #[Value.int IntKind.i64 0, Value.slice none 0 0] 26)) := (Below.refl _ _).alloc (Nat.le_refl _) _
  have HT := Lib.hid htwo
  have HB0 := Lib.hid hb0
  clear htwo hb0
  go_enter Tryz.func78, Tryz.ntmps78
  go_wp2_with fail
  refine (in_b 6 1 6 true (by decide) _).mono ?_
  rintro e w' ⟨rfl, rfl⟩
  have HO0 := Lib.hid (OwnInts.lit (w.alloc (Obj.cells #[Value.int IntKind.i64 0, Value.slice none 0 0] 26)) (w.heap.size + 1) [] (by simp) (by simp))
  have hszW : (w.alloc (Obj.cells #[Value.int IntKind.i64 0, Value.slice none 0 0] 26)).heap.size = w.heap.size + 1 := by simp
  go_wp2
  generalize (w.alloc (Obj.cells #[Value.int IntKind.i64 0, Value.slice none 0 0] 26)) = W at *
  have HSZ := Lib.hid hszW
  clear hszW
  go_loopw [4, 5] (fun v i wr => ∃ k : Nat, k ≤ 63 ∧ i = .int .i64 (k : Int) ∧ OwnInts wr W.heap.size v (firsts (fun _ => true) k) ∧ Below W.heap.size W wr) (fun _ i _ => 63 - (intOf i).toNat)
  case atStart => exact ⟨0, by omega, rfl, by have h := HO0.out; rw [HSZ.out] at h ⊢; exact h, (Below.refl _ _).alloc (Nat.le_refl _) _⟩
  case round =>
    obtain ⟨k, hk, rfl, hO, hB⟩ := hrel
    have hsz := hB.size
    have hl := firsts_length (fun _ => true) k
    by_cases hlt : k < 63
    · unfold OwnInts at hO
      have HO := Lib.hid hO
      clear hO
      go_wp2_with (at_builtin; refine wpList_append_own _ rfl _ _ 24 rfl W.heap.size 3 i0 (.int .i64 0) 1 8 Tryz.underlying24 hi hz0 hz1 hz2 rfl (by decide) _ _ _ rfl (HO.out.alloc _) ⟨wr.heap.size, 0, none⟩ 1 1 [.int .i64 (k : Int)] rfl rfl ?c1 ?c2 ?c3 ?c4 ?c5 ?_)
      case c1 => intro j u hj; exact Mem.cell_new wr _ _ j u hj
      case c2 => intro u hu; simp at hu; subst hu; rfl
      case c3 => unfold maxLen; omega
      case c4 => omega
      case c5 => simp; omega
      intro v' w1 hown1 hgrow _
      have hB1 : Below W.heap.size W w1 := (hB.alloc hsz _).grown hgrow (by simp; omega) (fun g hg => (HO.out.lt g hg).1)
      have H1 := Lib.hid hown1
      clear hown1 hgrow
      go_wp2
      go_roundw
      case rel => exact ⟨k + 1, by omega, by go_num, by rw [firsts_hit _ k rfl]; exact OwnInts.next H1.out, hB1⟩
      case measure => simp [intOf]; omega
    · have E := Lib.hid (show k = 63 by omega)
      rw [E.out] at hO hl
      obtain ⟨a1, c1, g1, rfl, hg1, hr1⟩ := hO.at
      have R1 := Lib.hid hr1
      have HT1 := Lib.hid (HT.out.keeps hB)
      have hsz1 := HT1.out.1
      have HB1 : Hid (Below w.heap.size w wr) := HB0.out.trans (hB.mono (by have := HSZ.out; omega))
      clear hO hr1 hB
      go_wp2_with fail
      refine (l3Make_any 6 _ _ (firsts (fun _ => true) 63) border_ok_6 (by omega) _ R1.out.ints).mono ?_
      rintro e w4 ⟨v, rfl, hO, hb4⟩
      obtain ⟨a4, c4, g4, rfl, _⟩ := hO.atc
      have HO := Lib.hid hO
      obtain ⟨t0, t1, t2, t3, t4⟩ := HT1.out.keeps hb4
      have HB4 : Hid (Below w.heap.size w w4) := HB1.out.trans (hb4.mono (by omega))
      clear hb4 hO
      go_wp2
      refine ret_cx2 w.heap.size rfl rfl rfl (x := .int .i64 6) (y := .slice a4 (maximal (firsts (fun _ => true) 63)).length c4) (by go_simp) (by go_simp) rfl ?_
      exact ⟨_, rfl, (OwnInts.set (OwnInts.set HO.out _ _ _ (by omega)) _ _ _ (by omega)).lower (by omega), (HB4.out.setCell (by simp) _).setCell (by simp) _⟩

set_option maxRecDepth 100000 in
set_option maxHeartbeats 2000000 in
theorem specBorder_any (n : Int) (w : World) : Calls Tryz.prog 78 #[.int .i64 n] w fun e w' =>
      ∃ v, e = .returned (.tuple #[cx (oN (border n)) v, .bool (border n).isSome]) ∧ OwnInts w' w.heap.size v (oL (border n)) ∧ Below w.heap.size w w' := by
  cases hn : inB 1 6 n with
  | true =>
    rcases six n hn with rfl | rfl | rfl | rfl | rfl | rfl
    · rw [border_1]; exact specBorder_1 w
    · rw [border_2]; exact specBorder_2 w
    · rw [border_3]; exact specBorder_3 w
    · rw [border_4]; exact specBorder_4 w
    · rw [border_5]; exact specBorder_5 w
    · rw [border_6]; exact specBorder_6 w
  | false =>
    have HN := Lib.hid hn
    rw [border_no hn]
    have htwo : Two (w.alloc (Obj.cells #[Value.int IntKind.i64 0, Value.slice none 0 0] 26)) w.heap.size (.int .i64 0) (.slice none 0 0) := Two.new _ _ _ _
    have hb0 : Below w.heap.size w (w.alloc (Obj.cells #[Value.int IntKind.i64 0, Value.slice none 0 0] 26)) := (Below.refl _ _).alloc (Nat.le_refl _) _
    have HT := Lib.hid htwo
    have HB0 := Lib.hid hb0
    clear hn htwo hb0
    go_enter Tryz.func78, Tryz.ntmps78
    go_wp2_with fail
    refine (in_b n 1 6 false HN.out _).mono ?_
    rintro e w1 ⟨rfl, rfl⟩
    obtain ⟨t0, t1, t2, t3, t4⟩ := HT.out
    go_wp2
    refine ret_cx2 w.heap.size rfl rfl rfl (x := .int .i64 0) (y := .slice none 0 0) (by go_simp) (by go_simp) rfl ?_
    exact ⟨_, rfl, OwnInts.nil _ _, by first | exact (HB0.out.setCell (by simp) _).setCell (by simp) _ | exact HB0.out⟩

end Go.Proofs.YtenpcjmhlnalcaaGreat

/-! WALKS: spec.l3Draw: a complex is drawn. -/

namespace Go.Proofs.YtenpcjmhlnalcaaGreat
open Go.RowKit
open Sets

/-- The complexes that are drawn by name. -/
abbrev named : List ByteArray := [⟨#[54, 58, 97, 98, 99, 44, 97, 99, 100, 44, 97, 98, 101, 44, 97, 100, 101, 44, 98, 99, 102, 44, 99, 100, 102, 44, 98, 101, 102, 44, 100, 101, 102]⟩, ⟨#[54, 58, 97, 99, 100, 44, 98, 99, 100, 44, 97, 98, 101, 44, 97, 99, 101, 44, 98, 100, 101, 44, 97, 98, 102, 44, 98, 99, 102, 44, 97, 100, 102, 44, 99, 101, 102, 44, 100, 101, 102]⟩, ⟨#[54, 58, 97, 98, 100, 44, 97, 98, 101, 44, 97, 99, 101, 44, 98, 99, 101, 44, 99, 100, 101, 44, 97, 99, 102, 44, 98, 99, 102, 44, 97, 100, 102, 44, 98, 100, 102]⟩, ⟨#[53, 58, 97, 98, 44, 98, 99, 44, 99, 100, 44, 97, 101, 44, 100, 101]⟩, ⟨#[52, 58, 97, 98, 44, 98, 99, 44, 99, 100]⟩, ⟨#[54, 58, 97, 98, 44, 99, 100, 44, 101, 102]⟩, ⟨#[53, 58, 97, 98, 99, 44, 99, 100, 101]⟩, ⟨#[52, 58, 97, 98, 99, 44, 97, 98, 100]⟩]
theorem named_size (r : Nat) (h : r < 8) : (named.getD r ByteArray.empty).size ≤ 1048576 := by
  have : ∀ k : Fin 8, (named.getD k.val ByteArray.empty).size ≤ 1048576 := by decide
  exact this ⟨r, h⟩
theorem specP_len (l : List UInt8) : (oL (specP l)).length ≤ 448 := by
  cases h : specP l with
  | none => simp [oL]
  | some p =>
    obtain ⟨N, xs⟩ := p
    have h1 := isC_le ((specP_iff l N xs).1 h).1
    show xs.length ≤ 448
    omega
theorem border_len (n : Int) : (oL (border n)).length ≤ 448 := by
  unfold border
  split
  · exact maximal_length _
  · simp [oL]

/-- What a draw of a complex hands back. -/
def DrawnCx (m : Nat) (w : World) (B : Nat) (a : Option Addr) (n c : Nat) (e : Ending) (w' : World) : Prop :=
  ∃ (N : Int) (v : Value) (xs : List Int), e = .returned (cx N v) ∧ xs.length ≤ m ∧ OwnInts w' w.heap.size v xs ∧ Cur w' B a n c ∧ w.grownBy w' (some B)

/-- The last step: the result lies in its box. -/
theorem DrawnCx.end {m : Nat} {w wE : World} {B : Nat} {a : Option Addr} {n c : Nat} (hBw : B < w.heap.size) (hold : ∀ j, j < n → ∀ g o : Nat, a = some ⟨g, o, none⟩ → g < w.heap.size) {N : Int} {v : Value} {xs : List Int} (hl : xs.length ≤ m)
    (hO : OwnInts wE (w.heap.size + 1) v xs) (hK : Cur wE B a n c) (hG : w.grownBy wE (some B)) (x y : Value) :
    DrawnCx m w B a n c (.returned (cx N v)) ((wE.setCell ⟨w.heap.size, 0, none⟩ x).setCell ⟨w.heap.size, 1, none⟩ y) :=
  ⟨N, v, xs, rfl, hl, (OwnInts.set (OwnInts.set hO _ _ _ (by omega)) _ _ _ (by omega)).lower (by omega),
    hK.below (b := w.heap.size) hBw (((Below.refl w.heap.size wE).setCell (by simp) _).setCell (by simp) _) hold,
    but_below hG (b := w.heap.size) (((Below.refl w.heap.size wE).setCell (by simp) _).setCell (by simp) _) (Nat.le_refl _)⟩

theorem DrawnCx.alloc {m : Nat} {w W : World} {B : Nat} {a : Option Addr} {n c : Nat} {e : Ending} (hBw : B < w.heap.size) (h : DrawnCx m w B a n c e W) (o : Obj) : DrawnCx m w B a n c e (W.alloc o) := by
  obtain ⟨N, v, xs, he, hl, hO, hK, hG⟩ := h
  have hb : Below W.heap.size W (W.alloc o) := (Below.refl _ _).alloc (Nat.le_refl _) _
  have := hG.size
  exact ⟨N, v, xs, he, hl, hO.alloc o, hK.keeps (by omega) hb, hG.trans (Mem.but_of_below hb _)⟩

set_option maxRecDepth 100000 in
set_option maxHeartbeats 8000000 in
theorem l3Draw_any (a : Option Addr) (n c : Nat) (hn : n ≤ 140737488355328) (B : Nat) (w : World) (hBw : B < w.heap.size) (hc : Cur w B a n c) :
    Calls Tryz.prog 52 #[.pointer (some ⟨B, 0, none⟩)] w fun e w' => DrawnCx 448 w B a n c e w' := by
  have hb2 : Below w.heap.size w ((w.alloc (.cells #[.int .i64 0, .slice none 0 0] 26)).alloc (.cells #[.int .i64 1, .int .i64 2, .int .i64 3, .int .i64 4, .int .i64 4, .int .i64 5, .int .i64 5, .int .i64 6] 3)) := ((Below.refl _ _).alloc (Nat.le_refl _) _).alloc (by simp) _
  have htwo := (Two.new w (.int .i64 0) (.slice none 0 0) 26).alloc (.cells #[.int .i64 1, .int .i64 2, .int .i64 3, .int .i64 4, .int .i64 4, .int .i64 5, .int .i64 5, .int .i64 6] 3)
  have hrow := row_ints (w.alloc (.cells #[.int .i64 0, .slice none 0 0] 26)) [1, 2, 3, 4, 4, 5, 5, 6] 3
  simp only [World.size_alloc] at hrow
  have HC2 := Lib.hid (hc.keeps hBw hb2)
  have HOLD := Lib.hid hc.old
  have HG2 := Lib.hid (Mem.but_of_below hb2 (some B))
  have HT2 := Lib.hid htwo
  have HROW := Lib.hid hrow
  clear hc hb2 htwo hrow
  go_enter Tryz.func52, Tryz.ntmps52
  go_wp2_with fail
  refine (pickInt_any B a n c hn (w.heap.size + 1) 0 8 [1, 2, 3, 4, 4, 5, 5, 6] (by decide) (by decide) _ HC2.out (by omega) (by exact HROW.out)).mono ?_
  rintro e w3 ⟨r0, hr0, rfl, hd⟩
  obtain ⟨nn, hn1, hn6, en⟩ := eight_b r0 hr0
  rw [en]
  have K3 := Lib.hid hd.1
  have T3 := Lib.hid (Two.far HT2.out hd.2 (by omega))
  have G3 := Lib.hid (HG2.out.trans hd.2)
  clear hd en HC2 HT2 HG2 HROW
  go_wp2_with fail
  refine (below_lit B a n c hn _ 8 (by decide) (by decide) (by decide) _ K3.out).mono ?_
  rintro e w4 ⟨r, hr, rfl, hd⟩
  have K4 := Lib.hid hd.1
  have T4 := Lib.hid (Two.far T3.out hd.2 (by omega))
  have G4 := Lib.hid (G3.out.trans hd.2)
  have hs4 : w.heap.size + 1 ≤ w4.heap.size := T4.out.1
  clear hd K3 T3 G3
  by_cases e0 : r = 0
  · have q0 : ((r : Int) == 0) = true := by simp [e0]
    subst e0
    go_wp2_with fail
    refine (specBorder_any (nn : Int) _).mono ?_
    rintro e w5 ⟨v, rfl, hO, hb⟩
    have hl := border_len (nn : Int)
    generalize border (nn : Int) = bo at *
    obtain ⟨a5, c5, g5, rfl, hc5, hg5, hr5, _⟩ := OwnInts.ata hO hb.size
    have O5 := Lib.hid (OwnInts.lower hO hs4)
    have K5 := Lib.hid (K4.out.keeps (by omega) hb)
    have T5 := Lib.hid (Two.keeps T4.out hb)
    have G5 := Lib.hid (G4.out.trans (Mem.but_of_below hb _))
    have hs5 := hb.size
    clear hO hb hr5 K4 T4 G4
    obtain ⟨t0, t1, t2, t3, t4⟩ := T5.out
    go_wp2
    refine ret_cx w.heap.size rfl rfl (x := .int .i64 (oN bo)) (y := .slice a5 (oL bo).length c5) (by go_simp) (by go_simp) rfl ?_
    exact DrawnCx.alloc hBw (DrawnCx.end hBw HOLD.out hl O5.out K5.out G5.out _ _) _
  by_cases e1 : r = 1
  · have q0 : ((r : Int) == 0) = false := by simp [e1]
    have q1 : ((r : Int) == 1) = true := by simp [e1]
    subst e1
    have hba : Below w4.heap.size w4 (w4.alloc (.cells #[.string ⟨#[54, 58, 97, 98, 99, 44, 97, 99, 100, 44, 97, 98, 101, 44, 97, 100, 101, 44, 98, 99, 102, 44, 99, 100, 102, 44, 98, 101, 102, 44, 100, 101, 102]⟩, .string ⟨#[54, 58, 97, 99, 100, 44, 98, 99, 100, 44, 97, 98, 101, 44, 97, 99, 101, 44, 98, 100, 101, 44, 97, 98, 102, 44, 98, 99, 102, 44, 97, 100, 102, 44, 99, 101, 102, 44, 100, 101, 102]⟩, .string ⟨#[54, 58, 97, 98, 100, 44, 97, 98, 101, 44, 97, 99, 101, 44, 98, 99, 101, 44, 99, 100, 101, 44, 97, 99, 102, 44, 98, 99, 102, 44, 97, 100, 102, 44, 98, 100, 102]⟩, .string ⟨#[53, 58, 97, 98, 44, 98, 99, 44, 99, 100, 44, 97, 101, 44, 100, 101]⟩, .string ⟨#[52, 58, 97, 98, 44, 98, 99, 44, 99, 100]⟩, .string ⟨#[54, 58, 97, 98, 44, 99, 100, 44, 101, 102]⟩, .string ⟨#[53, 58, 97, 98, 99, 44, 99, 100, 101]⟩, .string ⟨#[52, 58, 97, 98, 99, 44, 97, 98, 100]⟩] 9)) := (Below.refl _ _).alloc (Nat.le_refl _) _
    have K4a := Lib.hid (K4.out.keeps (by omega) hba)
    have T4a := Lib.hid (Two.keeps T4.out hba)
    have G4a := Lib.hid (G4.out.trans (Mem.but_of_below hba _))
    have HN := Lib.hid (row_lit w4 named 9)
    clear hba K4 T4 G4
    go_wp2_with fail
    refine (pick_any B a n c hn w4.heap.size 0 8 named (by decide) (by decide) _ K4a.out (by omega) (by exact HN.out)).mono ?_
    rintro e w4b ⟨r2, hr2, rfl, hd⟩
    have hsz := named_size r2 hr2
    generalize named.getD r2 ByteArray.empty = st at *
    have K4b := Lib.hid hd.1
    have T4b := Lib.hid (Two.far T4a.out hd.2 (by omega))
    have G4b := Lib.hid (G4a.out.trans hd.2)
    have hs4b := hd.2.size
    simp only [World.size_alloc] at hs4b
    clear hd K4a T4a G4a HN
    go_wp2_with fail
    refine (specParseC_any st hsz _).mono ?_
    rintro e w5 ⟨v, rfl, hO, hb⟩
    have hl := specP_len st.data.toList
    generalize specP st.data.toList = bo at *
    obtain ⟨a5, c5, g5, rfl, hc5, hg5, hr5, _⟩ := OwnInts.ata hO hb.size
    have O5 := Lib.hid (OwnInts.lower hO (show w.heap.size + 1 ≤ w4b.heap.size by omega))
    have K5 := Lib.hid (K4b.out.keeps (by omega) hb)
    have T5 := Lib.hid (Two.keeps T4b.out hb)
    have G5 := Lib.hid (G4b.out.trans (Mem.but_of_below hb _))
    have hs5 := hb.size
    clear hO hb hr5 K4b T4b G4b
    obtain ⟨t0, t1, t2, t3, t4⟩ := T5.out
    go_wp2
    refine ret_cx w.heap.size rfl rfl (x := .int .i64 (oN bo)) (y := .slice a5 (oL bo).length c5) (by go_simp) (by go_simp) rfl ?_
    exact DrawnCx.alloc hBw (DrawnCx.end hBw HOLD.out hl O5.out K5.out G5.out _ _) _
  by_cases e2 : r = 2 ∨ r = 3
  · have q0 : ((r : Int) == 0) = false := by simp; omega
    have q1 : ((r : Int) == 1) = false := by simp; omega
    by_cases e3 : r = 2
    · have q2 : ((r : Int) == 2) = true := by simp [e3]
      subst e3
      go_wp2_with fail
      refine (l3Pure_any a n c hn nn hn1 hn6 B _ (by omega) K4.out).mono ?_
      rintro e w5 ⟨v, xs, rfl, hl, hO, hK, hg⟩
      obtain ⟨a5, c5, g5, rfl, hc5, hg5, hr5, _⟩ := OwnInts.ata hO hg.size
      have O5 := Lib.hid (OwnInts.lower hO hs4)
      have K5 := Lib.hid hK
      obtain ⟨t0, t1, t2, t3, t4⟩ := Two.far T4.out hg (by omega)
      have G5 := Lib.hid (G4.out.trans hg)
      clear hO hK hg hr5 K4 T4 G4
      go_wp2
      refine ret_cx w.heap.size rfl rfl (x := .int .i64 (nn : Int)) (y := .slice a5 xs.length c5) (by go_simp) (by go_simp) rfl ?_
      exact DrawnCx.end hBw HOLD.out hl O5.out K5.out G5.out _ _
    · have q2 : ((r : Int) == 2) = false := by simp; omega
      have q3 : ((r : Int) == 3) = true := by simp; omega
      go_wp2_with fail
      refine (l3Pure_any a n c hn nn hn1 hn6 B _ (by omega) K4.out).mono ?_
      rintro e w5 ⟨v, xs, rfl, hl, hO, hK, hg⟩
      obtain ⟨a5, c5, g5, rfl, hc5, hg5, hr5, _⟩ := OwnInts.ata hO hg.size
      have O5 := Lib.hid (OwnInts.lower hO hs4)
      have K5 := Lib.hid hK
      obtain ⟨t0, t1, t2, t3, t4⟩ := Two.far T4.out hg (by omega)
      have G5 := Lib.hid (G4.out.trans hg)
      clear hO hK hg hr5 K4 T4 G4
      go_wp2
      refine ret_cx w.heap.size rfl rfl (x := .int .i64 (nn : Int)) (y := .slice a5 xs.length c5) (by go_simp) (by go_simp) rfl ?_
      exact DrawnCx.end hBw HOLD.out hl O5.out K5.out G5.out _ _
  · have q0 : ((r : Int) == 0) = false := by simp; omega
    have q1 : ((r : Int) == 1) = false := by simp; omega
    have q2 : ((r : Int) == 2) = false := by simp; omega
    have q3 : ((r : Int) == 3) = false := by simp; omega
    go_wp2_with fail
    refine (l3Size_any a n c hn nn hn1 hn6 B _ (by omega) K4.out).mono ?_
    rintro e w5 ⟨v, xs, rfl, hl, hO, hK, hg⟩
    obtain ⟨a5, c5, g5, rfl, hc5, hg5, hr5, _⟩ := OwnInts.ata hO hg.size
    have O5 := Lib.hid (OwnInts.lower hO hs4)
    have K5 := Lib.hid hK
    obtain ⟨t0, t1, t2, t3, t4⟩ := Two.far T4.out hg (by omega)
    have G5 := Lib.hid (G4.out.trans hg)
    clear hO hK hg hr5 K4 T4 G4
    go_wp2
    refine ret_cx w.heap.size rfl rfl (x := .int .i64 (nn : Int)) (y := .slice a5 xs.length c5) (by go_simp) (by go_simp) rfl ?_
    exact DrawnCx.end hBw HOLD.out hl O5.out K5.out G5.out _ _

end Go.Proofs.YtenpcjmhlnalcaaGreat

/-! WALKS: spec.l3Bent: a complex, mostly, is drawn. -/

namespace Go.Proofs.YtenpcjmhlnalcaaGreat
open Go.RowKit
open Sets

theorem Cur.drw {w : World} {B : Nat} {a : Option Addr} {n c : Nat} (h : Cur w B a n c) : Cur w.drew B a n c := ⟨h.c0, h.c1, h.c2, h.fr, h.bs⟩
theorem OwnInts.setNe {w : World} {base b : Nat} {v : Value} {xs : List Int} (h : OwnInts w base v xs) (hne : v.ownBlock ≠ some b) (o : Nat) (z : Value) : OwnInts (w.setCell ⟨b, o, none⟩ z) base v xs :=
  World.ownsRow.kept h (Mem.but_setCell w b o z) (.inr hne)
theorem OwnInts.own_lt {w : World} {base : Nat} {v : Value} {xs : List Int} (h : OwnInts w base v xs) : ∀ b, w.heap.size ≤ b → v.ownBlock ≠ some b := fun b hb e => by
  have := (World.ownsRow.lt h b e).2
  omega
theorem Two.grown {w w' : World} {b : Nat} {row : Option Nat} {x y : Value} (h : Two w b x y) (hg : w.grownBy w' row) (hne : row ≠ some b) : Two w' b x y := by
  obtain ⟨h1, h2, h3, h4, h5⟩ := h
  have hb := hg.block b h1 (Ne.symm hne)
  have := hg.size
  exact ⟨by omega, by rw [World.cell?_of_block (w := w) (w' := w') (a := ⟨b, 0, none⟩) hb]; exact h2, by rw [World.cell?_of_block (w := w) (w' := w') (a := ⟨b, 1, none⟩) hb]; exact h3,
    by rw [World.frozen?_of_block (w := w) (w' := w') (a := ⟨b, 0, none⟩) hb]; exact h4, by rw [World.frozen?_of_block (w := w) (w' := w') (a := ⟨b, 1, none⟩) hb]; exact h5⟩
theorem OwnInts.own_ge {w : World} {base : Nat} {v : Value} {xs : List Int} (h : OwnInts w base v xs) : ∀ b, b < base → v.ownBlock ≠ some b := fun b hb e => by
  have := (World.ownsRow.lt h b e).1
  omega
theorem three_a (r : Nat) : ∃ m : Int, ([0, 7, 2] : List Int).getD r 0 = m := ⟨_, rfl⟩

set_option maxRecDepth 100000 in
set_option maxHeartbeats 8000000 in
theorem l3Bent_any (a : Option Addr) (n c : Nat) (hn : n ≤ 140737488355328) (B : Nat) (w : World) (hBw : B < w.heap.size) (hc : Cur w B a n c) :
    Calls Tryz.prog 33 #[.pointer (some ⟨B, 0, none⟩)] w fun e w' => DrawnCx 449 w B a n c e w' := by
  obtain ⟨i0, hi, hz0, hz1, hz2⟩ := info_parts info_int
  have hb0 : Below w.heap.size w (w.alloc (.cells #[.int .i64 0, .slice none 0 0] 26)) := (Below.refl _ _).alloc (Nat.le_refl _) _
  have htwo := Two.new w (.int .i64 0) (.slice none 0 0) 26
  have HC0 := Lib.hid (hc.keeps hBw hb0)
  have HOLD := Lib.hid hc.old
  have HG0 := Lib.hid (Mem.but_of_below hb0 (some B))
  have HT0 := Lib.hid htwo
  clear hc hb0 htwo
  go_enter Tryz.func33, Tryz.ntmps33
  go_wp2_with fail
  refine (l3Draw_any a n c hn B _ (by simp; omega) HC0.out).mono ?_
  rintro e w1 ⟨N, v, xs, rfl, hl, hO, hK, hG⟩
  simp only [World.size_alloc] at hO
  have hs1 := hG.size
  simp only [World.size_alloc] at hs1
  obtain ⟨a1, c1, g1, rfl, hc1, hg1, hr1, _⟩ := OwnInts.ata hO hs1
  have hnb := hO.own_lt w1.heap.size (Nat.le_refl _)
  have HNB := Lib.hid hnb
  have hba : Below w1.heap.size w1 (w1.alloc (.cells #[.int .i64 N, .slice a1 xs.length c1] 26)) := (Below.refl _ _).alloc (Nat.le_refl _) _
  have O2 := Lib.hid (hO.alloc (.cells #[.int .i64 N, .slice a1 xs.length c1] 26))
  have K2 := Lib.hid (hK.keeps (by omega) hba)
  have T2 := Lib.hid (Two.keeps (Two.far HT0.out hG (by omega)) hba)
  have G2 := Lib.hid ((HG0.out.trans hG).trans (Mem.but_of_below hba _))
  have X2 := Lib.hid (Two.new w1 (.int .i64 N) (.slice a1 xs.length c1) 26)
  clear hO hK hG hr1 hba HC0 HG0 HT0 hnb
  go_wp2_with fail
  refine (below_lit B a n c hn _ 14 (by decide) (by decide) (by decide) _ K2.out).mono ?_
  rintro e w3 ⟨r, hr, rfl, hd⟩
  have K3 := Lib.hid hd.1
  have O3 := Lib.hid (OwnInts.away O2.out hd.2 (by omega))
  have T3 := Lib.hid (Two.far T2.out hd.2 (by omega))
  have X3 := Lib.hid (Two.far X2.out hd.2 (by omega))
  have G3 := Lib.hid (G2.out.trans hd.2)
  have hs3 := X3.out.1
  obtain ⟨b3, hb3⟩ : ∃ b3, w1.heap.size = b3 := ⟨_, rfl⟩
  rw [hb3] at X3 hs3 HNB hs1 ⊢
  clear hd O2 K2 T2 G2 X2 hb3
  by_cases e0 : r = 0
  · have q0 : ((r : Int) == 0) = true := by simp [e0]
    subst e0
    have hba : Below w3.heap.size w3 (w3.alloc (.cells #[.int .i64 0, .int .i64 7, .int .i64 2] 3)) := (Below.refl _ _).alloc (Nat.le_refl _) _
    have K4 := Lib.hid (K3.out.keeps (by omega) hba)
    have O4 := Lib.hid (O3.out.alloc (.cells #[.int .i64 0, .int .i64 7, .int .i64 2] 3))
    have T4 := Lib.hid (Two.keeps T3.out hba)
    have X4 := Lib.hid (Two.keeps X3.out hba)
    have G4 := Lib.hid (G3.out.trans (Mem.but_of_below hba _))
    have HROW := Lib.hid (row_ints w3 [0, 7, 2] 3)
    clear hba K3 O3 T3 X3 G3
    go_wp2_with fail
    refine (pickInt_any B a n c hn w3.heap.size 0 3 [0, 7, 2] (by decide) (by decide) _ K4.out (by omega) (by exact HROW.out)).mono ?_
    rintro e w5 ⟨r2, hr2, rfl, hd⟩
    obtain ⟨m, em⟩ := three_a r2
    rw [em]
    have K5 := Lib.hid hd.1
    have O5 := Lib.hid (OwnInts.away O4.out hd.2 (by omega))
    obtain ⟨t0, t1, t2, t3, t4⟩ := Two.far T4.out hd.2 (by omega)
    obtain ⟨x0, x1, x2, x3, x4⟩ := Two.far X4.out hd.2 (by omega)
    have G5 := Lib.hid (G4.out.trans hd.2)
    clear hd em K4 O4 T4 X4 G4 HROW
    have hwb : w.heap.size ≠ b3 := by omega
    have hbw : b3 ≠ w.heap.size := by omega
    go_wp2
    refine ret_cx w.heap.size rfl rfl (x := .int .i64 m) (y := .slice a1 xs.length c1) (by go_simp) (by go_simp) rfl ?_
    exact DrawnCx.end hBw HOLD.out (Nat.le_trans hl (by decide)) (OwnInts.setNe O5.out HNB.out 0 (.int .i64 m)) (K5.out.below (b := w.heap.size) hBw ((Below.refl w.heap.size w5).setCell (by dsimp only; omega) _) HOLD.out) (but_below G5.out (b := w.heap.size) ((Below.refl w.heap.size w5).setCell (by dsimp only; omega) _) (Nat.le_refl _)) _ _
  by_cases e1 : r = 1
  · have q0 : ((r : Int) == 0) = false := by simp [e1]
    have q1 : ((r : Int) == 1) = true := by simp [e1]
    subst e1
    obtain ⟨t0, t1, t2, t3, t4⟩ := T3.out
    obtain ⟨x0, x1, x2, x3, x4⟩ := X3.out
    have hwb : w.heap.size ≠ b3 := by omega
    have hbw : b3 ≠ w.heap.size := by omega
    go_wp2_with fail
    have hnw := O3.out.own_ge w.heap.size (by omega)
    have HNW := Lib.hid hnw
    clear hnw
    go_region_law (first | (go_simp; go_at_call 51; refine (below_lit B a n c hn _ 66 (by decide) (by decide) (by decide) _ (by first | exact K3.out.drw | exact K3.out)).mono ?_; rintro e w4 ⟨q, hq, rfl, hd⟩; have O4 : Hid (w4.ownsRow (w.heap.size + 1) 3 1 (.slice a1 xs.length c1) xs.length (xs.map (Value.int .i64))) := Lib.hid (OwnInts.away (show OwnInts w3.drew _ _ _ from O3.out) hd.2 (by omega)); have T4 := Lib.hid (Two.far (show Two w3.drew _ _ _ from T3.out) hd.2 (by omega)); have X4 := Lib.hid (Two.far (show Two w3.drew _ _ _ from X3.out) hd.2 (by omega)); have K4 := Lib.hid hd.1; have G4 := Lib.hid (G3.out.trans (World.grownBy.trans (Mem.but_of_below (bdrew1 w3) _) hd.2)); have hs4 : b3 < w4.heap.size := X4.out.1; have z2 := X4.out.2.2.1; clear hd) | (refine step_append_lies _ (by rfl) _ _ _ (by rfl) (w.heap.size + 1) 3 i0 (.int .i64 0) 1 8 Tryz.underlying24 hi hz0 hz1 hz2 rfl (by decide) (.slice a1 xs.length c1) xs.length (xs.map (Value.int .i64)) (by rfl) (O4.out.alloc _) ⟨w4.heap.size, 0, none⟩ 1 1 [.int .i64 (IntKind.i64.wrap ((q : Int) - 1))] (by rfl) (by rfl) (by intro j u hj; exact Mem.cell_new w4 _ _ j u hj) (by intro u hu; simp at hu; subst hu; rfl) (by decide) (by unfold maxLen; omega) (by omega) (by simp; omega) (w4.heap.size + 1) (by simp) ?_; intro gg cap w5 hown5 hgrow hat hlt; have T5 := Two.grown (T4.out.alloc _) hgrow HNW.out; have X5 := Two.grown (X4.out.alloc _) hgrow HNB.out; obtain ⟨s0, s1, s2, s3, s4⟩ := T5; obtain ⟨y0, y1, y2, y3, y4⟩ := X5; have HOWN := Lib.hid hown5; have HGR := Lib.hid hgrow; have HAT := Lib.hid hat; clear hown5 hgrow hat))
    all_goals
      have hbs : Below (w.heap.size + 1) w4 w5 := ((Below.refl _ _).alloc (by omega) _).grown HGR.out (by simp; omega) (fun g hg => (O4.out.lt g hg).1)
      have hOE : OwnInts w5 (w.heap.size + 1) (.slice (some ⟨gg, 0, none⟩) (xs.length + 1) cap) (xs ++ [IntKind.i64.wrap ((q : Int) - 1)]) := OwnInts.next HOWN.out
      have hgb : gg ≠ b3 := by
        rcases HAT.out with e | e
        · intro h; exact HNB.out (by rw [e, h])
        · omega
      have hK5 := K4.out.below (b := w.heap.size + 1) (by omega) hbs (fun j hj g o e => by have := HOLD.out j hj g o e; omega)
      have hG5 := but_below G4.out hbs (by omega)
      have HOE := Lib.hid hOE
      have HGB := Lib.hid hgb
      have K5 := Lib.hid hK5
      have G5 := Lib.hid hG5
      clear hbs hOE hgb hK5 hG5 HOWN HGR HAT
      go_wp2
      refine ret_cx w.heap.size rfl rfl (x := .int .i64 N) (y := .slice (some ⟨gg, 0, none⟩) (xs.length + 1) cap) (by go_simp) (by go_simp) rfl ?_
      exact DrawnCx.end hBw HOLD.out (by rw [List.length_append]; simp; omega) (OwnInts.setNe HOE.out (by simp only [Value.ownBlock, ne_eq, Option.some.injEq]; exact HGB.out) 1 _) (K5.out.below (b := w.heap.size) hBw ((Below.refl w.heap.size w5).setCell (by dsimp only; omega) _) HOLD.out) (but_below G5.out (b := w.heap.size) ((Below.refl w.heap.size w5).setCell (by dsimp only; omega) _) (Nat.le_refl _)) _ _
  · have q0 : ((r : Int) == 0) = false := by simp; omega
    have q1 : ((r : Int) == 1) = false := by simp; omega
    obtain ⟨t0, t1, t2, t3, t4⟩ := T3.out
    obtain ⟨x0, x1, x2, x3, x4⟩ := X3.out
    go_wp2
    refine ret_cx w.heap.size rfl rfl (x := .int .i64 N) (y := .slice a1 xs.length c1) (by go_simp) (by go_simp) rfl ?_
    exact DrawnCx.end hBw HOLD.out (Nat.le_trans hl (by decide)) O3.out K3.out G3.out _ _

end Go.Proofs.YtenpcjmhlnalcaaGreat

/-! WALKS: the draws of chapter 4. -/

namespace Go.Proofs.YtenpcjmhlnalcaaGreat
open Go.RowKit
open Sets

/-- What the draw of a complex from a code hands back. -/
def Drawn1 (w : World) (e : Ending) (w' : World) : Prop :=
  ∃ (N : Int) (v : Value) (xs : List Int), e = .returned (cx N v) ∧ xs.length ≤ 449 ∧ OwnInts w' w.heap.size v xs ∧ Below w.heap.size w w'
def Drawn2 (w : World) (e : Ending) (w' : World) : Prop :=
  ∃ (N : Int) (v : Value) (xs : List Int) (k : Int), e = .returned (.tuple #[cx N v, .int .i64 k]) ∧ xs.length ≤ 449 ∧ OwnInts w' w.heap.size v xs ∧ Below w.heap.size w w'

end Go.Proofs.YtenpcjmhlnalcaaGreat
