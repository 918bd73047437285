/-
  WALKS: the full complex and its border, by impl and by spec.
-/
import Derived.Test.YtamoejjkaebhkaaJg13
namespace Go.Proofs.Ytamoejjkaebhkaa
open Go.RowKit
open Sets

/-- FullComplex. -/
def full (n : Int) : Option (Int × List Int) := if inB 1 6 n = true then some (n, [2 ^ n.toNat - 1]) else none
/-- BorderComplex. -/
def border (n : Int) : Option (Int × List Int) := if inB 1 6 n = true then some (n, maximal (firsts (fun _ => true) (2 ^ n.toNat - 1))) else none
theorem full_no {n : Int} (h : inB 1 6 n = false) : full n = none := by unfold full; rw [if_neg (by rw [h]; simp)]
theorem border_no {n : Int} (h : inB 1 6 n = false) : border n = none := by unfold border; rw [if_neg (by rw [h]; simp)]
theorem six (n : Int) (h : inB 1 6 n = true) : n = 1 ∨ n = 2 ∨ n = 3 ∨ n = 4 ∨ n = 5 ∨ n = 6 := by
  have := (inB_iff _ _ _).1 h
  omega

theorem implMake_len (n : Int) (a : Option Addr) (c m : Nat) (xs : List Int) (hm : xs.length = m) (o : Option (Int × List Int)) (ho : made n xs = o) (hlen : xs.length ≤ 1099511627776) (w : World) (h : Ints w a xs) :
    Calls Try.prog 41 #[.int .i64 n, .slice a m c] w fun e w' =>
      ∃ v, e = .returned (.tuple #[cx (oN o) v, .bool o.isSome]) ∧ OwnInts w' w.heap.size v (oL o) ∧ Below w.heap.size w w' := by
  subst hm; subst ho; exact implMake_any n a c xs hlen w h

theorem implMake_some (n : Int) (a : Option Addr) (c m : Nat) (xs : List Int) (hm : xs.length = m) (n' : Int) (L : List Int) (ho : made n xs = some (n', L)) (hlen : xs.length ≤ 1099511627776) (w : World) (h : Ints w a xs) :
    Calls Try.prog 41 #[.int .i64 n, .slice a m c] w fun e w' =>
      ∃ v, e = .returned (.tuple #[cx n' v, .bool true]) ∧ OwnInts w' w.heap.size v L ∧ Below w.heap.size w w' :=
  implMake_len n a c m xs hm _ ho hlen w h

theorem Ints.one (w : World) (x : Int) : Ints (w.alloc (Obj.cells #[Value.int IntKind.i64 x] 3)) (some ⟨w.heap.size, 0, none⟩) [x] := fun j hj => by
  obtain rfl : j = 0 := by simp at hj; omega
  exact ⟨_, _, rfl, by simp⟩

theorem full_1 : full 1 = some (1, [1]) := by decide +kernel
theorem made_full_1 : made 1 [1] = some (1, [1]) := by decide +kernel
theorem faces_full_1 : (faces 1 [1]).length = 2 := by decide +kernel
theorem made_border_1 : made 1 ((faces 1 [1]).take 1) = some (1, maximal (firsts (fun _ => true) 1)) := by decide +kernel
theorem border_1 : border 1 = some (1, maximal (firsts (fun _ => true) 1)) := by decide +kernel
theorem border_ok_1 : allOk (firsts (fun _ => true) 1) = true := by decide +kernel

set_option maxRecDepth 100000 in
set_option maxHeartbeats 2000000 in
theorem specBorder_1 (w : World) : Calls Try.prog 65 #[.int .i64 1] w fun e w' =>
      ∃ v, e = .returned (.tuple #[cx 1 v, .bool true]) ∧ OwnInts w' w.heap.size v (maximal (firsts (fun _ => true) 1)) ∧ Below w.heap.size w w' := by
  obtain ⟨i0, hi, hz0, hz1, hz2⟩ := info_parts info_int
  have htwo : Two (w.alloc (Obj.cells #[Value.int IntKind.i64 0, Value.slice none 0 0] 30)) w.heap.size (.int .i64 0) (.slice none 0 0) := Two.new _ _ _ _
  have hb0 : Below w.heap.size w (w.alloc (Obj.cells #[Value.int IntKind.i64 0, Value.slice none 0 0] 30)) := (Below.refl _ _).alloc (Nat.le_refl _) _
  have HT := Lib.hid htwo
  have HB0 := Lib.hid hb0
  clear htwo hb0
  go_enter Try.func65, Try.ntmps65
  go_wp2_with fail
  refine (in_b 1 1 6 true (by decide) _).mono ?_
  rintro e w' ⟨rfl, rfl⟩
  have HO0 := Lib.hid (OwnInts.lit (w.alloc (Obj.cells #[Value.int IntKind.i64 0, Value.slice none 0 0] 30)) (w.heap.size + 1) [] (by simp) (by simp))
  have hszW : (w.alloc (Obj.cells #[Value.int IntKind.i64 0, Value.slice none 0 0] 30)).heap.size = w.heap.size + 1 := by simp
  go_wp2
  generalize (w.alloc (Obj.cells #[Value.int IntKind.i64 0, Value.slice none 0 0] 30)) = W at *
  have HSZ := Lib.hid hszW
  clear hszW
  go_loopw [4, 5] (fun v i wr => ∃ k : Nat, k ≤ 1 ∧ i = .int .i64 (k : Int) ∧ OwnInts wr W.heap.size v (firsts (fun _ => true) k) ∧ Below W.heap.size W wr) (fun _ i _ => 1 - (intOf i).toNat)
  case atStart => exact ⟨0, by omega, rfl, by have h := HO0.out; rw [HSZ.out] at h ⊢; exact h, (Below.refl _ _).alloc (Nat.le_refl _) _⟩
  case round =>
    obtain ⟨k, hk, rfl, hO, hB⟩ := hrel
    have hsz := hB.size
    have hl := firsts_length (fun _ => true) k
    by_cases hlt : k < 1
    · unfold OwnInts at hO
      have HO := Lib.hid hO
      clear hO
      go_wp2_with (at_builtin; refine wpList_append_own _ rfl _ _ 26 rfl W.heap.size 3 i0 (.int .i64 0) 1 8 Try.underlying26 hi hz0 hz1 hz2 rfl (by decide) _ _ _ rfl (HO.out.alloc _) ⟨wr.heap.size, 0, none⟩ 1 1 [.int .i64 (k : Int)] rfl rfl ?c1 ?c2 ?c3 ?c4 ?c5 ?_)
      case c1 => intro j u hj; exact Mem.cell_new wr _ _ j u hj
      case c2 => intro u hu; simp at hu; subst hu; rfl
      case c3 => unfold maxLen; omega
      case c4 => omega
      case c5 => simp; omega
      intro v' w1 hown1 hgrow _
      have hB1 : Below W.heap.size W w1 := (hB.alloc hsz _).grown hgrow (by simp; omega) (fun g hg => (HO.out.lt g hg).1)
      have H1 := Lib.hid hown1
      clear hown1 hgrow
      go_wp2
      go_roundw
      case rel => exact ⟨k + 1, by omega, by go_num, by rw [firsts_hit _ k rfl]; exact OwnInts.next H1.out, hB1⟩
      case measure => simp [intOf]; omega
    · have E := Lib.hid (show k = 1 by omega)
      rw [E.out] at hO hl
      obtain ⟨a1, c1, g1, rfl, hg1, hr1⟩ := hO.at
      have R1 := Lib.hid hr1
      have HT1 := Lib.hid (HT.out.keeps hB)
      have hsz1 := HT1.out.1
      have HB1 : Hid (Below w.heap.size w wr) := HB0.out.trans (hB.mono (by have := HSZ.out; omega))
      clear hO hr1 hB
      go_wp2_with fail
      refine (l3Make_any 1 _ _ (firsts (fun _ => true) 1) border_ok_1 (by omega) _ R1.out.ints).mono ?_
      rintro e w4 ⟨v, rfl, hO, hb4⟩
      obtain ⟨a4, c4, g4, rfl, _⟩ := hO.atc
      have HO := Lib.hid hO
      obtain ⟨t0, t1, t2, t3, t4⟩ := HT1.out.keeps hb4
      have HB4 : Hid (Below w.heap.size w w4) := HB1.out.trans (hb4.mono (by omega))
      clear hb4 hO
      go_wp2
      refine ret_cx2 w.heap.size rfl rfl rfl (x := .int .i64 1) (y := .slice a4 (maximal (firsts (fun _ => true) 1)).length c4) (by go_simp) (by go_simp) rfl ?_
      exact ⟨_, rfl, (OwnInts.set (OwnInts.set HO.out _ _ _ (by omega)) _ _ _ (by omega)).lower (by omega), (HB4.out.setCell (by simp) _).setCell (by simp) _⟩

theorem full_2 : full 2 = some (2, [3]) := by decide +kernel
theorem made_full_2 : made 2 [3] = some (2, [3]) := by decide +kernel
theorem faces_full_2 : (faces 2 [3]).length = 4 := by decide +kernel
theorem made_border_2 : made 2 ((faces 2 [3]).take 3) = some (2, maximal (firsts (fun _ => true) 3)) := by decide +kernel
theorem border_2 : border 2 = some (2, maximal (firsts (fun _ => true) 3)) := by decide +kernel
theorem border_ok_2 : allOk (firsts (fun _ => true) 3) = true := by decide +kernel

set_option maxRecDepth 100000 in
set_option maxHeartbeats 2000000 in
theorem specBorder_2 (w : World) : Calls Try.prog 65 #[.int .i64 2] w fun e w' =>
      ∃ v, e = .returned (.tuple #[cx 2 v, .bool true]) ∧ OwnInts w' w.heap.size v (maximal (firsts (fun _ => true) 3)) ∧ Below w.heap.size w w' := by
  obtain ⟨i0, hi, hz0, hz1, hz2⟩ := info_parts info_int
  have htwo : Two (w.alloc (Obj.cells #[Value.int IntKind.i64 0, Value.slice none 0 0] 30)) w.heap.size (.int .i64 0) (.slice none 0 0) := Two.new _ _ _ _
  have hb0 : Below w.heap.size w (w.alloc (Obj.cells #[Value.int IntKind.i64 0, Value.slice none 0 0] 30)) := (Below.refl _ _).alloc (Nat.le_refl _) _
  have HT := Lib.hid htwo
  have HB0 := Lib.hid hb0
  clear htwo hb0
  go_enter Try.func65, Try.ntmps65
  go_wp2_with fail
  refine (in_b 2 1 6 true (by decide) _).mono ?_
  rintro e w' ⟨rfl, rfl⟩
  have HO0 := Lib.hid (OwnInts.lit (w.alloc (Obj.cells #[Value.int IntKind.i64 0, Value.slice none 0 0] 30)) (w.heap.size + 1) [] (by simp) (by simp))
  have hszW : (w.alloc (Obj.cells #[Value.int IntKind.i64 0, Value.slice none 0 0] 30)).heap.size = w.heap.size + 1 := by simp
  go_wp2
  generalize (w.alloc (Obj.cells #[Value.int IntKind.i64 0, Value.slice none 0 0] 30)) = W at *
  have HSZ := Lib.hid hszW
  clear hszW
  go_loopw [4, 5] (fun v i wr => ∃ k : Nat, k ≤ 3 ∧ i = .int .i64 (k : Int) ∧ OwnInts wr W.heap.size v (firsts (fun _ => true) k) ∧ Below W.heap.size W wr) (fun _ i _ => 3 - (intOf i).toNat)
  case atStart => exact ⟨0, by omega, rfl, by have h := HO0.out; rw [HSZ.out] at h ⊢; exact h, (Below.refl _ _).alloc (Nat.le_refl _) _⟩
  case round =>
    obtain ⟨k, hk, rfl, hO, hB⟩ := hrel
    have hsz := hB.size
    have hl := firsts_length (fun _ => true) k
    by_cases hlt : k < 3
    · unfold OwnInts at hO
      have HO := Lib.hid hO
      clear hO
      go_wp2_with (at_builtin; refine wpList_append_own _ rfl _ _ 26 rfl W.heap.size 3 i0 (.int .i64 0) 1 8 Try.underlying26 hi hz0 hz1 hz2 rfl (by decide) _ _ _ rfl (HO.out.alloc _) ⟨wr.heap.size, 0, none⟩ 1 1 [.int .i64 (k : Int)] rfl rfl ?c1 ?c2 ?c3 ?c4 ?c5 ?_)
      case c1 => intro j u hj; exact Mem.cell_new wr _ _ j u hj
      case c2 => intro u hu; simp at hu; subst hu; rfl
      case c3 => unfold maxLen; omega
      case c4 => omega
      case c5 => simp; omega
      intro v' w1 hown1 hgrow _
      have hB1 : Below W.heap.size W w1 := (hB.alloc hsz _).grown hgrow (by simp; omega) (fun g hg => (HO.out.lt g hg).1)
      have H1 := Lib.hid hown1
      clear hown1 hgrow
      go_wp2
      go_roundw
      case rel => exact ⟨k + 1, by omega, by go_num, by rw [firsts_hit _ k rfl]; exact OwnInts.next H1.out, hB1⟩
      case measure => simp [intOf]; omega
    · have E := Lib.hid (show k = 3 by omega)
      rw [E.out] at hO hl
      obtain ⟨a1, c1, g1, rfl, hg1, hr1⟩ := hO.at
      have R1 := Lib.hid hr1
      have HT1 := Lib.hid (HT.out.keeps hB)
      have hsz1 := HT1.out.1
      have HB1 : Hid (Below w.heap.size w wr) := HB0.out.trans (hB.mono (by have := HSZ.out; omega))
      clear hO hr1 hB
      go_wp2_with fail
      refine (l3Make_any 2 _ _ (firsts (fun _ => true) 3) border_ok_2 (by omega) _ R1.out.ints).mono ?_
      rintro e w4 ⟨v, rfl, hO, hb4⟩
      obtain ⟨a4, c4, g4, rfl, _⟩ := hO.atc
      have HO := Lib.hid hO
      obtain ⟨t0, t1, t2, t3, t4⟩ := HT1.out.keeps hb4
      have HB4 : Hid (Below w.heap.size w w4) := HB1.out.trans (hb4.mono (by omega))
      clear hb4 hO
      go_wp2
      refine ret_cx2 w.heap.size rfl rfl rfl (x := .int .i64 2) (y := .slice a4 (maximal (firsts (fun _ => true) 3)).length c4) (by go_simp) (by go_simp) rfl ?_
      exact ⟨_, rfl, (OwnInts.set (OwnInts.set HO.out _ _ _ (by omega)) _ _ _ (by omega)).lower (by omega), (HB4.out.setCell (by simp) _).setCell (by simp) _⟩

theorem full_3 : full 3 = some (3, [7]) := by decide +kernel
theorem made_full_3 : made 3 [7] = some (3, [7]) := by decide +kernel
theorem faces_full_3 : (faces 3 [7]).length = 8 := by decide +kernel
theorem made_border_3 : made 3 ((faces 3 [7]).take 7) = some (3, maximal (firsts (fun _ => true) 7)) := by decide +kernel
theorem border_3 : border 3 = some (3, maximal (firsts (fun _ => true) 7)) := by decide +kernel
theorem border_ok_3 : allOk (firsts (fun _ => true) 7) = true := by decide +kernel

set_option maxRecDepth 100000 in
set_option maxHeartbeats 2000000 in
theorem specBorder_3 (w : World) : Calls Try.prog 65 #[.int .i64 3] w fun e w' =>
      ∃ v, e = .returned (.tuple #[cx 3 v, .bool true]) ∧ OwnInts w' w.heap.size v (maximal (firsts (fun _ => true) 7)) ∧ Below w.heap.size w w' := by
  obtain ⟨i0, hi, hz0, hz1, hz2⟩ := info_parts info_int
  have htwo : Two (w.alloc (Obj.cells #[Value.int IntKind.i64 0, Value.slice none 0 0] 30)) w.heap.size (.int .i64 0) (.slice none 0 0) := Two.new _ _ _ _
  have hb0 : Below w.heap.size w (w.alloc (Obj.cells #[Value.int IntKind.i64 0, Value.slice none 0 0] 30)) := (Below.refl _ _).alloc (Nat.le_refl _) _
  have HT := Lib.hid htwo
  have HB0 := Lib.hid hb0
  clear htwo hb0
  go_enter Try.func65, Try.ntmps65
  go_wp2_with fail
  refine (in_b 3 1 6 true (by decide) _).mono ?_
  rintro e w' ⟨rfl, rfl⟩
  have HO0 := Lib.hid (OwnInts.lit (w.alloc (Obj.cells #[Value.int IntKind.i64 0, Value.slice none 0 0] 30)) (w.heap.size + 1) [] (by simp) (by simp))
  have hszW : (w.alloc (Obj.cells #[Value.int IntKind.i64 0, Value.slice none 0 0] 30)).heap.size = w.heap.size + 1 := by simp
  go_wp2
  generalize (w.alloc (Obj.cells #[Value.int IntKind.i64 0, Value.slice none 0 0] 30)) = W at *
  have HSZ := Lib.hid hszW
  clear hszW
  go_loopw [4, 5] (fun v i wr => ∃ k : Nat, k ≤ 7 ∧ i = .int .i64 (k : Int) ∧ OwnInts wr W.heap.size v (firsts (fun _ => true) k) ∧ Below W.heap.size W wr) (fun _ i _ => 7 - (intOf i).toNat)
  case atStart => exact ⟨0, by omega, rfl, by have h := HO0.out; rw [HSZ.out] at h ⊢; exact h, (Below.refl _ _).alloc (Nat.le_refl _) _⟩
  case round =>
    obtain ⟨k, hk, rfl, hO, hB⟩ := hrel
    have hsz := hB.size
    have hl := firsts_length (fun _ => true) k
    by_cases hlt : k < 7
    · unfold OwnInts at hO
      have HO := Lib.hid hO
      clear hO
      go_wp2_with (at_builtin; refine wpList_append_own _ rfl _ _ 26 rfl W.heap.size 3 i0 (.int .i64 0) 1 8 Try.underlying26 hi hz0 hz1 hz2 rfl (by decide) _ _ _ rfl (HO.out.alloc _) ⟨wr.heap.size, 0, none⟩ 1 1 [.int .i64 (k : Int)] rfl rfl ?c1 ?c2 ?c3 ?c4 ?c5 ?_)
      case c1 => intro j u hj; exact Mem.cell_new wr _ _ j u hj
      case c2 => intro u hu; simp at hu; subst hu; rfl
      case c3 => unfold maxLen; omega
      case c4 => omega
      case c5 => simp; omega
      intro v' w1 hown1 hgrow _
      have hB1 : Below W.heap.size W w1 := (hB.alloc hsz _).grown hgrow (by simp; omega) (fun g hg => (HO.out.lt g hg).1)
      have H1 := Lib.hid hown1
      clear hown1 hgrow
      go_wp2
      go_roundw
      case rel => exact ⟨k + 1, by omega, by go_num, by rw [firsts_hit _ k rfl]; exact OwnInts.next H1.out, hB1⟩
      case measure => simp [intOf]; omega
    · have E := Lib.hid (show k = 7 by omega)
      rw [E.out] at hO hl
      obtain ⟨a1, c1, g1, rfl, hg1, hr1⟩ := hO.at
      have R1 := Lib.hid hr1
      have HT1 := Lib.hid (HT.out.keeps hB)
      have hsz1 := HT1.out.1
      have HB1 : Hid (Below w.heap.size w wr) := HB0.out.trans (hB.mono (by have := HSZ.out; omega))
      clear hO hr1 hB
      go_wp2_with fail
      refine (l3Make_any 3 _ _ (firsts (fun _ => true) 7) border_ok_3 (by omega) _ R1.out.ints).mono ?_
      rintro e w4 ⟨v, rfl, hO, hb4⟩
      obtain ⟨a4, c4, g4, rfl, _⟩ := hO.atc
      have HO := Lib.hid hO
      obtain ⟨t0, t1, t2, t3, t4⟩ := HT1.out.keeps hb4
      have HB4 : Hid (Below w.heap.size w w4) := HB1.out.trans (hb4.mono (by omega))
      clear hb4 hO
      go_wp2
      refine ret_cx2 w.heap.size rfl rfl rfl (x := .int .i64 3) (y := .slice a4 (maximal (firsts (fun _ => true) 7)).length c4) (by go_simp) (by go_simp) rfl ?_
      exact ⟨_, rfl, (OwnInts.set (OwnInts.set HO.out _ _ _ (by omega)) _ _ _ (by omega)).lower (by omega), (HB4.out.setCell (by simp) _).setCell (by simp) _⟩

theorem full_4 : full 4 = some (4, [15]) := by decide +kernel
theorem made_full_4 : made 4 [15] = some (4, [15]) := by decide +kernel
theorem faces_full_4 : (faces 4 [15]).length = 16 := by decide +kernel
theorem made_border_4 : made 4 ((faces 4 [15]).take 15) = some (4, maximal (firsts (fun _ => true) 15)) := by decide +kernel
theorem border_4 : border 4 = some (4, maximal (firsts (fun _ => true) 15)) := by decide +kernel
theorem border_ok_4 : allOk (firsts (fun _ => true) 15) = true := by decide +kernel

set_option maxRecDepth 100000 in
set_option maxHeartbeats 2000000 in
theorem specBorder_4 (w : World) : Calls Try.prog 65 #[.int .i64 4] w fun e w' =>
      ∃ v, e = .returned (.tuple #[cx 4 v, .bool true]) ∧ OwnInts w' w.heap.size v (maximal (firsts (fun _ => true) 15)) ∧ Below w.heap.size w w' := by
  obtain ⟨i0, hi, hz0, hz1, hz2⟩ := info_parts info_int
  have htwo : Two (w.alloc (Obj.cells #[Value.int IntKind.i64 0, Value.slice none 0 0] 30)) w.heap.size (.int .i64 0) (.slice none 0 0) := Two.new _ _ _ _
  have hb0 : Below w.heap.size w (w.alloc (Obj.cells #[Value.int IntKind.i64 0, Value.slice none 0 0] 30)) := (Below.refl _ _).alloc (Nat.le_refl _) _
  have HT := Lib.hid htwo
  have HB0 := Lib.hid hb0
  clear htwo hb0
  go_enter Try.func65, Try.ntmps65
  go_wp2_with fail
  refine (in_b 4 1 6 true (by decide) _).mono ?_
  rintro e w' ⟨rfl, rfl⟩
  have HO0 := Lib.hid (OwnInts.lit (w.alloc (Obj.cells #[Value.int IntKind.i64 0, Value.slice none 0 0] 30)) (w.heap.size + 1) [] (by simp) (by simp))
  have hszW : (w.alloc (Obj.cells #[Value.int IntKind.i64 0, Value.slice none 0 0] 30)).heap.size = w.heap.size + 1 := by simp
  go_wp2
  generalize (w.alloc (Obj.cells #[Value.int IntKind.i64 0, Value.slice none 0 0] 30)) = W at *
  have HSZ := Lib.hid hszW
  clear hszW
  go_loopw [4, 5] (fun v i wr => ∃ k : Nat, k ≤ 15 ∧ i = .int .i64 (k : Int) ∧ OwnInts wr W.heap.size v (firsts (fun _ => true) k) ∧ Below W.heap.size W wr) (fun _ i _ => 15 - (intOf i).toNat)
  case atStart => exact ⟨0, by omega, rfl, by have h := HO0.out; rw [HSZ.out] at h ⊢; exact h, (Below.refl _ _).alloc (Nat.le_refl _) _⟩
  case round =>
    obtain ⟨k, hk, rfl, hO, hB⟩ := hrel
    have hsz := hB.size
    have hl := firsts_length (fun _ => true) k
    by_cases hlt : k < 15
    · unfold OwnInts at hO
      have HO := Lib.hid hO
      clear hO
      go_wp2_with (at_builtin; refine wpList_append_own _ rfl _ _ 26 rfl W.heap.size 3 i0 (.int .i64 0) 1 8 Try.underlying26 hi hz0 hz1 hz2 rfl (by decide) _ _ _ rfl (HO.out.alloc _) ⟨wr.heap.size, 0, none⟩ 1 1 [.int .i64 (k : Int)] rfl rfl ?c1 ?c2 ?c3 ?c4 ?c5 ?_)
      case c1 => intro j u hj; exact Mem.cell_new wr _ _ j u hj
      case c2 => intro u hu; simp at hu; subst hu; rfl
      case c3 => unfold maxLen; omega
      case c4 => omega
      case c5 => simp; omega
      intro v' w1 hown1 hgrow _
      have hB1 : Below W.heap.size W w1 := (hB.alloc hsz _).grown hgrow (by simp; omega) (fun g hg => (HO.out.lt g hg).1)
      have H1 := Lib.hid hown1
      clear hown1 hgrow
      go_wp2
      go_roundw
      case rel => exact ⟨k + 1, by omega, by go_num, by rw [firsts_hit _ k rfl]; exact OwnInts.next H1.out, hB1⟩
      case measure => simp [intOf]; omega
    · have E := Lib.hid (show k = 15 by omega)
      rw [E.out] at hO hl
      obtain ⟨a1, c1, g1, rfl, hg1, hr1⟩ := hO.at
      have R1 := Lib.hid hr1
      have HT1 := Lib.hid (HT.out.keeps hB)
      have hsz1 := HT1.out.1
      have HB1 : Hid (Below w.heap.size w wr) := HB0.out.trans (hB.mono (by have := HSZ.out; omega))
      clear hO hr1 hB
      go_wp2_with fail
      refine (l3Make_any 4 _ _ (firsts (fun _ => true) 15) border_ok_4 (by omega) _ R1.out.ints).mono ?_
      rintro e w4 ⟨v, rfl, hO, hb4⟩
      obtain ⟨a4, c4, g4, rfl, _⟩ := hO.atc
      have HO := Lib.hid hO
      obtain ⟨t0, t1, t2, t3, t4⟩ := HT1.out.keeps hb4
      have HB4 : Hid (Below w.heap.size w w4) := HB1.out.trans (hb4.mono (by omega))
      clear hb4 hO
      go_wp2
      refine ret_cx2 w.heap.size rfl rfl rfl (x := .int .i64 4) (y := .slice a4 (maximal (firsts (fun _ => true) 15)).length c4) (by go_simp) (by go_simp) rfl ?_
      exact ⟨_, rfl, (OwnInts.set (OwnInts.set HO.out _ _ _ (by omega)) _ _ _ (by omega)).lower (by omega), (HB4.out.setCell (by simp) _).setCell (by simp) _⟩

theorem full_5 : full 5 = some (5, [31]) := by decide +kernel
theorem made_full_5 : made 5 [31] = some (5, [31]) := by decide +kernel
theorem faces_full_5 : (faces 5 [31]).length = 32 := by decide +kernel
theorem made_border_5 : made 5 ((faces 5 [31]).take 31) = some (5, maximal (firsts (fun _ => true) 31)) := by decide +kernel
theorem border_5 : border 5 = some (5, maximal (firsts (fun _ => true) 31)) := by decide +kernel
theorem border_ok_5 : allOk (firsts (fun _ => true) 31) = true := by decide +kernel

set_option maxRecDepth 100000 in
set_option maxHeartbeats 2000000 in
theorem specBorder_5 (w : World) : Calls Try.prog 65 #[.int .i64 5] w fun e w' =>
      ∃ v, e = .returned (.tuple #[cx 5 v, .bool true]) ∧ OwnInts w' w.heap.size v (maximal (firsts (fun _ => true) 31)) ∧ Below w.heap.size w w' := by
  obtain ⟨i0, hi, hz0, hz1, hz2⟩ := info_parts info_int
  have htwo : Two (w.alloc (Obj.cells #[Value.int IntKind.i64 0, Value.slice none 0 0] 30)) w.heap.size (.int .i64 0) (.slice none 0 0) := Two.new _ _ _ _
  have hb0 : Below w.heap.size w (w.alloc (Obj.cells #[Value.int IntKind.i64 0, Value.slice none 0 0] 30)) := (Below.refl _ _).alloc (Nat.le_refl _) _
  have HT := Lib.hid htwo
  have HB0 := Lib.hid hb0
  clear htwo hb0
  go_enter Try.func65, Try.ntmps65
  go_wp2_with fail
  refine (in_b 5 1 6 true (by decide) _).mono ?_
  rintro e w' ⟨rfl, rfl⟩
  have HO0 := Lib.hid (OwnInts.lit (w.alloc (Obj.cells #[Value.int IntKind.i64 0, Value.slice none 0 0] 30)) (w.heap.size + 1) [] (by simp) (by simp))
  have hszW : (w.alloc (Obj.cells #[Value.int IntKind.i64 0, Value.slice none 0 0] 30)).heap.size = w.heap.size + 1 := by simp
  go_wp2
  generalize (w.alloc (Obj.cells #[Value.int IntKind.i64 0, Value.slice none 0 0] 30)) = W at *
  have HSZ := Lib.hid hszW
  clear hszW
  go_loopw [4, 5] (fun v i wr => ∃ k : Nat, k ≤ 31 ∧ i = .int .i64 (k : Int) ∧ OwnInts wr W.heap.size v (firsts (fun _ => true) k) ∧ Below W.heap.size W wr) (fun _ i _ => 31 - (intOf i).toNat)
  case atStart => exact ⟨0, by omega, rfl, by have h := HO0.out; rw [HSZ.out] at h ⊢; exact h, (Below.refl _ _).alloc (Nat.le_refl _) _⟩
  case round =>
    obtain ⟨k, hk, rfl, hO, hB⟩ := hrel
    have hsz := hB.size
    have hl := firsts_length (fun _ => true) k
    by_cases hlt : k < 31
    · unfold OwnInts at hO
      have HO := Lib.hid hO
      clear hO
      go_wp2_with (at_builtin; refine wpList_append_own _ rfl _ _ 26 rfl W.heap.size 3 i0 (.int .i64 0) 1 8 Try.underlying26 hi hz0 hz1 hz2 rfl (by decide) _ _ _ rfl (HO.out.alloc _) ⟨wr.heap.size, 0, none⟩ 1 1 [.int .i64 (k : Int)] rfl rfl ?c1 ?c2 ?c3 ?c4 ?c5 ?_)
      case c1 => intro j u hj; exact Mem.cell_new wr _ _ j u hj
      case c2 => intro u hu; simp at hu; subst hu; rfl
      case c3 => unfold maxLen; omega
      case c4 => omega
      case c5 => simp; omega
      intro v' w1 hown1 hgrow _
      have hB1 : Below W.heap.size W w1 := (hB.alloc hsz _).grown hgrow (by simp; omega) (fun g hg => (HO.out.lt g hg).1)
      have H1 := Lib.hid hown1
      clear hown1 hgrow
      go_wp2
      go_roundw
      case rel => exact ⟨k + 1, by omega, by go_num, by rw [firsts_hit _ k rfl]; exact OwnInts.next H1.out, hB1⟩
      case measure => simp [intOf]; omega
    · have E := Lib.hid (show k = 31 by omega)
      rw [E.out] at hO hl
      obtain ⟨a1, c1, g1, rfl, hg1, hr1⟩ := hO.at
      have R1 := Lib.hid hr1
      have HT1 := Lib.hid (HT.out.keeps hB)
      have hsz1 := HT1.out.1
      have HB1 : Hid (Below w.heap.size w wr) := HB0.out.trans (hB.mono (by have := HSZ.out; omega))
      clear hO hr1 hB
      go_wp2_with fail
      refine (l3Make_any 5 _ _ (firsts (fun _ => true) 31) border_ok_5 (by omega) _ R1.out.ints).mono ?_
      rintro e w4 ⟨v, rfl, hO, hb4⟩
      obtain ⟨a4, c4, g4, rfl, _⟩ := hO.atc
      have HO := Lib.hid hO
      obtain ⟨t0, t1, t2, t3, t4⟩ := HT1.out.keeps hb4
      have HB4 : Hid (Below w.heap.size w w4) := HB1.out.trans (hb4.mono (by omega))
      clear hb4 hO
      go_wp2
      refine ret_cx2 w.heap.size rfl rfl rfl (x := .int .i64 5) (y := .slice a4 (maximal (firsts (fun _ => true) 31)).length c4) (by go_simp) (by go_simp) rfl ?_
      exact ⟨_, rfl, (OwnInts.set (OwnInts.set HO.out _ _ _ (by omega)) _ _ _ (by omega)).lower (by omega), (HB4.out.setCell (by simp) _).setCell (by simp) _⟩

theorem full_6 : full 6 = some (6, [63]) := by decide +kernel
theorem made_full_6 : made 6 [63] = some (6, [63]) := by decide +kernel
theorem faces_full_6 : (faces 6 [63]).length = 64 := by decide +kernel
theorem made_border_6 : made 6 ((faces 6 [63]).take 63) = some (6, maximal (firsts (fun _ => true) 63)) := by decide +kernel
theorem border_6 : border 6 = some (6, maximal (firsts (fun _ => true) 63)) := by decide +kernel
theorem border_ok_6 : allOk (firsts (fun _ => true) 63) = true := by decide +kernel

set_option maxRecDepth 100000 in
set_option maxHeartbeats 2000000 in
theorem specBorder_6 (w : World) : Calls Try.prog 65 #[.int .i64 6] w fun e w' =>
      ∃ v, e = .returned (.tuple #[cx 6 v, .bool true]) ∧ OwnInts w' w.heap.size v (maximal (firsts (fun _ => true) 63)) ∧ Below w.heap.size w w' := by
  obtain ⟨i0, hi, hz0, hz1, hz2⟩ := info_parts info_int
  have htwo : Two (w.alloc (Obj.cells #[Value.int IntKind.i64 0, Value.slice none 0 0] 30)) w.heap.size (.int .i64 0) (.slice none 0 0) := Two.new _ _ _ _
  have hb0 : Below w.heap.size w (w.alloc (Obj.cells #[Value.int IntKind.i64 0, Value.slice none 0 0] 30)) := (Below.refl _ _).alloc (Nat.le_refl _) _
  have HT := Lib.hid htwo
  have HB0 := Lib.hid hb0
  clear htwo hb0
  go_enter Try.func65, Try.ntmps65
  go_wp2_with fail
  refine (in_b 6 1 6 true (by decide) _).mono ?_
  rintro e w' ⟨rfl, rfl⟩
  have HO0 := Lib.hid (OwnInts.lit (w.alloc (Obj.cells #[Value.int IntKind.i64 0, Value.slice none 0 0] 30)) (w.heap.size + 1) [] (by simp) (by simp))
  have hszW : (w.alloc (Obj.cells #[Value.int IntKind.i64 0, Value.slice none 0 0] 30)).heap.size = w.heap.size + 1 := by simp
  go_wp2
  generalize (w.alloc (Obj.cells #[Value.int IntKind.i64 0, Value.slice none 0 0] 30)) = W at *
  have HSZ := Lib.hid hszW
  clear hszW
  go_loopw [4, 5] (fun v i wr => ∃ k : Nat, k ≤ 63 ∧ i = .int .i64 (k : Int) ∧ OwnInts wr W.heap.size v (firsts (fun _ => true) k) ∧ Below W.heap.size W wr) (fun _ i _ => 63 - (intOf i).toNat)
  case atStart => exact ⟨0, by omega, rfl, by have h := HO0.out; rw [HSZ.out] at h ⊢; exact h, (Below.refl _ _).alloc (Nat.le_refl _) _⟩
  case round =>
    obtain ⟨k, hk, rfl, hO, hB⟩ := hrel
    have hsz := hB.size
    have hl := firsts_length (fun _ => true) k
    by_cases hlt : k < 63
    · unfold OwnInts at hO
      have HO := Lib.hid hO
      clear hO
      go_wp2_with (at_builtin; refine wpList_append_own _ rfl _ _ 26 rfl W.heap.size 3 i0 (.int .i64 0) 1 8 Try.underlying26 hi hz0 hz1 hz2 rfl (by decide) _ _ _ rfl (HO.out.alloc _) ⟨wr.heap.size, 0, none⟩ 1 1 [.int .i64 (k : Int)] rfl rfl ?c1 ?c2 ?c3 ?c4 ?c5 ?_)
      case c1 => intro j u hj; exact Mem.cell_new wr _ _ j u hj
      case c2 => intro u hu; simp at hu; subst hu; rfl
      case c3 => unfold maxLen; omega
      case c4 => omega
      case c5 => simp; omega
      intro v' w1 hown1 hgrow _
      have hB1 : Below W.heap.size W w1 := (hB.alloc hsz _).grown hgrow (by simp; omega) (fun g hg => (HO.out.lt g hg).1)
      have H1 := Lib.hid hown1
      clear hown1 hgrow
      go_wp2
      go_roundw
      case rel => exact ⟨k + 1, by omega, by go_num, by rw [firsts_hit _ k rfl]; exact OwnInts.next H1.out, hB1⟩
      case measure => simp [intOf]; omega
    · have E := Lib.hid (show k = 63 by omega)
      rw [E.out] at hO hl
      obtain ⟨a1, c1, g1, rfl, hg1, hr1⟩ := hO.at
      have R1 := Lib.hid hr1
      have HT1 := Lib.hid (HT.out.keeps hB)
      have hsz1 := HT1.out.1
      have HB1 : Hid (Below w.heap.size w wr) := HB0.out.trans (hB.mono (by have := HSZ.out; omega))
      clear hO hr1 hB
      go_wp2_with fail
      refine (l3Make_any 6 _ _ (firsts (fun _ => true) 63) border_ok_6 (by omega) _ R1.out.ints).mono ?_
      rintro e w4 ⟨v, rfl, hO, hb4⟩
      obtain ⟨a4, c4, g4, rfl, _⟩ := hO.atc
      have HO := Lib.hid hO
      obtain ⟨t0, t1, t2, t3, t4⟩ := HT1.out.keeps hb4
      have HB4 : Hid (Below w.heap.size w w4) := HB1.out.trans (hb4.mono (by omega))
      clear hb4 hO
      go_wp2
      refine ret_cx2 w.heap.size rfl rfl rfl (x := .int .i64 6) (y := .slice a4 (maximal (firsts (fun _ => true) 63)).length c4) (by go_simp) (by go_simp) rfl ?_
      exact ⟨_, rfl, (OwnInts.set (OwnInts.set HO.out _ _ _ (by omega)) _ _ _ (by omega)).lower (by omega), (HB4.out.setCell (by simp) _).setCell (by simp) _⟩

set_option maxRecDepth 100000 in
set_option maxHeartbeats 2000000 in
theorem specBorder_any (n : Int) (w : World) : Calls Try.prog 65 #[.int .i64 n] w fun e w' =>
      ∃ v, e = .returned (.tuple #[cx (oN (border n)) v, .bool (border n).isSome]) ∧ OwnInts w' w.heap.size v (oL (border n)) ∧ Below w.heap.size w w' := by
  cases hn : inB 1 6 n with
  | true =>
    rcases six n hn with rfl | rfl | rfl | rfl | rfl | rfl
    · rw [border_1]; exact specBorder_1 w
    · rw [border_2]; exact specBorder_2 w
    · rw [border_3]; exact specBorder_3 w
    · rw [border_4]; exact specBorder_4 w
    · rw [border_5]; exact specBorder_5 w
    · rw [border_6]; exact specBorder_6 w
  | false =>
    have HN := Lib.hid hn
    rw [border_no hn]
    have htwo : Two (w.alloc (Obj.cells #[Value.int IntKind.i64 0, Value.slice none 0 0] 30)) w.heap.size (.int .i64 0) (.slice none 0 0) := Two.new _ _ _ _
    have hb0 : Below w.heap.size w (w.alloc (Obj.cells #[Value.int IntKind.i64 0, Value.slice none 0 0] 30)) := (Below.refl _ _).alloc (Nat.le_refl _) _
    have HT := Lib.hid htwo
    have HB0 := Lib.hid hb0
    clear hn htwo hb0
    go_enter Try.func65, Try.ntmps65
    go_wp2_with fail
    refine (in_b n 1 6 false HN.out _).mono ?_
    rintro e w1 ⟨rfl, rfl⟩
    obtain ⟨t0, t1, t2, t3, t4⟩ := HT.out
    go_wp2
    refine ret_cx2 w.heap.size rfl rfl rfl (x := .int .i64 0) (y := .slice none 0 0) (by go_simp) (by go_simp) rfl ?_
    exact ⟨_, rfl, OwnInts.nil _ _, by first | exact (HB0.out.setCell (by simp) _).setCell (by simp) _ | exact HB0.out⟩

end Go.Proofs.Ytamoejjkaebhkaa
