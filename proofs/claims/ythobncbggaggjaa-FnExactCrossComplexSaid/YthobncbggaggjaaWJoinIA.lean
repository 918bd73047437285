/-
  WALKS of chapter 6 by impl: CrossComplex.
-/
import Derived.Test.YthobncbggaggjaaWJoinI9
import Derived.Test.YthobncbggaggjaaWJoinS5
namespace Go.Proofs.Ythobncbggaggjaa
open Go.RowKit
open Sets Lin Hom Join

theorem cross_all1 (a : Option Addr) (c : Nat) : allO [(2, a, c, [1, 2])] = crossO 1 := by
  show (if ((isC 2 [1, 2] && true) && decide (((0 : Int) + 2) ≤ 6)) = true then made ((0 : Int) + 2) (pairs 0 ([0]) [1, 2]) else none) = _
  decide +kernel
theorem cross_all2 (a : Option Addr) (c : Nat) : allO [(2, a, c, [1, 2]), (2, a, c, [1, 2])] = crossO 2 := by
  show (if ((isC 2 [1, 2] && (isC 2 [1, 2] && true)) && decide ((((0 : Int) + 2) + 2) ≤ 6)) = true then made (((0 : Int) + 2) + 2) (pairs 2 (pairs 0 ([0]) [1, 2]) [1, 2]) else none) = _
  decide +kernel
theorem cross_all3 (a : Option Addr) (c : Nat) : allO [(2, a, c, [1, 2]), (2, a, c, [1, 2]), (2, a, c, [1, 2])] = crossO 3 := by
  show (if ((isC 2 [1, 2] && (isC 2 [1, 2] && (isC 2 [1, 2] && true))) && decide (((((0 : Int) + 2) + 2) + 2) ≤ 6)) = true then made ((((0 : Int) + 2) + 2) + 2) (pairs 4 (pairs 2 (pairs 0 ([0]) [1, 2]) [1, 2]) [1, 2]) else none) = _
  decide +kernel

theorem parts_rep {w : World} {b : Nat} {a : Option Addr} {c k : Nat} {row : Array Value} (ps : List Pt) (hp : ps = List.replicate k (2, a, c, [1, 2])) (hr : row = (List.replicate k [Value.int .i64 2, Value.slice a 2 c]).flatten.toArray) (h : w.heap[b]? = some (.cells row 26 (0, 0))) (hc : 2 ≤ c) (hi : Ints w a [1, 2]) : PartsAt w b ps := fun j hj => by
  rw [hp, List.length_replicate] at hj
  have hcell : ∀ i u, row[i]? = some u → w.cell? ⟨b, i, none⟩ = some u := fun i u hu => by simp [World.cell?, h, hu]
  have hfl : ∀ k j : Nat, j < k → ((List.replicate k [Value.int .i64 2, Value.slice a 2 c]).flatten)[j * 2]? = some (.int .i64 2) ∧ ((List.replicate k [Value.int .i64 2, Value.slice a 2 c]).flatten)[j * 2 + 1]? = some (.slice a 2 c) := by
    intro k
    induction k with
    | zero => intro j hj; exact absurd hj (Nat.not_lt_zero _)
    | succ k ih =>
      intro j hj
      rw [List.replicate_succ, List.flatten_cons]
      cases j with
      | zero => exact ⟨rfl, rfl⟩
      | succ j =>
        obtain ⟨h1, h2⟩ := ih j (by omega)
        rw [show (j + 1) * 2 = j * 2 + 2 by omega, show j * 2 + 2 + 1 = (j * 2 + 1) + 2 by omega]
        exact ⟨h1, h2⟩
  obtain ⟨h1, h2⟩ := hfl k j hj
  refine ⟨2, a, c, [1, 2], ?_, hcell _ _ (by rw [hr]; simpa using h1), hcell _ _ (by rw [hr]; simpa using h2), hi, hc, by decide⟩
  rw [hp, List.getD, List.getElem?_replicate, if_pos hj]; rfl

set_option maxRecDepth 100000 in
set_option maxHeartbeats 4000000 in
theorem cross1_any (w : World) :
    Calls Try.prog 24 #[.int .i64 1] w fun e w' => ∃ v, e = .returned (.tuple #[cx (oN (crossO 1)) v, .bool (crossO 1).isSome]) ∧ OwnInts w' w.heap.size v (oL (crossO 1)) ∧ Below w.heap.size w w' := by
  have hb0 : Below w.heap.size w (w.alloc (.cells #[.int .i64 0, .slice none 0 0] 26)) := (Below.refl _ _).alloc (Nat.le_refl _) _
  have htr := Two.new w (.int .i64 0) (.slice none 0 0) 26
  have TR := Lib.hid htr
  have HB0 := Lib.hid hb0
  clear hb0 htr
  have HCO := Lib.hid (fun a c => cross_all1 a c)
  generalize crossO 1 = o at HCO ⊢
  go_enter Try.func24, Try.ntmps24
  go_wp2_with fail
  refine (twoPoints_at _).mono ?_
  rintro e V ⟨a, c, rfl, hc2, hi, hb1⟩
  have TR1 := Lib.hid (TR.out.keeps hb1)
  have HB1 : Hid (Below w.heap.size w V) := HB0.out.trans (hb1.mono HB0.out.size)
  have HI := Lib.hid hi
  have hvr := TR1.out.1
  have hvz := HB1.out.size
  clear hb1 hi
  go_wp2_with fail
  refine (repeat1_any 2 a 2 c V).mono ?_
  rintro e w2 ⟨rfl, hg2, hb2⟩
  have HP := Lib.hid (parts_rep (k := 1) ([(2, a, c, [1, 2])]) rfl (by simp [List.replicate, List.flatten]) hg2 hc2 (HI.out.keeps hb2))
  have HB2 := Lib.hid hb2
  clear hg2 hb2
  go_wp2_with fail
  refine (joinAll_any (V.heap.size + 1) 1 ([(2, a, c, [1, 2])]) (by show 1 ≤ 6; decide) w2 HP.out).mono ?_
  rw [HCO.out]
  rintro e w3 ⟨v, rfl, hO, hb3⟩
  obtain ⟨a2, c2, g2, rfl, _⟩ := OwnInts.ata hO hb3.size
  have hz2 := HB2.out.size
  have HB3 := Lib.hid (HB2.out.trans (hb3.mono hz2))
  obtain ⟨r0, r1, r2, r3, r4⟩ := TR1.out.keeps HB3.out
  have HO2 := Lib.hid (hO.lower hz2)
  have HB4 : Hid (Below w.heap.size w w3) := HB1.out.trans (HB3.out.mono hvz)
  clear hO hb3
  go_wp2
  refine ret_cx2 w.heap.size rfl rfl rfl (x := .int .i64 (oN o)) (y := .slice a2 (oL o).length c2) (by go_simp) (by go_simp) rfl ?_
  exact ⟨_, rfl, (OwnInts.set (OwnInts.set HO2.out _ _ _ (by omega)) _ _ _ (by omega)).lower (by omega), (HB4.out.setCell (by dsimp only; omega) _).setCell (by dsimp only; omega) _⟩

set_option maxRecDepth 100000 in
set_option maxHeartbeats 4000000 in
theorem cross2_any (w : World) :
    Calls Try.prog 24 #[.int .i64 2] w fun e w' => ∃ v, e = .returned (.tuple #[cx (oN (crossO 2)) v, .bool (crossO 2).isSome]) ∧ OwnInts w' w.heap.size v (oL (crossO 2)) ∧ Below w.heap.size w w' := by
  have hb0 : Below w.heap.size w (w.alloc (.cells #[.int .i64 0, .slice none 0 0] 26)) := (Below.refl _ _).alloc (Nat.le_refl _) _
  have htr := Two.new w (.int .i64 0) (.slice none 0 0) 26
  have TR := Lib.hid htr
  have HB0 := Lib.hid hb0
  clear hb0 htr
  have HCO := Lib.hid (fun a c => cross_all2 a c)
  generalize crossO 2 = o at HCO ⊢
  go_enter Try.func24, Try.ntmps24
  go_wp2_with fail
  refine (twoPoints_at _).mono ?_
  rintro e V ⟨a, c, rfl, hc2, hi, hb1⟩
  have TR1 := Lib.hid (TR.out.keeps hb1)
  have HB1 : Hid (Below w.heap.size w V) := HB0.out.trans (hb1.mono HB0.out.size)
  have HI := Lib.hid hi
  have hvr := TR1.out.1
  have hvz := HB1.out.size
  clear hb1 hi
  go_wp2_with fail
  refine (repeat2_any 2 a 2 c V).mono ?_
  rintro e w2 ⟨rfl, hg2, hb2⟩
  have HP := Lib.hid (parts_rep (k := 2) ([(2, a, c, [1, 2]), (2, a, c, [1, 2])]) rfl (by simp [List.replicate, List.flatten]) hg2 hc2 (HI.out.keeps hb2))
  have HB2 := Lib.hid hb2
  clear hg2 hb2
  go_wp2_with fail
  refine (joinAll_any (V.heap.size + 1) 2 ([(2, a, c, [1, 2]), (2, a, c, [1, 2])]) (by show 2 ≤ 6; decide) w2 HP.out).mono ?_
  rw [HCO.out]
  rintro e w3 ⟨v, rfl, hO, hb3⟩
  obtain ⟨a2, c2, g2, rfl, _⟩ := OwnInts.ata hO hb3.size
  have hz2 := HB2.out.size
  have HB3 := Lib.hid (HB2.out.trans (hb3.mono hz2))
  obtain ⟨r0, r1, r2, r3, r4⟩ := TR1.out.keeps HB3.out
  have HO2 := Lib.hid (hO.lower hz2)
  have HB4 : Hid (Below w.heap.size w w3) := HB1.out.trans (HB3.out.mono hvz)
  clear hO hb3
  go_wp2
  refine ret_cx2 w.heap.size rfl rfl rfl (x := .int .i64 (oN o)) (y := .slice a2 (oL o).length c2) (by go_simp) (by go_simp) rfl ?_
  exact ⟨_, rfl, (OwnInts.set (OwnInts.set HO2.out _ _ _ (by omega)) _ _ _ (by omega)).lower (by omega), (HB4.out.setCell (by dsimp only; omega) _).setCell (by dsimp only; omega) _⟩

set_option maxRecDepth 100000 in
set_option maxHeartbeats 4000000 in
theorem cross3_any (w : World) :
    Calls Try.prog 24 #[.int .i64 3] w fun e w' => ∃ v, e = .returned (.tuple #[cx (oN (crossO 3)) v, .bool (crossO 3).isSome]) ∧ OwnInts w' w.heap.size v (oL (crossO 3)) ∧ Below w.heap.size w w' := by
  have hb0 : Below w.heap.size w (w.alloc (.cells #[.int .i64 0, .slice none 0 0] 26)) := (Below.refl _ _).alloc (Nat.le_refl _) _
  have htr := Two.new w (.int .i64 0) (.slice none 0 0) 26
  have TR := Lib.hid htr
  have HB0 := Lib.hid hb0
  clear hb0 htr
  have HCO := Lib.hid (fun a c => cross_all3 a c)
  generalize crossO 3 = o at HCO ⊢
  go_enter Try.func24, Try.ntmps24
  go_wp2_with fail
  refine (twoPoints_at _).mono ?_
  rintro e V ⟨a, c, rfl, hc2, hi, hb1⟩
  have TR1 := Lib.hid (TR.out.keeps hb1)
  have HB1 : Hid (Below w.heap.size w V) := HB0.out.trans (hb1.mono HB0.out.size)
  have HI := Lib.hid hi
  have hvr := TR1.out.1
  have hvz := HB1.out.size
  clear hb1 hi
  go_wp2_with fail
  refine (repeat3_any 2 a 2 c V).mono ?_
  rintro e w2 ⟨rfl, hg2, hb2⟩
  have HP := Lib.hid (parts_rep (k := 3) ([(2, a, c, [1, 2]), (2, a, c, [1, 2]), (2, a, c, [1, 2])]) rfl (by simp [List.replicate, List.flatten]) hg2 hc2 (HI.out.keeps hb2))
  have HB2 := Lib.hid hb2
  clear hg2 hb2
  go_wp2_with fail
  refine (joinAll_any (V.heap.size + 1) 3 ([(2, a, c, [1, 2]), (2, a, c, [1, 2]), (2, a, c, [1, 2])]) (by show 3 ≤ 6; decide) w2 HP.out).mono ?_
  rw [HCO.out]
  rintro e w3 ⟨v, rfl, hO, hb3⟩
  obtain ⟨a2, c2, g2, rfl, _⟩ := OwnInts.ata hO hb3.size
  have hz2 := HB2.out.size
  have HB3 := Lib.hid (HB2.out.trans (hb3.mono hz2))
  obtain ⟨r0, r1, r2, r3, r4⟩ := TR1.out.keeps HB3.out
  have HO2 := Lib.hid (hO.lower hz2)
  have HB4 : Hid (Below w.heap.size w w3) := HB1.out.trans (HB3.out.mono hvz)
  clear hO hb3
  go_wp2
  refine ret_cx2 w.heap.size rfl rfl rfl (x := .int .i64 (oN o)) (y := .slice a2 (oL o).length c2) (by go_simp) (by go_simp) rfl ?_
  exact ⟨_, rfl, (OwnInts.set (OwnInts.set HO2.out _ _ _ (by omega)) _ _ _ (by omega)).lower (by omega), (HB4.out.setCell (by dsimp only; omega) _).setCell (by dsimp only; omega) _⟩

set_option maxRecDepth 100000 in
set_option maxHeartbeats 4000000 in
theorem implCross_any (k : Int) (w : World) :
    Calls Try.prog 24 #[.int .i64 k] w fun e w' => ∃ v, e = .returned (.tuple #[cx (oN (crossO k)) v, .bool (crossO k).isSome]) ∧ OwnInts w' w.heap.size v (oL (crossO k)) ∧ Below w.heap.size w w' := by
  cases hk : inB 1 3 k with
  | true =>
    obtain ⟨h1, h3⟩ := (inB_iff _ _ _).1 hk
    rcases (by omega : k = 1 ∨ k = 2 ∨ k = 3) with rfl | rfl | rfl
    · exact cross1_any w
    · exact cross2_any w
    · exact cross3_any w
  | false =>
    have hnot : ¬ (1 ≤ k ∧ k ≤ 3) := fun h => by rw [(inB_iff _ _ _).2 h] at hk; cases hk
    rw [show crossO k = none from partJ_no hk]
    have htr := Two.new w (.int .i64 0) (.slice none 0 0) 26
    have hb0 : Below w.heap.size w (w.alloc (.cells #[.int .i64 0, .slice none 0 0] 26)) := (Below.refl _ _).alloc (Nat.le_refl _) _
    have HB0 := Lib.hid hb0
    obtain ⟨r0, r1, r2, r3, r4⟩ := htr
    clear hb0 hk
    by_cases h1 : k < 1
    · have h1d : decide (k < 1) = true := by simpa using h1
      go_enter Try.func24, Try.ntmps24
      go_wp2
      refine ret_cx2 w.heap.size rfl rfl rfl (x := .int .i64 0) (y := .slice none 0 0) (by go_simp) (by go_simp) rfl ?_
      exact ⟨_, rfl, OwnInts.nil _ _, by first | exact (HB0.out.setCell (by dsimp only; omega) _).setCell (by dsimp only; omega) _ | exact HB0.out⟩
    · have h1d : decide (k < 1) = false := by simpa using h1
      have h3 : k > 3 := by omega
      have h3d : decide (k > 3) = true := by simpa using h3
      go_enter Try.func24, Try.ntmps24
      go_wp2
      refine ret_cx2 w.heap.size rfl rfl rfl (x := .int .i64 0) (y := .slice none 0 0) (by go_simp) (by go_simp) rfl ?_
      exact ⟨_, rfl, OwnInts.nil _ _, by first | exact (HB0.out.setCell (by dsimp only; omega) _).setCell (by dsimp only; omega) _ | exact HB0.out⟩

end Go.Proofs.Ythobncbggaggjaa
