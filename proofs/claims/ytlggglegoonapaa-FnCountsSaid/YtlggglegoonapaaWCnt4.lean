/-
  WALKS of chapter 4: EulerOf by impl and by spec.
-/
import Derived.Test.YtlggglegoonapaaWCnt3
namespace Go.Proofs.Ytlggglegoonapaa
open Go.RowKit
open Sets

theorem countSizes_lit (a : Option Addr) (c : Nat) (xs : List Int) (hok : allOk xs = true) (hlen : xs.length ≤ 1099511627776) (c0 c1 c2 c3 c4 c5 c6 : Nat) (h0 : cnt 0 xs = c0) (h1 : cnt 1 xs = c1) (h2 : cnt 2 xs = c2) (h3 : cnt 3 xs = c3) (h4 : cnt 4 xs = c4) (h5 : cnt 5 xs = c5) (h6 : cnt 6 xs = c6) (w : World) (h : Ints w a xs) :
    Calls Try.prog 48 #[.slice a xs.length c] w fun e w' => e = .returned (.agg #[.int .i64 (c0 : Int), .int .i64 (c1 : Int), .int .i64 (c2 : Int), .int .i64 (c3 : Int), .int .i64 (c4 : Int), .int .i64 (c5 : Int), .int .i64 (c6 : Int)]) ∧ Below w.heap.size w w' := by
  subst h0 h1 h2 h3 h4 h5 h6
  exact countSizes_any a c xs hok hlen w h

theorem index7 (L : List Int) (hL : L.length = 7) (k : Nat) (hk : k < 7) (w : World) :
    (Instr.index 49 (.agg (icells L).toArray) (.int .i64 (k : Int))).run Try.prog w = .ok (.int .i64 (L.getD k 0)) w := by
  have hu : Try.prog.underlying 49 = some (.array 7 3) := by kernel_rfl
  have hi : Try.prog.underlying 3 = some (.int .i64) := by kernel_rfl
  have h1 : (0 : Int) ≤ (k : Int) ∧ (k : Int) < (7 : Nat) := by omega
  have hc : (icells L)[k]? = some (.int .i64 (L.getD k 0)) := icells_at L k (by omega)
  simp [Instr.index, asIntOf, run_underlying hu, run_underlying hi, part, isAgg, hc, hk, Result.andThen]

set_option maxRecDepth 100000 in
set_option maxHeartbeats 4000000 in
theorem implEuler_any (n : Int) (a : Option Addr) (c : Nat) (xs : List Int) (hcap : xs.length ≤ c) (hlen : xs.length ≤ 1099511627776) (w : World) (h : Ints w a xs) :
    Calls Try.prog 21 #[cx n (.slice a xs.length c)] w fun e w' => e = .returned (.int .i64 (eul (faces n xs))) ∧ Below w.heap.size w w' := by
  have hb0 : Below w.heap.size w (w.alloc (Obj.cells #[Value.int IntKind.i64 n, Value.slice a xs.length c] 26)) := (Below.refl _ _).alloc (Nat.le_refl _) _
  have H := Lib.hid (h.keeps hb0)
  have HB0 := Lib.hid hb0
  clear h hb0
  have hle := faces_le n xs
  have HOK := Lib.hid (faces_ok n xs)
  obtain ⟨L, hL⟩ : ∃ L, faces n xs = L := ⟨_, rfl⟩
  have HLL := Lib.hid hL
  rw [hL] at hle HOK
  obtain ⟨c0, h0⟩ : ∃ c0, cnt 0 L = c0 := ⟨_, rfl⟩
  obtain ⟨c1, h1⟩ : ∃ c1, cnt 1 L = c1 := ⟨_, rfl⟩
  obtain ⟨c2, h2⟩ : ∃ c2, cnt 2 L = c2 := ⟨_, rfl⟩
  obtain ⟨c3, h3⟩ : ∃ c3, cnt 3 L = c3 := ⟨_, rfl⟩
  obtain ⟨c4, h4⟩ : ∃ c4, cnt 4 L = c4 := ⟨_, rfl⟩
  obtain ⟨c5, h5⟩ : ∃ c5, cnt 5 L = c5 := ⟨_, rfl⟩
  obtain ⟨c6, h6⟩ : ∃ c6, cnt 6 L = c6 := ⟨_, rfl⟩
  have l0 : c0 ≤ 64 := by have := cnt_le 0 L; omega
  have l1 : c1 ≤ 64 := by have := cnt_le 1 L; omega
  have l2 : c2 ≤ 64 := by have := cnt_le 2 L; omega
  have l3 : c3 ≤ 64 := by have := cnt_le 3 L; omega
  have l4 : c4 ≤ 64 := by have := cnt_le 4 L; omega
  have l5 : c5 ≤ 64 := by have := cnt_le 5 L; omega
  have l6 : c6 ≤ 64 := by have := cnt_le 6 L; omega
  have HF : Hid (eul (faces n xs) = -(c0 : Int) + c1 - c2 + c3 - c4 + c5 - c6) := by
    have : eul (faces n xs) = -(c0 : Int) + c1 - c2 + c3 - c4 + c5 - c6 := by rw [hL]; unfold eul; rw [h0, h1, h2, h3, h4, h5, h6]
    exact this
  have K0 := Lib.hid h0
  have K1 := Lib.hid h1
  have K2 := Lib.hid h2
  have K3 := Lib.hid h3
  have K4 := Lib.hid h4
  have K5 := Lib.hid h5
  have K6 := Lib.hid h6
  clear hL h0 h1 h2 h3 h4 h5 h6
  go_enter Try.func21, Try.ntmps21
  go_wp2_with fail
  refine (implFaces_any n _ _ xs hcap hlen _ H.out).mono ?_
  rw [HLL.out]
  rintro e w1 ⟨v1, rfl, hO1, hb1⟩
  obtain ⟨a1, d1, g1, rfl, hg1, hr1⟩ := hO1.at
  have HB1 : Hid (Below w.heap.size w w1) := HB0.out.trans (hb1.mono (by simp))
  have HR1 := Lib.hid hr1
  clear hO1 hr1 hb1 hg1
  go_wp2_with fail
  refine (countSizes_lit _ _ L HOK.out (by omega) c0 c1 c2 c3 c4 c5 c6 K0.out K1.out K2.out K3.out K4.out K5.out K6.out _ HR1.out.ints).mono ?_
  rintro e w2 ⟨rfl, hb2⟩
  have HB2 : Hid (Below w.heap.size w w2) := HB1.out.trans (hb2.mono HB1.out.size)
  clear hb2 HR1 HB1 HLL K0 K1 K2 K3 K4 K5 K6 HOK
  have i0 : ∀ w, (Instr.index 49 (.agg #[.int .i64 (c0 : Int), .int .i64 (c1 : Int), .int .i64 (c2 : Int), .int .i64 (c3 : Int), .int .i64 (c4 : Int), .int .i64 (c5 : Int), .int .i64 (c6 : Int)]) (.int .i64 0)).run Try.prog w = .ok (.int .i64 (c0 : Int)) w := fun w => index7 [(c0 : Int), c1, c2, c3, c4, c5, c6] rfl 0 (by decide) w
  have i1 : ∀ w, (Instr.index 49 (.agg #[.int .i64 (c0 : Int), .int .i64 (c1 : Int), .int .i64 (c2 : Int), .int .i64 (c3 : Int), .int .i64 (c4 : Int), .int .i64 (c5 : Int), .int .i64 (c6 : Int)]) (.int .i64 1)).run Try.prog w = .ok (.int .i64 (c1 : Int)) w := fun w => index7 [(c0 : Int), c1, c2, c3, c4, c5, c6] rfl 1 (by decide) w
  have i2 : ∀ w, (Instr.index 49 (.agg #[.int .i64 (c0 : Int), .int .i64 (c1 : Int), .int .i64 (c2 : Int), .int .i64 (c3 : Int), .int .i64 (c4 : Int), .int .i64 (c5 : Int), .int .i64 (c6 : Int)]) (.int .i64 2)).run Try.prog w = .ok (.int .i64 (c2 : Int)) w := fun w => index7 [(c0 : Int), c1, c2, c3, c4, c5, c6] rfl 2 (by decide) w
  have i3 : ∀ w, (Instr.index 49 (.agg #[.int .i64 (c0 : Int), .int .i64 (c1 : Int), .int .i64 (c2 : Int), .int .i64 (c3 : Int), .int .i64 (c4 : Int), .int .i64 (c5 : Int), .int .i64 (c6 : Int)]) (.int .i64 3)).run Try.prog w = .ok (.int .i64 (c3 : Int)) w := fun w => index7 [(c0 : Int), c1, c2, c3, c4, c5, c6] rfl 3 (by decide) w
  have i4 : ∀ w, (Instr.index 49 (.agg #[.int .i64 (c0 : Int), .int .i64 (c1 : Int), .int .i64 (c2 : Int), .int .i64 (c3 : Int), .int .i64 (c4 : Int), .int .i64 (c5 : Int), .int .i64 (c6 : Int)]) (.int .i64 4)).run Try.prog w = .ok (.int .i64 (c4 : Int)) w := fun w => index7 [(c0 : Int), c1, c2, c3, c4, c5, c6] rfl 4 (by decide) w
  have i5 : ∀ w, (Instr.index 49 (.agg #[.int .i64 (c0 : Int), .int .i64 (c1 : Int), .int .i64 (c2 : Int), .int .i64 (c3 : Int), .int .i64 (c4 : Int), .int .i64 (c5 : Int), .int .i64 (c6 : Int)]) (.int .i64 5)).run Try.prog w = .ok (.int .i64 (c5 : Int)) w := fun w => index7 [(c0 : Int), c1, c2, c3, c4, c5, c6] rfl 5 (by decide) w
  have i6 : ∀ w, (Instr.index 49 (.agg #[.int .i64 (c0 : Int), .int .i64 (c1 : Int), .int .i64 (c2 : Int), .int .i64 (c3 : Int), .int .i64 (c4 : Int), .int .i64 (c5 : Int), .int .i64 (c6 : Int)]) (.int .i64 6)).run Try.prog w = .ok (.int .i64 (c6 : Int)) w := fun w => index7 [(c0 : Int), c1, c2, c3, c4, c5, c6] rfl 6 (by decide) w
  go_wp2
  refine wp_loop_rounds 8 ?_
  rw [rounds_succ]
  go_wp2
  rw [rounds_succ]
  go_wp2
  rw [rounds_succ]
  go_wp2
  rw [rounds_succ]
  go_wp2
  rw [rounds_succ]
  go_wp2
  rw [rounds_succ]
  go_wp2
  rw [rounds_succ]
  go_wp2
  rw [rounds_succ]
  go_wp2
  go_ret
  exact ⟨by rw [HF.out]; go_num, HB2.out⟩

end Go.Proofs.Ytlggglegoonapaa
