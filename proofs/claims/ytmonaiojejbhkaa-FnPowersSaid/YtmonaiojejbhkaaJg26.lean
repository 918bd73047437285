/-
  TEXTS of one claim, put together: WDrawCx7, WDrawKk, WDrawH.
-/
import Derived.Test.YtmonaiojejbhkaaJg25
import Derived.Test.YtmonaiojejbhkaaJg7
import Derived.Test.YtmonaiojejbhkaaJg15
import Derived.Test.YtmonaiojejbhkaaJg2
/-! WALKS: the draws of chapter 5. -/

namespace Go.Proofs.Ytmonaiojejbhkaa
open Go.RowKit
open Sets

theorem results_cell_cell {fn : Func} {p q : Tmp} {ty ty2 : TypeId} (h : fn.results = #[.cell p ty, .cell q ty2]) (tmps : Array Value) (P : Program) (w : World) :
    (results fn tmps).run P w =
      ((asAddr (tmps.getD p undef)).run P w).andThen fun a w₁ => ((loadVar ty a).run P w₁).andThen fun v w₂ => ((asAddr (tmps.getD q undef)).run P w₂).andThen fun a2 w₃ => ((loadVar ty2 a2).run P w₃).andThen fun v2 w₄ => .ok (.tuple #[v, v2]) w₄ := by
  simp only [results, h]
  simp [Sem.run_bind, Result.andThen]

/-- Two complexes are handed back. -/
theorem ret_cxcx {fn : Func} {p q : Tmp} {R : Ending → World → Prop} {a : Act} {w : World} {x y x2 y2 : Value} (b d : Nat) (h : fn.results = #[.cell p 33, .cell q 33]) (hp : a.tmps.getD p undef = .pointer (some ⟨b, 0, none⟩)) (hq : a.tmps.getD q undef = .pointer (some ⟨d, 0, none⟩))
    (h0 : w.cell? ⟨b, 0, none⟩ = some x) (h1 : w.cell? ⟨b, 1, none⟩ = some y) (g0 : w.cell? ⟨d, 0, none⟩ = some x2) (g1 : w.cell? ⟨d, 1, none⟩ = some y2) (hd : a.defers = []) (hR : R (.returned (.tuple #[.agg #[x, y], .agg #[x2, y2]])) w) : bodyPost Try.prog fn R .ret a w :=
  bodyPost_ret (by rw [results_cell_cell h, hp, hq]; simp [asAddr, Result.andThen, cx_load w b x y h0 h1, cx_load w d x2 y2 g0 g1]) hd hR

def Drawn22 (w : World) (e : Ending) (w' : World) : Prop :=
  ∃ (N M : Int) (v u : Value) (xs ys : List Int), e = .returned (.tuple #[cx N v, cx M u]) ∧ xs.length ≤ 449 ∧ ys.length ≤ 449 ∧ OwnInts w' w.heap.size v xs ∧ OwnInts w' w.heap.size u ys ∧ Below w.heap.size w w'

theorem Two.cells {w : World} {b : Nat} {x y : Value} (h : Two w b x y) : b < w.heap.size := h.1

end Go.Proofs.Ytmonaiojejbhkaa

/-! WALKS: the draws of chapter 11. -/

namespace Go.Proofs.Ytmonaiojejbhkaa
open Go.RowKit
open Sets Hn

set_option maxRecDepth 100000 in
set_option maxHeartbeats 4000000 in
theorem drawCascade_any (a : Option Addr) (n c : Nat) (hn : n ≤ 140737488355328) (w : World) (hc : Code w a n) :
    Calls Try.prog 36 #[.slice a n c] w fun e w' => ∃ x y : Int, e = .returned (.tuple #[.int .i64 x, .int .i64 y]) ∧ Below w.heap.size w w' := by
  have HC0 := Lib.hid hc
  clear hc
  go_enter Try.func36, Try.ntmps36
  go_wp2_with fail
  refine (new_any a n c hn _ HC0.out).mono ?_
  rintro e w1 ⟨rfl, hcur, hz1, hb1⟩
  have K1 := Lib.hid hcur
  have B1 := Lib.hid hb1
  clear hcur hb1 HC0
  obtain ⟨B, hB⟩ : ∃ B, w.heap.size = B := ⟨_, rfl⟩
  have HBE := Lib.hid hB
  rw [hB] at K1 hz1 ⊢
  have B1 : Hid (Below B w w1) := by
    have := B1.out
    rw [hB] at this
    exact this
  clear hB
  go_wp2_with fail
  refine (below_lit B a n c hn _ 30 rfl (by decide) (by decide) _ K1.out).mono ?_
  rintro e w2 ⟨r1, hr1, rfl, hd⟩
  have K2 := Lib.hid hd.1
  have B2 : Hid (Below B w w2) := B1.out.trans (Mem.below_of_but hd.2 (Nat.le_refl _) (by omega))
  have hz2 : B < w2.heap.size := Nat.lt_of_lt_of_le hz1 hd.2.size
  clear hd K1 B1 hz1
  go_wp2_with fail
  refine (below_lit B a n c hn _ 200 rfl (by decide) (by decide) _ K2.out).mono ?_
  rintro e w3 ⟨r2, hr2, rfl, hd⟩
  have hz3 : B < w3.heap.size := Nat.lt_of_lt_of_le hz2 hd.2.size
  have hba : Below w3.heap.size w3 (w3.alloc (.cells #[.int .i64 (r1 : Int), .int .i64 (r2 : Int), .int .i64 1000, .int .i64 1001, .int .i64 (-1), .int .i64 0] 3)) := (Below.refl _ _).alloc (Nat.le_refl _) _
  have K3 := Lib.hid (hd.1.keeps hz3 hba)
  have B3 : Hid (Below B w (w3.alloc (.cells #[.int .i64 (r1 : Int), .int .i64 (r2 : Int), .int .i64 1000, .int .i64 1001, .int .i64 (-1), .int .i64 0] 3))) := (B2.out.trans (Mem.below_of_but hd.2 (Nat.le_refl _) (by omega))).trans (hba.mono (by omega))
  have HROW := Lib.hid (row_ints w3 [(r1 : Int), (r2 : Int), 1000, 1001, -1, 0] 3)
  clear hd hba K2 B2 hz2
  go_wp2_with fail
  refine (pickInt_any B a n c hn w3.heap.size 0 6 [(r1 : Int), (r2 : Int), 1000, 1001, -1, 0] (by simp) (by simp) _ K3.out (by omega) (by exact HROW.out)).mono ?_
  rintro e w4 ⟨r, hr, rfl, hd⟩
  obtain ⟨z, hz⟩ : ∃ z : Int, ([(r1 : Int), (r2 : Int), 1000, 1001, -1, 0] : List Int).getD r 0 = z := ⟨_, rfl⟩
  rw [hz]
  have K4 := Lib.hid hd.1
  have B4 : Hid (Below B w w4) := B3.out.trans (Mem.below_of_but hd.2 (Nat.le_refl _) (by simp; omega))
  have hz4 : B < w4.heap.size := by have := hd.2.size; simp at this; omega
  clear hd hz hr hr1 hr2 HROW K3 B3 hz3
  go_wp2_with fail
  refine (below_lit B a n c hn _ 8 rfl (by decide) (by decide) _ K4.out).mono ?_
  rintro e w5 ⟨q, hq, rfl, hd⟩
  have B5 : Hid (Below B w w5) := B4.out.trans (Mem.below_of_but hd.2 (Nat.le_refl _) (by omega))
  clear hd K4 B4 hz4
  go_wp2
  go_ret2
  exact ⟨_, _, rfl, by rw [HBE.out]; exact B5.out⟩

end Go.Proofs.Ytmonaiojejbhkaa

/-! WALKS: the draws of chapter 10 (written by gendrawh.py). -/

namespace Go.Proofs.Ytmonaiojejbhkaa
open Go.RowKit
open Sets Hn


theorem five (r1 r2 r : Nat) (h1 : r1 < 12) (h2 : r2 < 62) (h : r < 5) : ∃ z : Int, ([(r1 : Int), (r2 : Int), -1, 61, 60] : List Int).getD r 0 = z ∧ -1 ≤ z ∧ z ≤ 61 := by
  rcases (by omega : r = 0 ∨ r = 1 ∨ r = 2 ∨ r = 3 ∨ r = 4) with rfl | rfl | rfl | rfl | rfl
  · exact ⟨(r1 : Int), rfl, by omega, by omega⟩
  · exact ⟨(r2 : Int), rfl, by omega, by omega⟩
  · exact ⟨-1, rfl, by decide, by decide⟩
  · exact ⟨61, rfl, by decide, by decide⟩
  · exact ⟨60, rfl, by decide, by decide⟩

theorem bit_is (b : Bool) (w : World) : Calls Try.prog 44 #[.bool b] w fun e w' => (∃ z : Nat, z ≤ 1 ∧ e = .returned (.int .i64 (z : Int))) ∧ w = w' :=
  (l1Bit_b b w).mono fun _ _ ⟨h, h2⟩ => ⟨by cases b with
    | true => exact ⟨1, by omega, h⟩
    | false => exact ⟨0, by omega, h⟩, h2⟩

end Go.Proofs.Ytmonaiojejbhkaa
