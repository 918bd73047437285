/-
  TEXTS of one claim, put together: WDrawCx6, WDrawCx7.
-/
import Derived.Test.YtcgfioakjmbciaaJg26
import Derived.Test.YtcgfioakjmbciaaJg5
/-! WALKS: a complex with a set that is often a face is drawn. -/

namespace Go.Proofs.Ytcgfioakjmbciaa
open Go.RowKit
open Sets

end Go.Proofs.Ytcgfioakjmbciaa

/-! WALKS: the draws of chapter 5. -/

namespace Go.Proofs.Ytcgfioakjmbciaa
open Go.RowKit
open Sets

theorem results_cell_cell {fn : Func} {p q : Tmp} {ty ty2 : TypeId} (h : fn.results = #[.cell p ty, .cell q ty2]) (tmps : Array Value) (P : Program) (w : World) :
    (results fn tmps).run P w =
      ((asAddr (tmps.getD p undef)).run P w).andThen fun a w₁ => ((loadVar ty a).run P w₁).andThen fun v w₂ => ((asAddr (tmps.getD q undef)).run P w₂).andThen fun a2 w₃ => ((loadVar ty2 a2).run P w₃).andThen fun v2 w₄ => .ok (.tuple #[v, v2]) w₄ := by
  simp only [results, h]
  simp [Sem.run_bind, Result.andThen]

/-- Two complexes are handed back. -/
theorem ret_cxcx {fn : Func} {p q : Tmp} {R : Ending → World → Prop} {a : Act} {w : World} {x y x2 y2 : Value} (b d : Nat) (h : fn.results = #[.cell p 26, .cell q 26]) (hp : a.tmps.getD p undef = .pointer (some ⟨b, 0, none⟩)) (hq : a.tmps.getD q undef = .pointer (some ⟨d, 0, none⟩))
    (h0 : w.cell? ⟨b, 0, none⟩ = some x) (h1 : w.cell? ⟨b, 1, none⟩ = some y) (g0 : w.cell? ⟨d, 0, none⟩ = some x2) (g1 : w.cell? ⟨d, 1, none⟩ = some y2) (hd : a.defers = []) (hR : R (.returned (.tuple #[.agg #[x, y], .agg #[x2, y2]])) w) : bodyPost Try.prog fn R .ret a w :=
  bodyPost_ret (by rw [results_cell_cell h, hp, hq]; simp [asAddr, Result.andThen, cx_load w b x y h0 h1, cx_load w d x2 y2 g0 g1]) hd hR

def Drawn22 (w : World) (e : Ending) (w' : World) : Prop :=
  ∃ (N M : Int) (v u : Value) (xs ys : List Int), e = .returned (.tuple #[cx N v, cx M u]) ∧ xs.length ≤ 449 ∧ ys.length ≤ 449 ∧ OwnInts w' w.heap.size v xs ∧ OwnInts w' w.heap.size u ys ∧ Below w.heap.size w w'

theorem l1Max_any (a b : Int) (w : World) : Calls Try.prog 45 #[.int .i64 a, .int .i64 b] w fun e w' => e = .returned (.int .i64 (if b < a then a else b)) ∧ w = w' := by
  by_cases h : b < a
  · rw [if_pos h]
    go_enter Try.func45, Try.ntmps45
    go_wp2
    go_ret
    exact ⟨rfl, rfl⟩
  · rw [if_neg h]
    go_enter Try.func45, Try.ntmps45
    go_wp2
    go_ret
    exact ⟨rfl, rfl⟩

theorem Two.cells {w : World} {b : Nat} {x y : Value} (h : Two w b x y) : b < w.heap.size := h.1

end Go.Proofs.Ytcgfioakjmbciaa
