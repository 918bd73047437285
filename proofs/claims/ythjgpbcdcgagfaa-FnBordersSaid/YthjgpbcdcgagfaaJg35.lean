/-
  TEXTS of one claim, put together: WDrawCx6, WDrawCx7, WDrawCx8.
-/
import Derived.Test.YthjgpbcdcgagfaaJg34
import Derived.Test.YthjgpbcdcgagfaaJg7
import Derived.RegionTactic
/-! WALKS: a complex with a set that is often a face is drawn. -/

namespace Go.Proofs.Ythjgpbcdcgagfaa
open Go.RowKit
open Sets

end Go.Proofs.Ythjgpbcdcgagfaa

/-! WALKS: the draws of chapter 5. -/

namespace Go.Proofs.Ythjgpbcdcgagfaa
open Go.RowKit
open Sets

theorem results_cell_cell {fn : Func} {p q : Tmp} {ty ty2 : TypeId} (h : fn.results = #[.cell p ty, .cell q ty2]) (tmps : Array Value) (P : Program) (w : World) :
    (results fn tmps).run P w =
      ((asAddr (tmps.getD p undef)).run P w).andThen fun a w₁ => ((loadVar ty a).run P w₁).andThen fun v w₂ => ((asAddr (tmps.getD q undef)).run P w₂).andThen fun a2 w₃ => ((loadVar ty2 a2).run P w₃).andThen fun v2 w₄ => .ok (.tuple #[v, v2]) w₄ := by
  simp only [results, h]
  simp [Sem.run_bind, Result.andThen]

/-- Two complexes are handed back. -/
theorem ret_cxcx {fn : Func} {p q : Tmp} {R : Ending → World → Prop} {a : Act} {w : World} {x y x2 y2 : Value} (b d : Nat) (h : fn.results = #[.cell p 26, .cell q 26]) (hp : a.tmps.getD p undef = .pointer (some ⟨b, 0, none⟩)) (hq : a.tmps.getD q undef = .pointer (some ⟨d, 0, none⟩))
    (h0 : w.cell? ⟨b, 0, none⟩ = some x) (h1 : w.cell? ⟨b, 1, none⟩ = some y) (g0 : w.cell? ⟨d, 0, none⟩ = some x2) (g1 : w.cell? ⟨d, 1, none⟩ = some y2) (hd : a.defers = []) (hR : R (.returned (.tuple #[.agg #[x, y], .agg #[x2, y2]])) w) : bodyPost Try.prog fn R .ret a w :=
  bodyPost_ret (by rw [results_cell_cell h, hp, hq]; simp [asAddr, Result.andThen, cx_load w b x y h0 h1, cx_load w d x2 y2 g0 g1]) hd hR

def Drawn22 (w : World) (e : Ending) (w' : World) : Prop :=
  ∃ (N M : Int) (v u : Value) (xs ys : List Int), e = .returned (.tuple #[cx N v, cx M u]) ∧ xs.length ≤ 449 ∧ ys.length ≤ 449 ∧ OwnInts w' w.heap.size v xs ∧ OwnInts w' w.heap.size u ys ∧ Below w.heap.size w w'

theorem Two.cells {w : World} {b : Nat} {x y : Value} (h : Two w b x y) : b < w.heap.size := h.1

end Go.Proofs.Ythjgpbcdcgagfaa

/-! WALKS: the draws of chapter 5, the second part. -/

namespace Go.Proofs.Ythjgpbcdcgagfaa
open Go.RowKit
open Sets

theorem bit_some (b : Bool) (w : World) : Calls Try.prog 52 #[.bool b] w fun e w' => (∃ z : Int, e = .returned (.int .i64 z)) ∧ w = w' :=
  (l1Bit_b b w).mono fun _ _ ⟨h, h2⟩ => ⟨⟨_, h⟩, h2⟩


end Go.Proofs.Ythjgpbcdcgagfaa
