/-
  TEXTS of one claim, put together: WDrawCx6, WDrawCx7, WDrawCx8, WHlD1.
-/
import Derived.Test.YtenpcjmhlnalcaaGreatJg20
import Derived.Test.YtenpcjmhlnalcaaGreatJg7
import Derived.RegionTactic
import Derived.Test.YtenpcjmhlnalcaaGreatJg12
/-! WALKS: a complex with a set that is often a face is drawn. -/

namespace Go.Proofs.YtenpcjmhlnalcaaGreat
open Go.RowKit
open Sets

end Go.Proofs.YtenpcjmhlnalcaaGreat

/-! WALKS: the draws of chapter 5. -/

namespace Go.Proofs.YtenpcjmhlnalcaaGreat
open Go.RowKit
open Sets

theorem results_cell_cell {fn : Func} {p q : Tmp} {ty ty2 : TypeId} (h : fn.results = #[.cell p ty, .cell q ty2]) (tmps : Array Value) (P : Program) (w : World) :
    (results fn tmps).run P w =
      ((asAddr (tmps.getD p undef)).run P w).andThen fun a w₁ => ((loadVar ty a).run P w₁).andThen fun v w₂ => ((asAddr (tmps.getD q undef)).run P w₂).andThen fun a2 w₃ => ((loadVar ty2 a2).run P w₃).andThen fun v2 w₄ => .ok (.tuple #[v, v2]) w₄ := by
  simp only [results, h]
  simp [Sem.run_bind, Result.andThen]

/-- Two complexes are handed back. -/
theorem ret_cxcx {fn : Func} {p q : Tmp} {R : Ending → World → Prop} {a : Act} {w : World} {x y x2 y2 : Value} (b d : Nat) (h : fn.results = #[.cell p 26, .cell q 26]) (hp : a.tmps.getD p undef = .pointer (some ⟨b, 0, none⟩)) (hq : a.tmps.getD q undef = .pointer (some ⟨d, 0, none⟩))
    (h0 : w.cell? ⟨b, 0, none⟩ = some x) (h1 : w.cell? ⟨b, 1, none⟩ = some y) (g0 : w.cell? ⟨d, 0, none⟩ = some x2) (g1 : w.cell? ⟨d, 1, none⟩ = some y2) (hd : a.defers = []) (hR : R (.returned (.tuple #[.agg #[x, y], .agg #[x2, y2]])) w) : bodyPost Tryz.prog fn R .ret a w :=
  bodyPost_ret (by rw [results_cell_cell h, hp, hq]; simp [asAddr, Result.andThen, cx_load w b x y h0 h1, cx_load w d x2 y2 g0 g1]) hd hR

def Drawn22 (w : World) (e : Ending) (w' : World) : Prop :=
  ∃ (N M : Int) (v u : Value) (xs ys : List Int), e = .returned (.tuple #[cx N v, cx M u]) ∧ xs.length ≤ 449 ∧ ys.length ≤ 449 ∧ OwnInts w' w.heap.size v xs ∧ OwnInts w' w.heap.size u ys ∧ Below w.heap.size w w'

theorem Two.cells {w : World} {b : Nat} {x y : Value} (h : Two w b x y) : b < w.heap.size := h.1

end Go.Proofs.YtenpcjmhlnalcaaGreat

/-! WALKS: the draws of chapter 5, the second part. -/

namespace Go.Proofs.YtenpcjmhlnalcaaGreat
open Go.RowKit
open Sets


end Go.Proofs.YtenpcjmhlnalcaaGreat

/-! WALKS: the draws of chapter 14 (but that with a cone). -/

namespace Go.Proofs.YtenpcjmhlnalcaaGreat
open Go.RowKit
open Sets

set_option maxRecDepth 100000 in
set_option maxHeartbeats 4000000 in
theorem drawParts_any (a : Option Addr) (n c : Nat) (hn : n ≤ 140737488355328) (w : World) (hc : Code w a n) :
    Calls Tryz.prog 9 #[.slice a n c] w fun e w' => Drawn1 w e w' := by
  have hb0 : Below w.heap.size w (w.alloc (.cells #[.int .i64 0, .slice none 0 0] 26)) := (Below.refl _ _).alloc (Nat.le_refl _) _
  have HC0 := Lib.hid (hc.keeps hb0)
  have HB0 := Lib.hid hb0
  have HT0 := Lib.hid (Two.new w (.int .i64 0) (.slice none 0 0) 26)
  clear hc hb0
  go_enter Tryz.func9, Tryz.ntmps9
  go_wp2_with fail
  refine (new_any a n c hn _ HC0.out).mono ?_
  rintro e w1 ⟨rfl, hcur, hz1, hb1⟩
  simp only [World.size_alloc] at hcur hz1
  have K1 := Lib.hid hcur
  have B1 : Hid (Below w.heap.size w w1) := HB0.out.trans (hb1.mono (by simp))
  have T1 := Lib.hid (Two.keeps HT0.out hb1)
  clear hcur hb1 HC0 HB0 HT0
  go_wp2_with fail
  refine (l3Bent_any a n c hn (w.heap.size + 1) w1 hz1 K1.out).mono ?_
  rintro e w2 ⟨N, v, xs, rfl, hl, hO, hK, hG⟩
  obtain ⟨a5, c5, g5, rfl, hc5, hg5, hr5, _⟩ := OwnInts.ata hO hG.size
  have O2 := Lib.hid (OwnInts.lower hO (show w.heap.size + 1 ≤ w1.heap.size by omega))
  have B2 : Hid (Below w.heap.size w w2) := B1.out.trans (Mem.below_of_but hG (by omega) (by omega))
  obtain ⟨t0, t1, t2, t3, t4⟩ := Two.far T1.out hG (by omega)
  clear hO hK hG hr5 K1 T1 B1
  go_wp2
  refine ret_cx w.heap.size rfl rfl (x := .int .i64 N) (y := .slice a5 xs.length c5) (by go_simp) (by go_simp) rfl ?_
  exact ⟨N, _, xs, rfl, hl, (OwnInts.set (OwnInts.set O2.out _ _ _ (by omega)) _ _ _ (by omega)).lower (by omega), (B2.out.setCell (by simp) _).setCell (by simp) _⟩

end Go.Proofs.YtenpcjmhlnalcaaGreat
