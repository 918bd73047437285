/-
  AN ARGUMENT that is a complex by value: its number of points and its facets.
-/
import Derived.Test.YtenpcjmhlnalcaaOpenI
import Derived.Test.YtenpcjmhlnalcaaJg1
import Derived.Lib.SmallJoins
namespace Go.Proofs.Ytenpcjmhlnalcaa
open Go.ChangeShapes Go.WideShapes Go.ChangeAt Go.RowKit Go.Joins

theorem open_nums_raw {H : Type} {enc : TypeId × Value → H} {P : Program} {W : World} {base : Nat} {held : Bool} {t e : TypeId} {v : Value} {fuel : Nat} {y : DataW H × List MemPlace}
    (ht : P.underlying t = some (.slice e)) (he : P.underlying e = some (.int .i64)) (hc : P.cellsOf e = 1) (hf : DataW.trod enc P W base (fun _ => true) held fuel t [v] = some y) :
    ∃ (a : Option Addr) (c : Nat) (xs : List Int), v = .slice a xs.length c ∧ Ints W a xs ∧ xs.length ≤ 9223372036854775807 := by
  rcases open_ints ht he hc hf with ⟨hcs, _⟩ | ⟨b, len, cap, zs, hcs, _, hl, hm, hz, _, hcell, hws⟩
  · simp at hcs
    exact ⟨none, 0, [], hcs, Ints.nil _ _, by simp⟩
  · simp at hcs
    simp only [if_true] at hz
    unfold maxLen at hm
    have hlen : (zs.take len).length = len := by rw [List.length_take]; omega
    refine ⟨some b, cap, zs.take len, by rw [hlen]; exact hcs, fun j hj => ?_, by omega⟩
    have hj2 : j < len ∧ j < zs.length := by rw [List.length_take] at hj; omega
    have hc2 := hcell j hj2.2
    obtain ⟨bl, off, spot⟩ := b
    have hspot : spot = none := by simpa [Addr.add] using World.cell?_spot (hcell 0 (by omega))
    subst hspot
    rw [add_plain] at hc2
    refine ⟨bl, off, rfl, ?_⟩
    rw [hc2, List.getD, List.getD, List.getElem?_take, if_pos hj2.1]

set_option maxRecDepth 100000 in
theorem cells_cx : Try.prog.cellsOf 24 = 2 := by kernel_rfl

set_option maxRecDepth 100000 in
theorem open_cx {H : Type} {enc : TypeId × Value → H} {W : World} {base b0 : Nat} {held : Bool} {r : Reach} {v : Value} {d : DataW H} {p : List MemPlace}
    (hv : Value.okWide Try.prog W r b0 24 v) (h : DataW.Trod enc Try.prog W base (fun _ => true) held 24 v d p) :
    ∃ (n : Int) (a : Option Addr) (c : Nat) (xs : List Int), v = cx n (.slice a xs.length c) ∧ Ints W a xs ∧ xs.length ≤ 9223372036854775807 := by
  obtain ⟨c0, c1, y0, y1, m, rfl, _, _, hy0, hy1⟩ := open_agg2 Try.underlying24 (by kernel_rfl) cells_cx hv h
  obtain ⟨n, e0, _, _⟩ := DataW.trod_int Try.underlying3 hy0
  obtain ⟨a, c, xs, rfl, hS, hn⟩ := open_nums_raw Try.underlying22 Try.underlying3 (by kernel_rfl) hy1
  simp at e0
  subst e0
  exact ⟨n, a, c, xs, rfl, hS, hn⟩

end Go.Proofs.Ytenpcjmhlnalcaa
