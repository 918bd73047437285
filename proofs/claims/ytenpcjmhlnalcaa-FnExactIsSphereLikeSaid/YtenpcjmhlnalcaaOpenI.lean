/-
  AN ARGUMENT that is a slice of numbers: what its cells hold.
-/
import Derived.Test.YtenpcjmhlnalcaaJg0
import Derived.ProofKit
import Derived.SizedLaws
namespace Go.Proofs.Ytenpcjmhlnalcaa
open Go.ChangeShapes Go.WideShapes Go.ChangeAt Go.RowKit

theorem open_nums {H : Type} {enc : TypeId × Value → H} {P : Program} {W : World} {base : Nat} {held : Bool} {t e : TypeId} {a : Option Addr} {n c : Nat} {d : DataW H} {p : List MemPlace}
    (ht : P.underlying t = some (.slice e)) (he : P.underlying e = some (.int .i64)) (hc : P.cellsOf e = 1) (h : DataW.Trod enc P W base (fun _ => true) held t (.slice a n c) d p) :
    ∃ xs : List Int, n = xs.length ∧ Ints W a xs ∧ xs.length ≤ 9223372036854775807 := by
  obtain ⟨fuel, hf⟩ := h
  rcases open_ints ht he hc hf with ⟨hcs, _⟩ | ⟨b, len, cap, zs, hcs, _, hl, hm, hz, _, hcell, hws⟩
  · simp [Value.cells] at hcs
    obtain ⟨rfl, rfl, rfl⟩ := hcs
    exact ⟨[], rfl, Ints.nil _ _, by simp⟩
  · simp [Value.cells] at hcs
    obtain ⟨rfl, rfl, rfl⟩ := hcs
    simp only [if_true] at hz
    unfold maxLen at hm
    refine ⟨zs.take n, by rw [List.length_take]; omega, fun j hj => ?_, by rw [List.length_take]; omega⟩
    have hj2 : j < n ∧ j < zs.length := by rw [List.length_take] at hj; omega
    have hc2 := hcell j hj2.2
    obtain ⟨bl, off, spot⟩ := b
    have hspot : spot = none := by simpa [Addr.add] using World.cell?_spot (hcell 0 (by omega))
    subst hspot
    rw [add_plain] at hc2
    refine ⟨bl, off, rfl, ?_⟩
    rw [hc2, List.getD, List.getD, List.getElem?_take, if_pos hj2.1]

end Go.Proofs.Ytenpcjmhlnalcaa
