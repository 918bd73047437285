/-
  AN ARGUMENT that is a slice of strings: what its cells hold.
-/
import Derived.Test.YtdfjledphobgdaaStrRow
import Derived.SliceStrings
import Derived.ProofKit
namespace Go.Proofs.Ytdfjledphobgdaa
open Go.ChangeShapes Go.WideShapes Go.ChangeAt Go.RowKit

theorem open_strs {H : Type} {enc : TypeId × Value → H} {P : Program} {W : World} {base : Nat} {held : Bool} {t e : TypeId} {a : Option Addr} {n c : Nat} {d : DataW H} {p : List MemPlace}
    (ht : P.underlying t = some (.slice e)) (he : P.underlying e = some .string) (hc : P.cellsOf e = 1) (h : DataW.Trod enc P W base (fun _ => true) held t (.slice a n c) d p) :
    ∃ xs : List ByteArray, n = xs.length ∧ Strs W a xs ∧ xs.length ≤ 9223372036854775807 ∧ ∀ x ∈ xs, x.size ≤ 9223372036854775807 := by
  obtain ⟨fuel, hf⟩ := h
  rcases open_strings ht he hc hf with ⟨hcs, _⟩ | ⟨b, len, cap, ss, hcs, _, hl, hm, hz, _, hcell, hws⟩
  · simp [Value.cells] at hcs
    obtain ⟨rfl, rfl, rfl⟩ := hcs
    exact ⟨[], rfl, fun j hj => absurd hj (Nat.not_lt_zero _), by simp, fun x hx => by simp at hx⟩
  · simp [Value.cells] at hcs
    obtain ⟨rfl, rfl, rfl⟩ := hcs
    simp only [if_true] at hz
    unfold maxLen at hm hws
    refine ⟨ss.take n, by rw [List.length_take]; omega, fun j hj => ?_, by rw [List.length_take]; omega, fun x hx => hws x (List.mem_of_mem_take hx)⟩
    have hj2 : j < n ∧ j < ss.length := by rw [List.length_take] at hj; omega
    have hc2 := hcell j hj2.2
    obtain ⟨bl, off, spot⟩ := b
    have hspot : spot = none := by simpa [Addr.add] using World.cell?_spot (hcell 0 (by omega))
    subst hspot
    rw [add_plain] at hc2
    refine ⟨bl, off, rfl, ?_⟩
    rw [hc2, List.getD, List.getD, List.getElem?_take, if_pos hj2.1]

end Go.Proofs.Ytdfjledphobgdaa
