/-
  AN ARGUMENT that is a slice of slices of numbers: what its cells hold.
-/
import Derived.Test.YthjgpbcdcgagfaaRaw
import Derived.ProofKit
import Derived.SizedLaws
import Derived.Deep.Matrix
namespace Go.Proofs.Ythjgpbcdcgagfaa
open Go.ChangeShapes Go.WideShapes Go.ChangeAt Go.RowKit Go.Deep

theorem open_mx {H : Type} {enc : TypeId × Value → H} {P : Program} {W : World} {base : Nat} {held : Bool} {t e q : TypeId} {a : Option Addr} {n c : Nat} {d : DataW H} {p : List MemPlace}
    (ht : P.underlying t = some (.slice e)) (he : P.underlying e = some (.slice q)) (hq : P.underlying q = some (.int .i64)) (ce : P.cellsOf e = 1) (cq : P.cellsOf q = 1) (h : DataW.Trod enc P W base (fun _ => true) held t (.slice a n c) d p) :
    ∃ M : Lin.Mat, n = M.length ∧ Raw W a M ∧ M.length ≤ 9223372036854775807 ∧ ∀ i, i < M.length → (Lin.row M i).length ≤ 9223372036854775807 := by
  obtain ⟨fuel, hf⟩ := h
  rcases open_int_rows ht he hq ce cq hf with ⟨hcs, _⟩ | ⟨b, len, cap, A, L, C, Z, hcs, _, hl, hm, _, hr⟩
  · simp [Value.cells] at hcs
    obtain ⟨rfl, rfl, rfl⟩ := hcs
    exact ⟨[], rfl, fun i hi => absurd hi (Nat.not_lt_zero _), by simp, fun i hi => absurd hi (Nat.not_lt_zero _)⟩
  · simp [Value.cells] at hcs
    obtain ⟨rfl, rfl, rfl⟩ := hcs
    unfold maxLen at hm hr
    have hrow : ∀ i, i < n → Lin.row ((List.range n).map fun r => (Z r).take (L r)) i = (Z i).take (L i) := fun i hi => by
      unfold Lin.row; simp [List.getD, hi]
    have hlen : ∀ i, i < n → ((Z i).take (L i)).length = L i := fun i hi => by
      have := hr i (by omega)
      rw [List.length_take]; omega
    refine ⟨(List.range n).map fun r => (Z r).take (L r), by simp, fun i hi => ?_, by simp; omega, fun i hi => ?_⟩
    · have hi2 : i < n := by simpa using hi
      obtain ⟨h1, h2, h3, h4, _, h6, h7⟩ := hr i (by omega)
      rw [hrow i hi2, hlen i hi2]
      obtain ⟨bl, off, spot⟩ := b
      have hspot : spot = none := by simpa [Addr.add] using World.cell?_spot (hr 0 (by omega)).1
      subst hspot
      rw [add_plain] at h1
      refine ⟨bl, off, A i, C i, rfl, h1, fun j hj => ?_⟩
      rw [hlen i hi2] at hj
      cases hA : A i with
      | none => have := h6 hA; omega
      | some a' =>
        obtain ⟨_, h8⟩ := h7 a' hA
        have h9 := h8 j (by omega)
        obtain ⟨bl2, off2, spot2⟩ := a'
        have hspot2 : spot2 = none := by simpa [Addr.add] using World.cell?_spot (h8 0 (by omega))
        subst hspot2
        rw [add_plain] at h9
        refine ⟨bl2, off2, rfl, ?_⟩
        rw [h9, List.getD, List.getD, List.getElem?_take, if_pos hj]
    · have hi2 : i < n := by simpa using hi
      have := hr i (by omega)
      rw [hrow i hi2, hlen i hi2]; omega

end Go.Proofs.Ythjgpbcdcgagfaa
