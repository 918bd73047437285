/-
  WALKS: the law's own bound on the sizes of complexes.
-/
import Derived.Test.YtmonaiojejbhkaaWCx1
namespace Go.Proofs.Ytmonaiojejbhkaa
open Go.RowKit

/-- What another block's writes leave. -/
theorem Two.far {w w' : World} {b g : Nat} {x y : Value} (h : Two w b x y) (hg : w.grownBy w' (some g)) (hne : b ≠ g) : Two w' b x y := by
  obtain ⟨h1, h2, h3, h4, h5⟩ := h
  have hb := hg.block b h1 (by simpa using hne)
  have := hg.size
  exact ⟨by omega, by rw [World.cell?_of_block (w := w) (w' := w') (a := ⟨b, 0, none⟩) hb]; exact h2, by rw [World.cell?_of_block (w := w) (w' := w') (a := ⟨b, 1, none⟩) hb]; exact h3,
    by rw [World.frozen?_of_block (w := w) (w' := w') (a := ⟨b, 0, none⟩) hb]; exact h4, by rw [World.frozen?_of_block (w := w) (w' := w') (a := ⟨b, 1, none⟩) hb]; exact h5⟩

theorem bdrew1 (w : World) : Below w.heap.size w w.drew := (Below.refl _ _).drew
theorem Two.drew {w : World} {b : Nat} {x y : Value} (h : Two w b x y) : Two w.drew b x y := h
theorem Ints.drew {w : World} {a : Option Addr} {xs : List Int} (h : Ints w a xs) : Ints w.drew a xs := h
theorem below_fresh {w wA : World} (h : Below w.drew.heap.size w.drew wA) : Below w.heap.size w wA := (bdrew1 w).trans h
/-- Out of what is owned: the slice, its room, and a block that is no new one. -/
theorem OwnInts.ata {w : World} {base : Nat} {v : Value} {xs : List Int} (h : OwnInts w base v xs) (hb : base ≤ w.heap.size) :
    ∃ a c g, v = .slice a xs.length c ∧ xs.length ≤ c ∧ base ≤ g ∧ IntsAt w g a xs ∧ (g < w.heap.size ∨ w.heap.size + 5 ≤ g) := by
  unfold OwnInts at h
  rcases h.2 with ⟨hv, h0⟩ | ⟨g, cap, cur, hv, _, _, hcap, _⟩
  · exact ⟨none, 0, w.heap.size + 5, by rw [hv, h0], by omega, by omega, fun j hj => by omega, Or.inr (Nat.le_refl _)⟩
  · subst hv
    obtain ⟨h1, h2⟩ := World.ownsRow.lt h g rfl
    refine ⟨some ⟨g, 0, none⟩, cap, g, rfl, hcap, h1, fun j hj => ⟨rfl, h2, ?_, World.ownsRow.frozenAt h j⟩, Or.inl h2⟩
    rw [World.ownsRow.cellAt h j (by omega), ints_cell xs j hj]

end Go.Proofs.Ytmonaiojejbhkaa
