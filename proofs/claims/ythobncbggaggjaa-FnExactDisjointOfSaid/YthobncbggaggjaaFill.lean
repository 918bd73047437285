/-
  MEMORY: a box of two cells that is made empty and filled later.
-/
import Derived.Test.YthobncbggaggjaaHas
namespace Go.Proofs.Ythobncbggaggjaa
open Go.RowKit

theorem Two.set0 {w : World} {b : Nat} {x y : Value} (h : Two w b x y) (z : Value) : Two (w.setCell ⟨b, 0, none⟩ z) b z y := by
  obtain ⟨h1, h2, h3, h4, h5⟩ := h
  refine ⟨by simp [World.setCell]; exact h1, World.cell?_setCell_same _ _ _ h2, ?_, by rw [World.frozen?_setCell]; exact h4, by rw [World.frozen?_setCell]; exact h5⟩
  rw [World.cell?_setCell_other _ _ _ _ (by simp)]; exact h3
theorem Two.fill {w : World} {b : Nat} {x y : Value} (h : Two w b x y) (x' y' : Value) : Two ((w.setCell ⟨b, 0, none⟩ x').setCell ⟨b, 1, none⟩ y') b x' y' := (h.set0 x').set1 y'
theorem IntsAt.fill {w : World} {g b : Nat} {a : Option Addr} {xs : List Int} (h : IntsAt w g a xs) (hne : g ≠ b) (x y : Value) : IntsAt ((w.setCell ⟨b, 0, none⟩ x).setCell ⟨b, 1, none⟩ y) g a xs := (h.set hne 0 x).set hne 1 y
theorem Two.z1 {w : World} {b : Nat} {x y : Value} (h : Two w b x y) : w.cell? ⟨b, 0, none⟩ = some x := h.2.1
theorem Two.z2 {w : World} {b : Nat} {x y : Value} (h : Two w b x y) : w.cell? ⟨b, 1, none⟩ = some y := h.2.2.1
theorem Two.z3 {w : World} {b : Nat} {x y : Value} (h : Two w b x y) : w.frozen? ⟨b, 0, none⟩ = false := h.2.2.2.1
theorem Two.z4 {w : World} {b : Nat} {x y : Value} (h : Two w b x y) : w.frozen? ⟨b, 1, none⟩ = false := h.2.2.2.2
theorem some_no {a : Addr} {c : Nat} (h : some a = none) : c = 0 := nomatch h
theorem size_fill (w : World) (p q : Addr) (x y : Value) : ((w.setCell p x).setCell q y).heap.size = w.heap.size := by simp [World.setCell]

end Go.Proofs.Ythobncbggaggjaa
