/-
  MEMORY: a slice in a block of its own, whatever the block's type.
-/
import Derived.Test.YtenpcjmhlnalcaaJg1
namespace Go.Proofs.Ytenpcjmhlnalcaa
open Go.RowKit

/-! ### a slice in a block of its own, whatever the block -/

/-- A slice value that reads as xs, in a block from base on; its room. -/
def HasInts (w : World) (base : Nat) (v : Value) (xs : List Int) : Prop :=
  ∃ a c g, v = .slice a xs.length c ∧ xs.length ≤ c ∧ base ≤ g ∧ IntsAt w g a xs ∧ (g < w.heap.size ∨ w.heap.size + 5 ≤ g)
theorem OwnInts.has {w : World} {base : Nat} {v : Value} {xs : List Int} (h : OwnInts w base v xs) (hb : base ≤ w.heap.size) : HasInts w base v xs := OwnInts.ata h hb
theorem HasInts.ata {w : World} {base : Nat} {v : Value} {xs : List Int} (h : HasInts w base v xs) (_ : base ≤ w.heap.size) :
    ∃ a c g, v = .slice a xs.length c ∧ xs.length ≤ c ∧ base ≤ g ∧ IntsAt w g a xs ∧ (g < w.heap.size ∨ w.heap.size + 5 ≤ g) := h
theorem HasInts.lower {w : World} {base b : Nat} {v : Value} {xs : List Int} (h : HasInts w base v xs) (hb : b ≤ base) : HasInts w b v xs := by
  obtain ⟨a, c, g, h1, h2, h3, h4⟩ := h
  exact ⟨a, c, g, h1, h2, by omega, h4⟩
theorem HasInts.nil (w : World) (base : Nat) (h : base ≤ w.heap.size) : HasInts w base (.slice none 0 0) [] :=
  ⟨none, 0, w.heap.size + 5, rfl, Nat.le_refl _, by omega, fun j hj => absurd hj (Nat.not_lt_zero _), Or.inr (Nat.le_refl _)⟩

theorem own_has {f : FuncId} {args : Array Value} {w : World} {L : List Int} (h : Calls Try.prog f args w fun e w' => ∃ v, e = .returned v ∧ OwnInts w' w.heap.size v L ∧ Below w.heap.size w w') :
    Calls Try.prog f args w fun e w' => ∃ v, e = .returned v ∧ HasInts w' w.heap.size v L ∧ Below w.heap.size w w' :=
  h.mono fun _ _ ⟨v, he, ho, hb⟩ => ⟨v, he, ho.has hb.size, hb⟩

end Go.Proofs.Ytenpcjmhlnalcaa
