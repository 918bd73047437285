/-
  WALKS: impl.MaximalSets and impl.MinimalSets.
-/
import Derived.Test.YtmonaiojejbhkaaWOrder
import Derived.Test.YtmonaiojejbhkaaWContains
namespace Go.Proofs.Ytmonaiojejbhkaa
open Go.RowKit
open Sets

/-- What is asked of the comparison: at two sets it answers r and leaves all as it was. -/
def Beat (g : Nat) (lb : Array Value) (r : Nat → Nat → Bool) : Prop :=
  ∀ (W : World) (s t : Nat), s < 64 → t < 64 → Calls Try.prog g (#[.int .i64 (s : Int), .int .i64 (t : Int)] ++ lb) W fun e w' => e = .returned (.bool (r s t)) ∧ W = w'
/-- y is another one and beats x. -/
def beatsQ (r : Nat → Nat → Bool) (x y : Int) : Bool := y != x && r x.toNat y.toNat
theorem unbeaten_any (r : Nat → Nat → Bool) (all : List Int) (x : Int) : unbeaten r all x = !(all.any (beatsQ r x)) := by
  unfold unbeaten beatsQ
  rw [List.not_any_eq_all_not]
/-- All of the list are sets. -/
def Sets64 (L : List Int) : Prop := ∀ j, j < L.length → ∃ s : Nat, L.getD j 0 = (s : Int) ∧ s < 64
theorem order_sets (xs : List Int) : Sets64 (order xs) := fun j hj => by
  have hm : (order xs).getD j 0 ∈ order xs := by rw [List.getD, List.getElem?_eq_getElem hj]; exact List.getElem_mem hj
  obtain ⟨s, h1, h2, _⟩ := order_mem xs _ hm
  exact ⟨s, h1, h2⟩

theorem contains_bel (g : Nat) (lb : Array Value) (q : Int → Bool) (b : Bool) (a : Option Addr) (c : Nat) (zs : List Int) (hb : zs.any q = b) (w : World) (eg : ∀ args w, (callFunc g args).run Try.prog w = .ok (.enter g args) w)
    (hp : Asks g lb q zs w) (hlen : zs.length ≤ 1099511627776) (h : Ints w a zs) :
    Calls Try.prog 53 #[.slice a zs.length c, .func (.func g) #[] lb] w fun e w' => e = .returned (.bool b) ∧ Below w.heap.size w w' :=
  (containsFunc_any g lb q b a c zs hb w eg hp hlen h).mono fun e w' ⟨he, m, hw⟩ => ⟨he, by subst hw; exact Mem.below_drewN w m⟩

end Go.Proofs.Ytmonaiojejbhkaa
