/-
  WALKS: impl.OrderSets and impl.SubsetsOf.
-/
import Derived.Test.YtmonaiojejbhkaaWWhere
namespace Go.Proofs.Ytmonaiojejbhkaa
open Go.RowKit
open Sets

theorem inZ_take (xs : List Int) (k : Nat) (h : k < xs.length) (s : Nat) : inZ (xs.take (k + 1)) s = (inZ (xs.take k) s || decide (xs.getD k 0 = (s : Int))) := by
  rw [Bool.eq_iff_iff, inZ_iff, List.take_succ_eq_append_getElem h, List.mem_append, Bool.or_eq_true, inZ_iff, decide_eq_true_iff, List.getD, List.getElem?_eq_getElem h, List.mem_singleton]
  exact ⟨fun h => h.imp_right Eq.symm, fun h => h.imp_right Eq.symm⟩
theorem allOk_at (xs : List Int) (h : allOk xs = true) (k : Nat) (hk : k < xs.length) : okZ (xs.getD k 0) = true := by
  unfold allOk at h
  rw [List.all_eq_true] at h
  rw [List.getD, List.getElem?_eq_getElem hk]
  exact h _ (List.getElem_mem hk)
theorem allOk_not (xs : List Int) (k : Nat) (hk : k < xs.length) (h : okZ (xs.getD k 0) = false) : order xs = [] := by
  unfold order
  rw [if_neg]
  intro e
  rw [allOk_at xs e k hk] at h
  cases h
theorem allOk_all (xs : List Int) (h : ∀ j, j < xs.length → okZ (xs.getD j 0) = true) : allOk xs = true := by
  unfold allOk
  rw [List.all_eq_true]
  intro x hx
  obtain ⟨j, hj, rfl⟩ := List.mem_iff_getElem.1 hx
  have := h j hj
  rwa [List.getD, List.getElem?_eq_getElem hj] at this

/-- Block B holds 64 marks. -/
def Marks (w : World) (B : Nat) (p : Nat → Bool) : Prop := ∀ t, t < 64 → w.cell? ⟨B, t, none⟩ = some (.bool (p t))

theorem marks_new (w : World) (A : Array Value) (ty : TypeId) (h : A = Array.replicate 64 (Value.bool false)) : Marks (w.alloc (.cells A ty)) w.heap.size (inZ []) := fun t ht => by
  rw [World.cell?_alloc_new, h, Array.getElem?_replicate, if_pos ht]; rfl
theorem free_new (w : World) (A : Array Value) (ty : TypeId) : ∀ t, (w.alloc (.cells A ty)).frozen? ⟨w.heap.size, t, none⟩ = false := fun _ => World.frozen?_alloc_at _ _ _ _ rfl
theorem marks_set {w : World} {B : Nat} (xs : List Int) (k s : Nat) (hk : k < xs.length) (hs : s < 64) (e : xs.getD k 0 = (s : Int)) (h : Marks w B (inZ (xs.take k))) : Marks (w.setCell ⟨B, s, none⟩ (.bool true)) B (inZ (xs.take (k + 1))) := fun t ht => by
  rw [inZ_take xs k hk, e]
  by_cases q : s = t
  · subst q
    rw [World.cell?_setCell_same _ _ _ (h s hs)]; simp
  · rw [World.cell?_setCell_other _ _ _ _ (fun h => q (by injection h with _ h2)), h t ht]
    have : decide ((s : Int) = (t : Int)) = false := by simp; omega
    rw [this, Bool.or_false]

theorem and_sub : ∀ a b : Nat, a < 64 → b < 64 → (bits BinOp.andNot IntKind.i64 (a : Int) (b : Int) == 0) = sub a b := by
  refine fin64b ?_
  decide +kernel

theorem subsets_nat (s : Nat) (h : s < 64) : subsets (s : Int) = ord (fun t => sub t s) := by unfold subsets; rw [if_pos ((okZ_nat s).2 h)]; rfl
theorem subsets_no (x : Int) (h : okZ x = false) : subsets x = [] := by unfold subsets; rw [if_neg (by rw [h]; simp)]

end Go.Proofs.Ytmonaiojejbhkaa
