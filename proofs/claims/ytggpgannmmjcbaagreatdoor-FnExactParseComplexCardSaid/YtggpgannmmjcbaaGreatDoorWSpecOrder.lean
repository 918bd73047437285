/-
  WALKS: spec.OrderSets and spec.SubsetsOf.
-/
import Derived.Test.YtggpgannmmjcbaaGreatDoorWOrder
namespace Go.Proofs.YtggpgannmmjcbaaGreatDoor
open Go.RowKit
open Sets

theorem info_bool : (Tryz.prog.info? 4).map (fun i => (i.zero, i.size, i.bytes)) = some (some (.bool false), 1, 1) := by kernel_rfl
theorem marks_made {w : World} {base g cap : Nat} {e : TypeId} (h : w.ownsRow base e 1 (.slice (some ⟨g, 0, none⟩) 64 cap) 64 (madeCells (Value.bool false).cells (64 * 1)).toList) : Marks w g (inZ []) := fun t ht => by
  rw [h.cellAt t (by omega)]
  show (madeCells #[Value.bool false] 64).toList[t]? = _
  rw [toList_madeCells_one, List.getElem?_replicate, if_pos ht]; rfl

/-- The subsets of s among the first k numbers. -/
def subl (s k : Nat) : List Int := ((List.range k).filter fun t => sub t s).map Int.ofNat
theorem subl_hit (s k : Nat) (h : sub k s = true) : subl s (k + 1) = subl s k ++ [(k : Int)] := by
  unfold subl; rw [List.range_succ, List.filter_append, List.map_append]; simp [h]
theorem subl_miss (s k : Nat) (h : sub k s = false) : subl s (k + 1) = subl s k := by
  unfold subl; rw [List.range_succ, List.filter_append, List.map_append]; simp [h]
theorem subl_length (s k : Nat) : (subl s k).length ≤ k := by
  unfold subl; rw [List.length_map]; exact Nat.le_trans (List.length_filter_le _ _) (by simp)
theorem mem_subl (s k : Nat) (x : Int) : x ∈ subl s k ↔ ∃ t : Nat, x = (t : Int) ∧ t < k ∧ sub t s = true := by
  unfold subl
  rw [List.mem_map]
  constructor
  · rintro ⟨t, ht, rfl⟩
    rw [List.mem_filter, List.mem_range] at ht
    exact ⟨t, rfl, ht.1, ht.2⟩
  · rintro ⟨t, rfl, h1, h2⟩
    exact ⟨t, by rw [List.mem_filter, List.mem_range]; exact ⟨h1, h2⟩, rfl⟩
theorem subl_ok (s : Nat) : allOk (subl s 64) = true := by
  unfold allOk
  rw [List.all_eq_true]
  intro x hx
  obtain ⟨t, rfl, ht, _⟩ := (mem_subl s 64 x).1 hx
  exact (okZ_nat t).2 ht
theorem subl_ord (s : Nat) : ord (inZ (subl s 64)) = ord (fun t => sub t s) := by
  apply ord_congr
  intro t ht
  rw [Bool.eq_iff_iff, inZ_iff, mem_subl]
  constructor
  · rintro ⟨u, hu, _, h⟩
    have : t = u := by omega
    rw [this]; exact h
  · intro h; exact ⟨t, rfl, ht, h⟩
theorem and_sub2 : ∀ a b : Nat, a < 64 → b < 64 → (bits BinOp.and IntKind.i64 (a : Int) (b : Int) == (a : Int)) = sub a b := by
  refine fin64b ?_
  decide +kernel

end Go.Proofs.YtggpgannmmjcbaaGreatDoor
