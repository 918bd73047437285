/-
  WALKS: spec's faces; complexes made of sets, by impl and by spec.
-/
import Derived.Test.YtggpgannmmjcbaaGreatDoorWCx4
namespace Go.Proofs.YtggpgannmmjcbaaGreatDoor
open Go.RowKit
open Sets

theorem any_false {q : Int → Bool} {xs : List Int} (h : ∀ j, j < xs.length → q (xs.getD j 0) = false) : xs.any q = false := any_miss q xs h

/-- The numbers below k that meet p. -/
def firsts (p : Nat → Bool) (k : Nat) : List Int := ((List.range k).filter p).map Int.ofNat
theorem firsts_hit (p : Nat → Bool) (k : Nat) (h : p k = true) : firsts p (k + 1) = firsts p k ++ [(k : Int)] := by
  unfold firsts; rw [List.range_succ, List.filter_append, List.map_append]; simp [h]
theorem firsts_miss (p : Nat → Bool) (k : Nat) (h : p k = false) : firsts p (k + 1) = firsts p k := by
  unfold firsts; rw [List.range_succ, List.filter_append, List.map_append]; simp [h]
theorem firsts_length (p : Nat → Bool) (k : Nat) : (firsts p k).length ≤ k := by
  unfold firsts; rw [List.length_map]; exact Nat.le_trans (List.length_filter_le _ _) (by simp)
theorem mem_firsts (p : Nat → Bool) (k : Nat) (x : Int) : x ∈ firsts p k ↔ ∃ t : Nat, x = (t : Int) ∧ t < k ∧ p t = true := by
  unfold firsts
  rw [List.mem_map]
  constructor
  · rintro ⟨t, ht, rfl⟩
    rw [List.mem_filter, List.mem_range] at ht
    exact ⟨t, rfl, ht.1, ht.2⟩
  · rintro ⟨t, rfl, h1, h2⟩
    exact ⟨t, by rw [List.mem_filter, List.mem_range]; exact ⟨h1, h2⟩, rfl⟩
theorem firsts_ok (p : Nat → Bool) : allOk (firsts p 64) = true := by
  unfold allOk
  rw [List.all_eq_true]
  intro x hx
  obtain ⟨t, rfl, ht, _⟩ := (mem_firsts p 64 x).1 hx
  exact (okZ_nat t).2 ht
theorem firsts_ord (p : Nat → Bool) : ord (inZ (firsts p 64)) = ord p := by
  apply ord_congr
  intro t ht
  rw [Bool.eq_iff_iff, inZ_iff, mem_firsts]
  constructor
  · rintro ⟨u, hu, _, h⟩
    have : t = u := by omega
    rw [this]; exact h
  · intro h; exact ⟨t, rfl, ht, h⟩

end Go.Proofs.YtggpgannmmjcbaaGreatDoor
