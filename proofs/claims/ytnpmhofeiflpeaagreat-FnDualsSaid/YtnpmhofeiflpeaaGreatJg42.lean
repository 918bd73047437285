/-
  TEXTS of one claim, put together: WHol2, WHol3.
-/
import Derived.Test.YtnpmhofeiflpeaaGreatJg36
/-! WALKS of chapter 14 (spec): holes counted; no holes; like a sphere. -/

namespace Go.Proofs.YtnpmhofeiflpeaaGreat
open Go.RowKit
open Sets Lin

def tot (L : List Int) : Int := L.foldl (fun a x => a + x) 0
theorem tot_take (L : List Int) (k : Nat) (h : k < L.length) : tot (L.take (k + 1)) = tot (L.take k) + L.getD k 0 := by
  unfold tot
  rw [List.take_add_one, List.foldl_append]
  simp [List.getD, List.getElem?_eq_getElem h]
theorem tot_bound (L : List Int) (h : ∀ j, j < L.length → -200 ≤ L.getD j 0 ∧ L.getD j 0 ≤ 200) : ∀ k, k ≤ L.length → -(200 * (k : Int)) ≤ tot (L.take k) ∧ tot (L.take k) ≤ 200 * (k : Int)
  | 0, _ => by simp [tot]
  | k + 1, hk => by
    have ih := tot_bound L h k (by omega)
    have hb := h k (by omega)
    rw [tot_take L k (by omega)]
    omega
theorem tot_zero (L : List Int) (h : ∀ x, x ∈ L → x = 0) : tot L = 0 := by
  unfold tot
  have : ∀ (l : List Int) (a : Int), (∀ x, x ∈ l → x = 0) → l.foldl (fun a x => a + x) a = a := by
    intro l
    induction l with
    | nil => intro a _; rfl
    | cons x l ih => intro a hh; rw [List.foldl_cons, hh x (List.mem_cons_self ..), ih _ fun y hy => hh y (List.mem_cons_of_mem _ hy)]; omega
  exact this L 0 h
theorem holF_bound {p : Nat} (hp : p = 2 ∨ p = 3 ∨ p = 5) (n : Int) (xs : List Int) (m j : Nat) (h : j < (holF p (faces n xs) m).length) : -200 ≤ (holF p (faces n xs) m).getD j 0 ∧ (holF p (faces n xs) m).getD j 0 ≤ 200 := by
  rw [holF_length] at h
  have hr : ∀ k, rkF p (faces n xs) k ≤ 64 := fun k => Nat.le_trans (rank_le_cols hp (borM_wide _ _)) (sized_le n xs _)
  have h1 := hr j
  have h2 := hr (j + 1)
  have h3 := Nat.le_trans (cnt_le j (faces n xs)) (faces_le n xs)
  unfold holF
  simp only [List.getD, List.getElem?_map, List.getElem?_range h, Option.map_some, Option.getD_some]
  unfold loR hiR
  split <;> split <;> omega

end Go.Proofs.YtnpmhofeiflpeaaGreat

/-! WALK of chapter 14 (spec): like a sphere, where it is so. -/

namespace Go.Proofs.YtnpmhofeiflpeaaGreat
open Go.RowKit
open Sets Lin

end Go.Proofs.YtnpmhofeiflpeaaGreat
