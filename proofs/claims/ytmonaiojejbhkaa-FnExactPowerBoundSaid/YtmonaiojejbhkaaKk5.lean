/-
  CASCADES, of no program: what the walks need: bounds, lists of numbers.
-/
import Derived.Test.YtmonaiojejbhkaaKk4
namespace Go.Proofs.Ytmonaiojejbhkaa.Kk
open Sets Hn

/-- For these numbers all products stay small. -/
def goodB (n k : Nat) : Prop := n ≤ 46 ∧ k ≤ 7 ∨ n ≤ 1001 ∧ k ≤ 2
theorem line46 : ∀ j : Fin 8, (line 46).getD j.val 0 ≤ 53524680 := by decide +kernel
theorem ch_one (n : Nat) : ch n 1 = n := by
  induction n with
  | zero => rfl
  | succ n ih => rw [ch_next, ch_zero, ih]; omega
theorem ch_two (n : Nat) : ch n 2 * 2 ≤ n * n := by
  rcases Nat.eq_zero_or_pos n with e | e
  · subst e; decide
  · have := ch_step n 1 e
    rw [ch_one] at this
    show ch n (1 + 1) * (1 + 1) ≤ n * n
    rw [this]
    exact Nat.mul_le_mul_left n (Nat.sub_le _ _)
theorem good_at {n k : Nat} (h : goodB n k) (j : Nat) (hj : j ≤ k) : ch n j * n ≤ 4611686018427387904 := by
  rcases h with ⟨h1, h2⟩ | ⟨h1, h2⟩
  · have h3 : ch n j ≤ 53524680 := by
      rcases Nat.eq_zero_or_pos j with e | e
      · rw [e, ch_zero]; decide
      · have := ch_mono (i := j) e h1
        have h4 := line46 ⟨j, by omega⟩
        have h4 : (line 46).getD j 0 ≤ 53524680 := h4
        rw [line_get] at h4
        omega
    exact Nat.le_trans (Nat.mul_le_mul h3 h1) (by decide)
  · have h3 : ch n j ≤ 1002001 := by
      rcases (by omega : j = 0 ∨ j = 1 ∨ j = 2) with rfl | rfl | rfl
      · rw [ch_zero]; decide
      · rw [ch_one]; omega
      · have h4 := ch_two n
        have h5 := Nat.mul_le_mul h1 h1
        omega
    exact Nat.le_trans (Nat.mul_le_mul h3 h1) (by decide)
theorem small_up {i a q : Nat} (h2 : 2 ≤ i) (h6 : i ≤ 6) (h : ch a i ≤ q) (hq : q ≤ 1000) : a ≤ 45 := by
  rcases Nat.lt_or_ge 45 a with e | e
  · exfalso
    have h1 := big46 ⟨i, by omega⟩ h2
    have h1 : 1001 ≤ (line 46).getD i 0 := h1
    rw [line_get] at h1
    have h3 := ch_mono (i := i) (by omega) (show 46 ≤ a by omega)
    omega
  · exact e
theorem good_up (i a q : Nat) (h1 : 1 ≤ i) (h6 : i ≤ 6) (h : ch a i ≤ q) (hq : q ≤ 1000) : goodB (a + 1) i ∧ a ≤ 1000 ∧ goodB a i := by
  rcases Nat.lt_or_ge i 2 with e | e
  · have e1 : i = 1 := by omega
    subst e1
    rw [ch_one] at h
    exact ⟨.inr ⟨by omega, by omega⟩, by omega, .inr ⟨by omega, by omega⟩⟩
  · have := small_up e h6 h hq
    exact ⟨.inl ⟨by omega, by omega⟩, by omega, .inl ⟨by omega, by omega⟩⟩
/-- Numbers as they stand in a slice. -/
def ofN (L : List Nat) : List Int := L.map Int.ofNat
theorem ofN_length (L : List Nat) : (ofN L).length = L.length := List.length_map ..
theorem ofN_snoc (L : List Nat) (a : Nat) : ofN (L ++ [a]) = ofN L ++ [(a : Int)] := by unfold ofN; rw [List.map_append]; rfl
theorem ofN_at (L : List Nat) (j : Nat) (h : j < L.length) : (ofN L).getD j 0 = (L.getD j 0 : Nat) := by
  unfold ofN
  rw [List.getD, List.getElem?_map, List.getD, List.getElem?_eq_getElem h]
  rfl
def fineB (m k : Int) : Bool := decide (0 ≤ m ∧ m ≤ 1000) && decide (1 ≤ k ∧ k ≤ 6)
/-- CascadeOf. -/
def cascZ (m k : Int) : List Int := if fineB m k = true then ofN (casc k.toNat m.toNat) else []
theorem cascZ_le (m k : Int) : (cascZ m k).length ≤ 1048576 := by
  unfold cascZ
  split
  · rename_i h
    unfold fineB at h
    rw [Bool.and_eq_true, decide_eq_true_eq, decide_eq_true_eq] at h
    rw [ofN_length]
    have := casc_le k.toNat m.toNat
    omega
  · simp
theorem casc_one (m j : Nat) (hm : m ≤ 1000) (hj : j < (casc 1 m).length) : (casc 1 m).getD j 0 ≤ 1000 ∧ j = 0 := by
  have hl := casc_le 1 m
  have e : j = 0 := by omega
  subst e
  refine ⟨?_, rfl⟩
  rw [casc] at hj ⊢
  by_cases e : m = 0
  · rw [if_pos e]; decide
  · rw [if_neg e]
    obtain ⟨_, g1, _⟩ := gr_spec (m := m) (i := 1) (by omega) (by omega) hm
    rw [ch_one] at g1
    show gr m 1 ≤ 1000
    omega
theorem casc_good0 (K M : Nat) (h1 : 1 ≤ K) (h6 : K ≤ 6) (hM : M ≤ 1000) (j : Nat) (hj : j < (casc K M).length) : goodB ((casc K M).getD j 0 + 0) (K - 1 - j + 2 * 0) := by
  rcases Nat.lt_or_ge K 2 with e | e
  · have e1 : K = 1 := by omega
    subst e1
    have := casc_one M j hM hj
    exact .inr ⟨by omega, by omega⟩
  · have := casc_small K M j e h6 hM hj
    exact .inl ⟨by omega, by omega⟩
theorem casc_good1 (K M : Nat) (h1 : 1 ≤ K) (h6 : K ≤ 6) (hM : M ≤ 1000) (j : Nat) (hj : j < (casc K M).length) : goodB ((casc K M).getD j 0 + 1) (K - 1 - j + 2 * 1) := by
  rcases Nat.lt_or_ge K 2 with e | e
  · have e1 : K = 1 := by omega
    subst e1
    have := casc_one M j hM hj
    exact .inr ⟨by omega, by omega⟩
  · have := casc_small K M j e h6 hM hj
    exact .inl ⟨by omega, by omega⟩
/-- A sum of few small numbers. -/
theorem sumT_le (f : Nat → Nat → Nat) (L : List Nat) (b : Nat) : ∀ n : Nat, (∀ j, j < n → f j (L.getD j 0) ≤ b) → sumT f L n ≤ b * n
  | 0, _ => Nat.le_refl _
  | n + 1, h => by
    rw [sumT, Nat.mul_succ]
    exact Nat.add_le_add (sumT_le f L b n (fun j hj => h j (by omega))) (h n (by omega))
theorem good_le {n k : Nat} (h : goodB n k) : ch n k ≤ 53524680 := by
  rcases h with ⟨h1, h2⟩ | ⟨h1, h2⟩
  · rcases Nat.eq_zero_or_pos k with e | e
    · rw [e, ch_zero]; decide
    · have := ch_mono (i := k) e h1
      have h4 : (line 46).getD k 0 ≤ 53524680 := line46 ⟨k, by omega⟩
      rw [line_get] at h4
      omega
  · rcases (by omega : k = 0 ∨ k = 1 ∨ k = 2) with rfl | rfl | rfl
    · rw [ch_zero]; decide
    · rw [ch_one]; omega
    · have h4 := ch_two n
      have h5 := Nat.mul_le_mul h1 h1
      omega
theorem casc_sum_le0 (K M : Nat) (h1 : 1 ≤ K) (h6 : K ≤ 6) (hM : M ≤ 1000) (j : Nat) (hj : j ≤ (casc K M).length) : sumT (fun j x => ch (x + 0) (K - 1 - j + 2 * 0)) (casc K M) j ≤ 400000000 := by
  have hl := casc_le K M
  have := sumT_le (fun j x => ch (x + 0) (K - 1 - j + 2 * 0)) (casc K M) 53524680 j (fun i hi => good_le (casc_good0 K M h1 h6 hM i (by omega)))
  omega
theorem casc_sum_le1 (K M : Nat) (h1 : 1 ≤ K) (h6 : K ≤ 6) (hM : M ≤ 1000) (j : Nat) (hj : j ≤ (casc K M).length) : sumT (fun j x => ch (x + 1) (K - 1 - j + 2 * 1)) (casc K M) j ≤ 400000000 := by
  have hl := casc_le K M
  have := sumT_le (fun j x => ch (x + 1) (K - 1 - j + 2 * 1)) (casc K M) 53524680 j (fun i hi => good_le (casc_good1 K M h1 h6 hM i (by omega)))
  omega

/-- The sets with k points below s. -/
def fl (k s : Nat) : List Nat := (List.range s).filter fun t => pc t == k
theorem fl_zero (k : Nat) : fl k 0 = [] := rfl
theorem fl_hit {k s : Nat} (h : pc s = k) : fl k (s + 1) = fl k s ++ [s] := by
  unfold fl; rw [List.range_succ, List.filter_append]; simp [h]
theorem fl_miss {k s : Nat} (h : pc s ≠ k) : fl k (s + 1) = fl k s := by
  unfold fl; rw [List.range_succ, List.filter_append]; simp [h]
theorem fl_take {k s m : Nat} (hk : k ≤ 6) (hs : s ≤ 64) (hl : (fl k s).length ≤ m) (he : s = 64 ∨ (fl k s).length = m) : firstN k m = fl k s := by
  unfold firstN
  rw [lev_is ⟨k, by omega⟩]
  show (fl k 64).take m = fl k s
  rcases he with e | e
  · subst e; exact List.take_of_length_le hl
  · obtain ⟨d, hd⟩ : ∃ d, 64 = s + d := ⟨64 - s, by omega⟩
    have h2 : fl k 64 = fl k s ++ ((List.range d).map (s + ·)).filter (fun t => pc t == k) := by
      rw [hd]
      unfold fl; rw [List.range_add, List.filter_append]
    rw [h2, ← e]
    exact List.take_left ..
theorem fl_le (k : Nat) : ∀ s, (fl k s).length ≤ s := fun s => by
  unfold fl
  exact Nat.le_trans (List.length_filter_le _ _) (by simp)

end Go.Proofs.Ytmonaiojejbhkaa.Kk
