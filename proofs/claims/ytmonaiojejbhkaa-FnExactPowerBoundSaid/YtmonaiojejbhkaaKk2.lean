/-
  CASCADES AND BOUNDS OF SHADOWS, of no program; counts of complexes of six points are possible ones.
-/
import Derived.Test.YtmonaiojejbhkaaKk1
namespace Go.Proofs.Ytmonaiojejbhkaa.Kk
open Sets Hn

theorem ch_pos : ∀ (n k : Nat), k ≤ n → 1 ≤ ch n k
  | _, 0, _ => by rw [ch_zero]; exact Nat.le_refl _
  | 0, k + 1, h => by omega
  | n + 1, k + 1, h => by rw [ch_next]; have := ch_pos n k (by omega); omega
theorem ch_full : ∀ n : Nat, ch n n = 1
  | 0 => rfl
  | n + 1 => by rw [ch_next, ch_full n, ch_gt n (n + 1) (by omega)]
theorem ch_grow : ∀ (n k : Nat), 1 ≤ k → k ≤ n → n + 1 ≤ ch n k + k
  | 0, k, h1, h2 => by omega
  | n + 1, 0, h1, _ => by omega
  | n + 1, k + 1, _, h2 => by
    rw [ch_next]
    rcases Nat.lt_or_eq_of_le h2 with h | h
    · have h3 := ch_grow n (k + 1) (by omega) (by omega)
      have h4 := ch_pos n k (by omega)
      omega
    · have : k = n := by omega
      subst this
      rw [ch_full]; omega
theorem ch_up (n i : Nat) (h : 1 ≤ i) : ch n i ≤ ch (n + 1) i := by
  cases i with
  | zero => omega
  | succ i => rw [ch_next]; omega
theorem ch_mono {n m i : Nat} (h : 1 ≤ i) (hm : n ≤ m) : ch n i ≤ ch m i := by
  induction m with
  | zero => have : n = 0 := by omega
            subst this; exact Nat.le_refl _
  | succ m ih =>
    rcases Nat.lt_or_eq_of_le hm with e | e
    · exact Nat.le_trans (ih (by omega)) (ch_up m i h)
    · rw [e]; exact Nat.le_refl _

/-- The greatest a for which there are at most m ways. -/
def grF (m i : Nat) : Nat → Nat → Nat
  | 0, a => a
  | f + 1, a => if ch (a + 1) i ≤ m then grF m i f (a + 1) else a
def gr (m i : Nat) : Nat := grF m i 1001 i
theorem grF_spec (m i : Nat) (hi : 1 ≤ i) : ∀ f a, i ≤ a → ch a i ≤ m → m + i < a + f + 2 → i ≤ grF m i f a ∧ a ≤ grF m i f a ∧ ch (grF m i f a) i ≤ m ∧ m < ch (grF m i f a + 1) i
  | 0, a, h1, h2, h3 => ⟨h1, Nat.le_refl _, h2, by have := ch_grow (a + 1) i hi (by omega); show m < ch (a + 1) i; omega⟩
  | f + 1, a, h1, h2, h3 => by
    rw [grF]
    by_cases e : ch (a + 1) i ≤ m
    · rw [if_pos e]
      have := grF_spec m i hi f (a + 1) (by omega) e (by omega)
      exact ⟨this.1, by omega, this.2.2⟩
    · rw [if_neg e]
      exact ⟨h1, Nat.le_refl _, h2, by omega⟩
theorem gr_spec {m i : Nat} (hi : 1 ≤ i) (hm : 1 ≤ m) (hm2 : m ≤ 1000) : i ≤ gr m i ∧ ch (gr m i) i ≤ m ∧ m < ch (gr m i + 1) i := by
  have := grF_spec m i hi 1001 i (Nat.le_refl _) (by rw [ch_full]; exact hm) (by omega)
  exact ⟨this.1, this.2.2⟩
theorem gr_unique {m i a : Nat} (hi : 1 ≤ i) (hm : 1 ≤ m) (hm2 : m ≤ 1000) (h1 : ch a i ≤ m) (h2 : m < ch (a + 1) i) : gr m i = a := by
  obtain ⟨g0, g1, g2⟩ := gr_spec hi hm hm2
  rcases Nat.lt_trichotomy (gr m i) a with h | h | h
  · have := ch_mono hi (show gr m i + 1 ≤ a by omega); omega
  · exact h
  · have := ch_mono hi (show a + 1 ≤ gr m i by omega); omega

/-- CascadeOf. -/
def casc : Nat → Nat → List Nat
  | 0, _ => []
  | i + 1, m => if m = 0 then [] else gr m (i + 1) :: casc i (m - ch (gr m (i + 1)) (i + 1))
/-- ShadowBound, and the same with both arguments moved by t. -/
def sh (t : Nat) : Nat → Nat → Nat
  | 0, _ => 0
  | i + 1, m => if m = 0 then 0 else ch (gr m (i + 1) + t) (i + 2 * t) + sh t i (m - ch (gr m (i + 1)) (i + 1))
theorem casc_zero (k : Nat) : casc k 0 = [] := by cases k <;> rfl
theorem casc_le : ∀ (k m : Nat), (casc k m).length ≤ k
  | 0, _ => by simp [casc]
  | k + 1, m => by
    rw [casc]; split
    · simp
    · rw [List.length_cons]; have := casc_le k (m - ch (gr m (k + 1)) (k + 1)); omega
/-- The sum of the first j terms over a list. -/
def sumT (f : Nat → Nat → Nat) (L : List Nat) : Nat → Nat
  | 0 => 0
  | j + 1 => sumT f L j + f j (L.getD j 0)
theorem sumT_cons (f : Nat → Nat → Nat) (a : Nat) (L : List Nat) : ∀ j, sumT f (a :: L) (j + 1) = f 0 a + sumT (fun j x => f (j + 1) x) L j
  | 0 => by simp [sumT]
  | j + 1 => by rw [sumT, sumT_cons f a L j, sumT]; simp only [List.getD_cons_succ]; omega
theorem sumT_congr {f g : Nat → Nat → Nat} {L : List Nat} : ∀ {n : Nat}, (∀ j, j < n → f j (L.getD j 0) = g j (L.getD j 0)) → sumT f L n = sumT g L n
  | 0, _ => rfl
  | n + 1, h => by rw [sumT, sumT, sumT_congr (n := n) (fun j hj => h j (by omega)), h n (by omega)]
theorem sh_sum (t : Nat) : ∀ (k m : Nat), sumT (fun j x => ch (x + t) (k - 1 - j + 2 * t)) (casc k m) (casc k m).length = sh t k m
  | 0, _ => rfl
  | k + 1, m => by
    rw [casc, sh]
    by_cases e : m = 0
    · rw [if_pos e, if_pos e]; rfl
    · rw [if_neg e, if_neg e, List.length_cons, sumT_cons, ← sh_sum t k]
      congr 1
      apply sumT_congr
      intro j hj
      show ch _ (k + 1 - 1 - (j + 1) + 2 * t) = _
      rw [show k + 1 - 1 - (j + 1) = k - 1 - j by omega]
theorem casc_sum : ∀ (k m : Nat), 1 ≤ k → m ≤ 1000 → sumT (fun j x => ch x (k - j)) (casc k m) (casc k m).length = m
  | 0, _, h, _ => by omega
  | k + 1, m, _, hm => by
    rw [casc]
    by_cases e : m = 0
    · rw [if_pos e, e]; rfl
    · rw [if_neg e, List.length_cons, sumT_cons]
      obtain ⟨g0, g1, g2⟩ := gr_spec (m := m) (i := k + 1) (by omega) (by omega) hm
      cases k with
      | zero =>
        have c1 : ∀ n, ch n 1 = n := fun n => by
          induction n with
          | zero => rfl
          | succ n ih => rw [ch_next, ch_zero, ih]; omega
        rw [c1] at g1 g2
        have e1 : gr m (0 + 1) = m := by omega
        rw [e1]
        show ch m 1 + 0 = m
        rw [c1]; rfl
      | succ k =>
        have ih := casc_sum (k + 1) (m - ch (gr m (k + 1 + 1)) (k + 1 + 1)) (by omega) (by omega)
        have e2 : sumT (fun j x => ch x (k + 1 + 1 - (j + 1))) (casc (k + 1) (m - ch (gr m (k + 1 + 1)) (k + 1 + 1))) (casc (k + 1) (m - ch (gr m (k + 1 + 1)) (k + 1 + 1))).length = sumT (fun j x => ch x (k + 1 - j)) (casc (k + 1) (m - ch (gr m (k + 1 + 1)) (k + 1 + 1))) (casc (k + 1) (m - ch (gr m (k + 1 + 1)) (k + 1 + 1))).length := by
          apply sumT_congr
          intro j _
          rw [show k + 1 + 1 - (j + 1) = k + 1 - j by omega]
        rw [e2, ih]
        show ch (gr m (k + 1 + 1)) (k + 1 + 1 - 0) + _ = m
        rw [Nat.sub_zero]; omega
/-- What is taken: at least i, and less than what was taken before. -/
theorem casc_at : ∀ (k m j : Nat), m ≤ 1000 → j < (casc k m).length → k - j ≤ (casc k m).getD j 0 ∧ (0 < j → (casc k m).getD j 0 < (casc k m).getD (j - 1) 0)
  | 0, _, j, _, h => by simp [casc] at h
  | k + 1, m, j, hm, h => by
    rw [casc] at h ⊢
    by_cases e : m = 0
    · rw [if_pos e] at h; simp at h
    · rw [if_neg e] at h ⊢
      obtain ⟨g0, g1, g2⟩ := gr_spec (m := m) (i := k + 1) (by omega) (by omega) hm
      cases j with
      | zero => exact ⟨by simpa using g0, fun h => by omega⟩
      | succ j =>
        rw [List.length_cons] at h
        have ih := casc_at k (m - ch (gr m (k + 1)) (k + 1)) j (by omega) (by omega)
        refine ⟨by rw [List.getD_cons_succ, show k + 1 - (j + 1) = k - j by omega]; exact ih.1, fun _ => ?_⟩
        rw [List.getD_cons_succ]
        cases j with
        | zero =>
          show (casc k _).getD 0 0 < gr m (k + 1)
          cases k with
          | zero => simp [casc] at h
          | succ k =>
            rw [casc] at h ⊢
            by_cases e2 : m - ch (gr m (k + 1 + 1)) (k + 1 + 1) = 0
            · rw [if_pos e2] at h; simp at h
            · rw [if_neg e2]
              obtain ⟨q0, q1, q2⟩ := gr_spec (m := m - ch (gr m (k + 1 + 1)) (k + 1 + 1)) (i := k + 1) (by omega) (by omega) (by omega)
              rw [ch_next] at g2
              show gr _ (k + 1) < gr m (k + 1 + 1)
              rcases Nat.lt_or_ge (gr (m - ch (gr m (k + 1 + 1)) (k + 1 + 1)) (k + 1)) (gr m (k + 1 + 1)) with h | h
              · exact h
              · have := ch_mono (i := k + 1) (by omega) h; omega
        | succ j => exact ih.2 (by omega)
/-- All of it is at most 45 if k is at least 2. -/
theorem big46 : ∀ i : Fin 7, 2 ≤ i.val → 1001 ≤ (line 46).getD i.val 0 := by decide +kernel
theorem casc_small (k m j : Nat) (hk : 2 ≤ k) (hk6 : k ≤ 6) (hm : m ≤ 1000) (hj : j < (casc k m).length) : (casc k m).getD j 0 ≤ 45 := by
  have h0 : (casc k m).getD 0 0 ≤ 45 := by
    cases k with
    | zero => omega
    | succ k =>
      rw [casc]
      by_cases e : m = 0
      · rw [if_pos e]; decide
      · rw [if_neg e]
        obtain ⟨g0, g1, g2⟩ := gr_spec (m := m) (i := k + 1) (by omega) (by omega) hm
        show gr m (k + 1) ≤ 45
        rcases Nat.lt_or_ge 45 (gr m (k + 1)) with h | h
        · exfalso
          have h1 := big46 ⟨k + 1, by omega⟩ hk
          have h1 : 1001 ≤ (line 46).getD (k + 1) 0 := h1
          rw [line_get] at h1
          have h2 := ch_mono (i := k + 1) (by omega) (show 46 ≤ gr m (k + 1) by omega)
          omega
        · exact h
  have : ∀ j, j < (casc k m).length → (casc k m).getD j 0 ≤ (casc k m).getD 0 0 := by
    intro j
    induction j with
    | zero => intro _; exact Nat.le_refl _
    | succ j ih =>
      intro h
      have h1 := (casc_at k m (j + 1) hm h).2 (by omega)
      have h2 := ih (by omega)
      simp only [Nat.add_sub_cancel] at h1
      omega
  exact Nat.le_trans (this j hj) h0

end Go.Proofs.Ytmonaiojejbhkaa.Kk
