/-
  COUNTS OF COMPLEXES OF SIX POINTS ARE POSSIBLE ONES, of no program.
-/
import Derived.Test.YtmonaiojejbhkaaKk2
namespace Go.Proofs.Ytmonaiojejbhkaa.Kk
open Sets Hn

/-- ShadowBound (t = 0), PowerBound (t = 1). -/
def boundZ (t : Nat) (m k : Int) : Int := if 0 ≤ m ∧ m ≤ 1000 ∧ 1 ≤ k ∧ k ≤ 6 then (sh t k.toNat m.toNat : Int) else -1
theorem boundZ_in {t m k : Nat} (hm : m ≤ 1000) (h1 : 1 ≤ k) (h6 : k ≤ 6) : boundZ t (m : Int) (k : Int) = (sh t k m : Int) := by
  unfold boundZ; rw [if_pos (by omega)]; rfl
/-- What AreFaceCounts asks at the index k. -/
def stepB (L : List Int) (k : Nat) : Bool :=
  decide (1 ≤ L.getD k 0) && decide (L.getD k 0 ≤ 1000) && (if k = 0 then decide (L.getD 0 0 = 1) else decide (boundZ 0 (L.getD k 0) (k : Int) ≤ L.getD (k - 1) 0))
def countsB (L : List Int) : Bool := decide (1 ≤ L.length) && decide (L.length ≤ 7) && (List.range L.length).all (stepB L)
theorem countsB_step {L : List Int} (h : countsB L = true) (k : Nat) (hk : k < L.length) : stepB L k = true := by
  unfold countsB at h
  rw [Bool.and_eq_true, List.all_eq_true] at h
  exact h.2 k (List.mem_range.2 hk)
theorem countsB_length {L : List Int} (h : countsB L = true) : 1 ≤ L.length ∧ L.length ≤ 7 := by
  unfold countsB at h
  rw [Bool.and_eq_true, Bool.and_eq_true] at h
  exact ⟨of_decide_eq_true h.1.1, of_decide_eq_true h.1.2⟩
theorem stepB_iff (L : List Int) (k : Nat) : stepB L k = true ↔ 1 ≤ L.getD k 0 ∧ L.getD k 0 ≤ 1000 ∧ (k = 0 → L.getD 0 0 = 1) ∧ (0 < k → boundZ 0 (L.getD k 0) (k : Int) ≤ L.getD (k - 1) 0) := by
  unfold stepB
  rw [Bool.and_eq_true, Bool.and_eq_true, decide_eq_true_eq, decide_eq_true_eq]
  by_cases e : k = 0
  · rw [if_pos e, decide_eq_true_eq]
    exact ⟨fun h => ⟨h.1.1, h.1.2, fun _ => h.2, fun h' => by omega⟩, fun h => ⟨⟨h.1, h.2.1⟩, h.2.2.1 e⟩⟩
  · rw [if_neg e, decide_eq_true_eq]
    exact ⟨fun h => ⟨h.1.1, h.1.2, fun h' => absurd h' e, fun _ => h.2⟩, fun h => ⟨⟨h.1, h.2.1⟩, h.2.2.2 (by omega)⟩⟩

/-! ### the bounds, checked -/
theorem c2 : ∀ v : Fin 7, ∀ e : Fin 16, e.val ≤ pmax v.val → sh 0 2 e.val ≤ v.val := by decide +kernel
theorem c3 : ∀ e : Fin 16, ∀ f : Fin 21, f.val ≤ tmax e.val → sh 0 3 f.val ≤ e.val := by decide +kernel
theorem c4 : ∀ f : Fin 21, ∀ g : Fin 16, 20 - f.val ≤ tmax (15 - g.val) → sh 0 4 g.val ≤ f.val := by decide +kernel
theorem c5 : ∀ g : Fin 16, ∀ h : Fin 7, 15 - g.val ≤ pmax (6 - h.val) → sh 0 5 h.val ≤ g.val := by decide +kernel
theorem c1 : ∀ v : Fin 7, sh 0 1 v.val ≤ 1 := by decide +kernel
theorem c6 : ∀ x : Fin 2, sh 0 6 x.val ≤ 6 := by decide +kernel
theorem z2 : ∀ e : Fin 16, e.val ≤ pmax 0 → e.val = 0 := by decide +kernel
theorem z3 : ∀ f : Fin 21, f.val ≤ tmax 0 → f.val = 0 := by decide +kernel
theorem z4 : ∀ g : Fin 16, 20 - 0 ≤ tmax (15 - g.val) → g.val = 0 := by decide +kernel
theorem z5 : ∀ h : Fin 7, 15 - 0 ≤ pmax (6 - h.val) → h.val = 0 := by decide +kernel

theorem cnt_bounds (p : Nat → Bool) : cnt 0 (ord p) ≤ 1 ∧ cnt 1 (ord p) ≤ 6 ∧ cnt 2 (ord p) ≤ 15 ∧ cnt 3 (ord p) ≤ 20 ∧ cnt 4 (ord p) ≤ 15 ∧ cnt 5 (ord p) ≤ 6 ∧ cnt 6 (ord p) ≤ 1 := by
  rw [cnt0, cnt1, cnt2, cnt3, cnt4, cnt5, cnt6]
  exact ⟨List.countP_le_length, List.countP_le_length, List.countP_le_length, List.countP_le_length, List.countP_le_length, List.countP_le_length, List.countP_le_length⟩
theorem zero_of_point {p : Nat → Bool} (hd : Down p) (h : 0 < cnt 1 (ord p)) : cnt 0 (ord p) = 1 := by
  rw [cnt1, List.countP_pos_iff] at h
  obtain ⟨s, hs, hp⟩ := h
  have h0 : p 0 = true := hd 0 s (by decide) (ones_lt s hs) (by simp [sub]) hp
  rw [cnt0, List.countP_cons, h0]
  rfl

/-- The bound holds at every size, and below a count there is a count. -/
theorem kk {p : Nat → Bool} (hd : Down p) (k : Nat) (h1 : 1 ≤ k) (h6 : k ≤ 6) (hc : 0 < cnt k (ord p)) : 0 < cnt (k - 1) (ord p) ∧ sh 0 k (cnt k (ord p)) ≤ cnt (k - 1) (ord p) := by
  obtain ⟨b0, b1, b2, b3, b4, b5, b6⟩ := cnt_bounds p
  rcases (by omega : k = 1 ∨ k = 2 ∨ k = 3 ∨ k = 4 ∨ k = 5 ∨ k = 6) with rfl | rfl | rfl | rfl | rfl | rfl
  · have h := zero_of_point hd hc
    have h2 := c1 ⟨cnt 1 (ord p), by omega⟩
    dsimp only at h2
    show 0 < cnt 0 (ord p) ∧ sh 0 1 (cnt 1 (ord p)) ≤ cnt 0 (ord p)
    omega
  · have h := le2 hd
    have hz : 0 < cnt 1 (ord p) := by
      rcases Nat.eq_zero_or_pos (cnt 1 (ord p)) with e | e
      · rw [e] at h; have := z2 ⟨cnt 2 (ord p), by omega⟩ h; dsimp only at this; omega
      · exact e
    exact ⟨hz, c2 ⟨cnt 1 (ord p), by omega⟩ ⟨cnt 2 (ord p), by omega⟩ h⟩
  · have h := le3 hd
    have hz : 0 < cnt 2 (ord p) := by
      rcases Nat.eq_zero_or_pos (cnt 2 (ord p)) with e | e
      · rw [e] at h; have := z3 ⟨cnt 3 (ord p), by omega⟩ h; dsimp only at this; omega
      · exact e
    exact ⟨hz, c3 ⟨cnt 2 (ord p), by omega⟩ ⟨cnt 3 (ord p), by omega⟩ h⟩
  · have h := le4 hd
    have hz : 0 < cnt 3 (ord p) := by
      rcases Nat.eq_zero_or_pos (cnt 3 (ord p)) with e | e
      · rw [e] at h; have := z4 ⟨cnt 4 (ord p), by omega⟩ h; dsimp only at this; omega
      · exact e
    exact ⟨hz, c4 ⟨cnt 3 (ord p), by omega⟩ ⟨cnt 4 (ord p), by omega⟩ h⟩
  · have h := le5 hd
    have hz : 0 < cnt 4 (ord p) := by
      rcases Nat.eq_zero_or_pos (cnt 4 (ord p)) with e | e
      · rw [e] at h; have := z5 ⟨cnt 5 (ord p), by omega⟩ h; dsimp only at this; omega
      · exact e
    exact ⟨hz, c5 ⟨cnt 4 (ord p), by omega⟩ ⟨cnt 5 (ord p), by omega⟩ h⟩
  · have h := le6 hd hc
    have h2 := c6 ⟨cnt 6 (ord p), by omega⟩
    dsimp only at h2
    show 0 < cnt 5 (ord p) ∧ sh 0 6 (cnt 6 (ord p)) ≤ cnt 5 (ord p)
    omega
theorem down_pos {p : Nat → Bool} (hd : Down p) : ∀ (j k : Nat), k + j ≤ 6 → 0 < cnt (k + j) (ord p) → 0 < cnt k (ord p)
  | 0, k, _, h => h
  | j + 1, k, h6, h => down_pos hd j k (by omega) (by
    have := (kk hd (k + (j + 1)) (by omega) h6 h).1
    rwa [show k + (j + 1) - 1 = k + j by omega] at this)
theorem top_pos (L : List Int) (h : 0 < top L) : 0 < cnt (top L - 1) L := by
  have hm : ∀ (L : List Int) (m : Nat), m < L.foldl (fun m x => max m (pc x.toNat + 1)) m → ∃ x ∈ L, pc x.toNat + 1 = L.foldl (fun m x => max m (pc x.toNat + 1)) m := by
    intro L
    induction L with
    | nil => intro m h; simp at h
    | cons x L ih =>
      intro m h
      rw [List.foldl_cons] at h ⊢
      rcases Nat.lt_or_ge (max m (pc x.toNat + 1)) (L.foldl (fun m x => max m (pc x.toNat + 1)) (max m (pc x.toNat + 1))) with h1 | h1
      · obtain ⟨y, hy, e⟩ := ih _ h1
        exact ⟨y, List.mem_cons_of_mem _ hy, e⟩
      · have hge : ∀ (L : List Int) (m : Nat), m ≤ L.foldl (fun m x => max m (pc x.toNat + 1)) m := by
          intro L
          induction L with
          | nil => intro m; exact Nat.le_refl _
          | cons x L ih => intro m; exact Nat.le_trans (Nat.le_max_left _ _) (ih _)
        have h2 := hge L (max m (pc x.toNat + 1))
        refine ⟨x, List.mem_cons_self .., ?_⟩
        omega
  obtain ⟨x, hx, e⟩ := hm L 0 h
  unfold cnt
  rw [List.countP_pos_iff]
  refine ⟨x, hx, ?_⟩
  rw [beq_iff_eq]
  have e : pc x.toNat + 1 = top L := e
  omega

/-- COUNTS OF COMPLEXES ARE POSSIBLE ONES. -/
theorem counts_possible (n : Int) (xs : List Int) (h : 0 < (counts (faces n xs)).length) : countsB (counts (faces n xs)) = true := by
  have ht := h
  rw [counts_length] at ht
  have h7 := top_le (faces n xs)
  by_cases hC : isC n xs = true
  · have hF : faces n xs = ord (inF xs) := by unfold faces; rw [if_pos hC]
    have hd := inF_down xs
    rw [hF] at ht h7 ⊢
    have hb := cnt_bounds (inF xs)
    have htp := top_pos _ ht
    have hpos : ∀ k, k < top (ord (inF xs)) → 0 < cnt k (ord (inF xs)) := fun k hk =>
      down_pos hd (top (ord (inF xs)) - 1 - k) k (by omega) (by rw [show k + (top (ord (inF xs)) - 1 - k) = top (ord (inF xs)) - 1 by omega]; exact htp)
    unfold countsB
    rw [counts_length, Bool.and_eq_true, Bool.and_eq_true, List.all_eq_true]
    refine ⟨⟨decide_eq_true (by omega), decide_eq_true (by omega)⟩, fun k hk => ?_⟩
    rw [List.mem_range] at hk
    have hle : cnt k (ord (inF xs)) ≤ 20 := by
      rcases (by omega : k = 0 ∨ k = 1 ∨ k = 2 ∨ k = 3 ∨ k = 4 ∨ k = 5 ∨ k = 6) with rfl | rfl | rfl | rfl | rfl | rfl | rfl <;> omega
    rw [stepB_iff, counts_at _ k hk]
    have hp := hpos k hk
    refine ⟨by omega, by omega, fun e => ?_, fun e => ?_⟩
    · subst e
      rw [counts_at _ 0 hk]
      omega
    · rw [counts_at _ (k - 1) (by omega), boundZ_in (by omega) e (by omega)]
      have := (kk hd k e (by omega) hp).2
      omega
  · exfalso
    have : faces n xs = [] := by unfold faces; rw [if_neg hC]
    rw [this] at ht
    exact absurd ht (by decide)

end Go.Proofs.Ytmonaiojejbhkaa.Kk
