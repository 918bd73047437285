/-
  COUNTS OF FACES, of no program.
-/
import Derived.Test.YtmonaiojejbhkaaCplx
namespace Go.Proofs.Ytmonaiojejbhkaa
open Sets

/-- How many of a list have so many points. -/
def cnt (k : Nat) (L : List Int) : Nat := L.countP fun x => pc x.toNat == k
theorem cnt_nil (k : Nat) : cnt k [] = 0 := rfl
theorem cnt_snoc (k : Nat) (L : List Int) (x : Int) : cnt k (L ++ [x]) = cnt k L + if pc x.toNat = k then 1 else 0 := by
  unfold cnt
  rw [List.countP_append]
  by_cases h : pc x.toNat = k <;> simp [h]
theorem cnt_le (k : Nat) (L : List Int) : cnt k L ≤ L.length := List.countP_le_length
theorem take_nx (L : List Int) (k : Nat) (h : k < L.length) : L.take (k + 1) = L.take k ++ [L.getD k 0] := by
  rw [List.take_add_one, List.getD, List.getElem?_eq_getElem h]; rfl
theorem cnt_take (k : Nat) (L : List Int) (j : Nat) (h : j < L.length) : cnt k (L.take (j + 1)) = cnt k (L.take j) + if pc (L.getD j 0).toNat = k then 1 else 0 := by
  rw [take_nx L j h, cnt_snoc]
/-- The counts of the sizes from 0 to 6. -/
def cnts (L : List Int) : List Int := (List.range 7).map fun k => (cnt k L : Int)
theorem cnts_length (L : List Int) : (cnts L).length = 7 := by simp [cnts]
theorem cnts_at (L : List Int) (k : Nat) (h : k < 7) : (cnts L).getD k 0 = (cnt k L : Int) := by
  simp [cnts, List.getD, h]

/-- One more than the greatest size. -/
def top (L : List Int) : Nat := L.foldl (fun m x => max m (pc x.toNat + 1)) 0
theorem top_snoc (L : List Int) (x : Int) : top (L ++ [x]) = max (top L) (pc x.toNat + 1) := by
  unfold top; rw [List.foldl_append]; rfl
theorem top_take (L : List Int) (j : Nat) (h : j < L.length) : top (L.take (j + 1)) = max (top (L.take j)) (pc (L.getD j 0).toNat + 1) := by
  rw [take_nx L j h, top_snoc]
theorem top_le (L : List Int) : top L ≤ 7 := by
  have h : ∀ (L : List Int) (m : Nat), m ≤ 7 → L.foldl (fun m x => max m (pc x.toNat + 1)) m ≤ 7 := by
    intro L
    induction L with
    | nil => intro m h; exact h
    | cons x L ih => intro m h; exact ih _ (by have := pc_le x.toNat; dsimp only; omega)
  exact h L 0 (by omega)
theorem top_ge (L : List Int) (x : Int) (hx : x ∈ L) : pc x.toNat + 1 ≤ top L := by
  have h2 : ∀ (L : List Int) (m : Nat), m ≤ L.foldl (fun m x => max m (pc x.toNat + 1)) m := by
    intro L
    induction L with
    | nil => intro m; exact Nat.le_refl _
    | cons x L ih => intro m; exact Nat.le_trans (Nat.le_max_left _ _) (ih _)
  have h : ∀ (L : List Int) (m : Nat), x ∈ L → pc x.toNat + 1 ≤ L.foldl (fun m x => max m (pc x.toNat + 1)) m := by
    intro L
    induction L with
    | nil => intro m hx; simp at hx
    | cons y L ih =>
      intro m hx
      rcases List.mem_cons.1 hx with rfl | hx
      · exact Nat.le_trans (Nat.le_max_right _ _) (h2 L _)
      · exact ih _ hx
  exact h L 0 hx
theorem top_le_of (L : List Int) (m : Nat) (h : ∀ x, x ∈ L → pc x.toNat + 1 ≤ m) : top L ≤ m := by
  have h1 : ∀ (L : List Int) (n : Nat), n ≤ m → (∀ x, x ∈ L → pc x.toNat + 1 ≤ m) → L.foldl (fun m x => max m (pc x.toNat + 1)) n ≤ m := by
    intro L
    induction L with
    | nil => intro n h _; exact h
    | cons x L ih => intro n h k; exact ih _ (by have := k x (List.mem_cons_self ..); dsimp only; omega) (fun y hy => k y (List.mem_cons_of_mem _ hy))
  exact h1 L 0 (by omega) h

/-- Counts up to the greatest size. -/
def counts (L : List Int) : List Int := (cnts L).take (top L)
theorem counts_length (L : List Int) : (counts L).length = top L := by
  unfold counts; rw [List.length_take, cnts_length]; have := top_le L; omega
theorem counts_at (L : List Int) (k : Nat) (h : k < top L) : (counts L).getD k 0 = (cnt k L : Int) := by
  have := top_le L
  rw [← cnts_at L k (by omega)]
  unfold counts
  rw [List.getD, List.getElem?_take_of_lt h, List.getD]
theorem counts_nil : counts [] = [] := rfl
theorem ge_top (L : List Int) (k : Nat) (h : top L ≤ k) : cnt k L = 0 := by
  unfold cnt
  rw [List.countP_eq_zero]
  intro x hx e
  have := top_ge L x hx
  simp at e
  omega

/-- DimOf. -/
def dimZ (n : Int) (xs : List Int) : Int := if isC n xs = true ∧ xs ≠ [] then (pc (xs.getD (xs.length - 1) 0).toNat : Int) - 1 else -2
theorem dimZ_yes {n : Int} {xs : List Int} (h : isC n xs = true) (h0 : 0 < xs.length) : dimZ n xs = (pc (xs.getD (xs.length - 1) 0).toNat : Int) - 1 := by
  unfold dimZ; rw [if_pos ⟨h, fun e => by rw [e] at h0; simp at h0⟩]
theorem dimZ_no {n : Int} {xs : List Int} (h : isC n xs = false) : dimZ n xs = -2 := by
  unfold dimZ; rw [if_neg (by rw [h]; simp)]
theorem dimZ_nil (n : Int) : dimZ n [] = -2 := by unfold dimZ; rw [if_neg (by simp)]

/-- FacesOfSize. -/
def sized (k : Int) (L : List Int) : List Int := L.filter fun x => (pc x.toNat : Int) == k
theorem sized_length (k : Int) (L : List Int) : (sized k L).length ≤ L.length := List.length_filter_le _ _
theorem sized_cnt (k : Nat) (L : List Int) : (sized (k : Int) L).length = cnt k L := by
  unfold sized cnt
  rw [List.countP_eq_length_filter]
  congr 1
  apply List.filter_congr
  intro x _
  rw [Bool.eq_iff_iff, beq_iff_eq, beq_iff_eq]; omega
theorem sized_hit (k : Int) (L : List Int) (j : Nat) (h : j < L.length) (e : (pc (L.getD j 0).toNat : Int) = k) : sized k (L.take (j + 1)) = sized k (L.take j) ++ [L.getD j 0] := by
  rw [take_nx L j h]; unfold sized; rw [List.filter_append]; generalize L.getD j 0 = x at e ⊢; simp [e]
theorem sized_miss (k : Int) (L : List Int) (j : Nat) (h : j < L.length) (e : (pc (L.getD j 0).toNat : Int) ≠ k) : sized k (L.take (j + 1)) = sized k (L.take j) := by
  rw [take_nx L j h]; unfold sized; rw [List.filter_append]; generalize L.getD j 0 = x at e ⊢; simp [e]

/-- EulerOf. -/
def eul (L : List Int) : Int := -(cnt 0 L : Int) + cnt 1 L - cnt 2 L + cnt 3 L - cnt 4 L + cnt 5 L - cnt 6 L
theorem eul_nil : eul [] = 0 := rfl
theorem eul_snoc (L : List Int) (x : Int) : eul (L ++ [x]) = eul L + (2 * ((pc x.toNat % 2 : Nat) : Int) - 1) := by
  unfold eul
  simp only [cnt_snoc]
  have h := pc_le x.toNat
  generalize pc x.toNat = p at h
  rcases (by omega : p = 0 ∨ p = 1 ∨ p = 2 ∨ p = 3 ∨ p = 4 ∨ p = 5 ∨ p = 6) with rfl | rfl | rfl | rfl | rfl | rfl | rfl <;> simp <;> omega
theorem eul_take (L : List Int) (j : Nat) (h : j < L.length) : eul (L.take (j + 1)) = eul (L.take j) + (2 * ((pc (L.getD j 0).toNat % 2 : Nat) : Int) - 1) := by
  rw [take_nx L j h, eul_snoc]
theorem eul_bound (L : List Int) : -(L.length : Int) * 7 ≤ eul L ∧ eul L ≤ (L.length : Int) * 7 := by
  unfold eul
  have h0 := cnt_le 0 L; have h1 := cnt_le 1 L; have h2 := cnt_le 2 L; have h3 := cnt_le 3 L; have h4 := cnt_le 4 L; have h5 := cnt_le 5 L; have h6 := cnt_le 6 L
  omega

/-- All facets have one size. -/
def evenB (xs : List Int) : Bool := xs.all fun x => pc x.toNat == pc (xs.getD 0 0).toNat
/-- IsPure. -/
def pureB (n : Int) (xs : List Int) : Bool := isC n xs && evenB xs
theorem even_no {xs : List Int} {k : Nat} (hk : k < xs.length) (h : pc (xs.getD k 0).toNat ≠ pc (xs.getD 0 0).toNat) : evenB xs = false := by
  rw [Bool.eq_false_iff]; intro e
  unfold evenB at e
  have := List.all_eq_true.1 e (xs.getD k 0) (by rw [List.getD, List.getElem?_eq_getElem hk]; exact List.getElem_mem hk)
  rw [beq_iff_eq] at this
  exact h this
theorem even_yes {xs : List Int} (h : ∀ j, j < xs.length → pc (xs.getD j 0).toNat = pc (xs.getD 0 0).toNat) : evenB xs = true := by
  unfold evenB; rw [List.all_eq_true]; intro x hx
  obtain ⟨j, hj, rfl⟩ := List.mem_iff_getElem.1 hx
  have := h j hj
  rw [List.getD, List.getElem?_eq_getElem hj] at this
  rw [beq_iff_eq]; exact this
theorem even_at {xs : List Int} (h : evenB xs = true) (x : Int) (hx : x ∈ xs) : pc x.toNat = pc (xs.getD 0 0).toNat := by
  unfold evenB at h
  have := List.all_eq_true.1 h x hx
  rwa [beq_iff_eq] at this

/-- What IsPure compares: as many facets as there are, at every size that there is. -/
def ones (xs : List Int) (k : Nat) : List Int := (List.range 7).map fun s => if cnt s (xs.take k) = 0 then 0 else (xs.length : Int)
theorem ones_length (xs : List Int) (k : Nat) : (ones xs k).length = 7 := by simp [ones]
theorem ones_at (xs : List Int) (k s : Nat) (h : s < 7) : (ones xs k).getD s 0 = if cnt s (xs.take k) = 0 then 0 else (xs.length : Int) := by
  simp [ones, List.getD, h]
theorem cnts_ones (xs : List Int) : (cnts xs == ones xs xs.length) = evenB xs := by
  rw [Bool.eq_iff_iff, beq_iff_eq]
  constructor
  · intro h
    apply even_yes
    intro j hj
    have h0 : 0 < xs.length := by omega
    have hm : ∀ i, i < xs.length → cnt (pc (xs.getD i 0).toNat) xs = xs.length := by
      intro i hi
      have hp := pc_le (xs.getD i 0).toNat
      have hmem : xs.getD i 0 ∈ xs := by rw [List.getD, List.getElem?_eq_getElem hi]; exact List.getElem_mem hi
      generalize xs.getD i 0 = x at hp hmem ⊢
      have e := congrArg (fun l => l.getD (pc x.toNat) 0) h
      have e : (cnts xs).getD (pc x.toNat) 0 = (ones xs xs.length).getD (pc x.toNat) 0 := e
      rw [cnts_at _ _ (by omega), ones_at _ _ _ (by omega), List.take_length] at e
      have hne : cnt (pc x.toNat) xs ≠ 0 := by
        intro e0
        unfold cnt at e0
        rw [List.countP_eq_zero] at e0
        exact e0 x hmem (by simp)
      rw [if_neg hne] at e
      omega
    have h1 := hm 0 h0
    unfold cnt at h1
    rw [List.countP_eq_length] at h1
    have := h1 (xs.getD j 0) (by rw [List.getD, List.getElem?_eq_getElem hj]; exact List.getElem_mem hj)
    rwa [beq_iff_eq] at this
  · intro h
    unfold cnts ones
    rw [List.take_length]
    apply List.map_congr_left
    intro s _
    by_cases e : cnt s xs = 0
    · rw [if_pos e, e]; rfl
    · rw [if_neg e]
      have : cnt s xs = xs.length := by
        unfold cnt at e ⊢
        rw [List.countP_eq_length]
        obtain ⟨x, hx, hs⟩ := List.countP_pos_iff.1 (Nat.pos_of_ne_zero e)
        rw [beq_iff_eq] at hs
        intro y hy
        rw [beq_iff_eq, even_at h y hy, ← even_at h x hx, hs]
      rw [this]

/-- The points of a list's sets. -/
def orN (xs : List Int) : Nat := xs.foldl (fun a x => a ||| x.toNat) 0
theorem orN_take (L : List Int) (j : Nat) (h : j < L.length) : orN (L.take (j + 1)) = orN (L.take j) ||| (L.getD j 0).toNat := by
  rw [take_nx L j h]; unfold orN; rw [List.foldl_append]; rfl
theorem orN_lt (xs : List Int) (h : allOk xs = true) : orN xs < 64 := by
  have h1 : ∀ (xs : List Int) (a : Nat), a < 64 → allOk xs = true → xs.foldl (fun a x => a ||| x.toNat) a < 64 := by
    intro xs
    induction xs with
    | nil => intro a ha _; exact ha
    | cons x xs ih =>
      intro a ha h
      unfold allOk at h ih
      rw [List.all_cons, Bool.and_eq_true] at h
      obtain ⟨s, rfl, hs⟩ : ∃ s : Nat, x = (s : Int) ∧ s < 64 := by
        have := (okZ_iff x).1 h.1
        exact ⟨x.toNat, by omega, by omega⟩
      exact ih _ (or_lt _ _ ha hs) h.2
  exact h1 xs 0 (by omega) h
theorem allOk_take (xs : List Int) (k : Nat) (h : allOk xs = true) : allOk (xs.take k) = true := by
  unfold allOk at *
  rw [List.all_eq_true] at *
  intro x hx
  exact h x (List.mem_of_mem_take hx)
/-- UsedPoints. -/
def used (n : Int) (xs : List Int) : Int := if isC n xs = true then (orN xs : Int) else 0

/-- IsSimplex. -/
def simplexB (n : Int) (xs : List Int) : Bool := isC n xs && xs.length == 1

/-- DegreeOf. -/
def degN (xs : List Int) (s : Nat) : Nat := xs.countP fun f => sub s f.toNat
def deg (n : Int) (xs : List Int) (s : Int) : Int := if (isC n xs && okZ s) = true then (degN xs s.toNat : Int) else -1
theorem degN_take (xs : List Int) (s j : Nat) (h : j < xs.length) : degN (xs.take (j + 1)) s = degN (xs.take j) s + if sub s (xs.getD j 0).toNat = true then 1 else 0 := by
  rw [take_nx xs j h]
  unfold degN
  rw [List.countP_append]
  generalize xs.getD j 0 = x
  by_cases h : sub s x.toNat = true <;> simp [h]
theorem degN_le (xs : List Int) (s : Nat) : degN xs s ≤ xs.length := List.countP_le_length

/-! ### faces of complexes -/

theorem faces_at (n : Int) (xs : List Int) (j : Nat) (h : j < (faces n xs).length) : ∃ s : Nat, (faces n xs).getD j 0 = (s : Int) ∧ s < 64 := by
  unfold faces at h ⊢
  split at h
  · rw [if_pos (by assumption)]
    obtain ⟨s, h1, h2, _⟩ := ord_at _ j h
    exact ⟨s, h1, h2⟩
  · simp at h
theorem faces_nil (n : Int) : faces n [] = [] := by
  unfold faces; split
  · exact (ord_congr fun s _ => rfl).trans ord_false
  · rfl
theorem faces_top {n : Int} {xs : List Int} (h : isC n xs = true) (h0 : 0 < xs.length) : (top (faces n xs) : Int) = dimZ n xs + 2 := by
  rw [dimZ_yes h h0]
  obtain ⟨t, ht, ht64⟩ := isC_at h (xs.length - 1) (by omega)
  have hF : faces n xs = ord (inF xs) := by unfold faces; rw [if_pos h]
  rw [ht, hF]
  have hl : ∀ x, x ∈ xs → pc x.toNat ≤ pc t := by
    intro x hx
    obtain ⟨i, hi, rfl⟩ := List.mem_iff_getElem.1 hx
    have hr := isC_rises h
    unfold Rises at hr
    have el : xs[xs.length - 1]'(by omega) = (t : Int) := by
      rw [List.getD, List.getElem?_eq_getElem (by omega)] at ht; exact ht
    by_cases e : i = xs.length - 1
    · subst e; rw [el]; exact Nat.le_refl _
    · have hb := List.pairwise_iff_getElem.1 hr i (xs.length - 1) hi (by omega) (by omega)
      rw [el, befZ_iff] at hb
      have := (befN_iff _ _).1 hb.2.2
      have e2 : (t : Int).toNat = t := rfl
      rw [e2] at this
      omega
  have h1 : top (ord (inF xs)) ≤ pc t + 1 := by
    apply top_le_of
    intro x hx
    obtain ⟨s, rfl, hs, hin⟩ := (mem_ord _ _).1 hx
    unfold inF at hin
    obtain ⟨f, hf, hsub⟩ := List.any_eq_true.1 hin
    obtain ⟨u, rfl, hu⟩ := okZ_cast f (setB_ok (isC_set h f hf))
    have h3 := hl _ hf
    have e2 : (u : Int).toNat = u := rfl
    rw [e2] at h3 hsub
    show pc s + 1 ≤ pc t + 1
    rcases sub_pc s u hs hu hsub with h4 | rfl <;> omega
  have h2 : pc t + 1 ≤ top (ord (inF xs)) := by
    apply top_ge (ord (inF xs)) (t : Int)
    refine (mem_ord _ _).2 ⟨t, rfl, ht64, ?_⟩
    unfold inF
    rw [List.any_eq_true]
    refine ⟨(t : Int), ?_, ?_⟩
    · rw [← ht, List.getD, List.getElem?_eq_getElem (by omega)]; exact List.getElem_mem _
    · show sub t t = true
      unfold sub; simp
  have e2 : (t : Int).toNat = t := rfl
  rw [e2]
  omega
theorem faces_pos {n : Int} {xs : List Int} (h : isC n xs = true) (h0 : 0 < xs.length) : 0 < (faces n xs).length := by
  have h1 := faces_top h h0
  rw [dimZ_yes h h0] at h1
  by_cases e : faces n xs = []
  · rw [e] at h1; simp [top] at h1; omega
  · exact List.length_pos_iff.2 e

end Go.Proofs.Ytmonaiojejbhkaa
