/-
  TEXTS of one claim, put together: Cnt, CntLaw, Hn, HMap.
-/
import Derived.Test.YtmonaiojejbhkaaJg1
import Derived.Test.YtmonaiojejbhkaaJg0
import Derived.Maps.OwnSet
import Derived.DeepKeys4
/-! COUNTS OF FACES, of no program. -/

namespace Go.Proofs.Ytmonaiojejbhkaa
open Sets

/-- How many of a list have so many points. -/
def cnt (k : Nat) (L : List Int) : Nat := L.countP fun x => pc x.toNat == k
theorem cnt_nil (k : Nat) : cnt k [] = 0 := rfl
theorem cnt_snoc (k : Nat) (L : List Int) (x : Int) : cnt k (L ++ [x]) = cnt k L + if pc x.toNat = k then 1 else 0 := by
  unfold cnt
  rw [List.countP_append]
  by_cases h : pc x.toNat = k <;> simp [h]
theorem cnt_le (k : Nat) (L : List Int) : cnt k L ≤ L.length := List.countP_le_length
theorem take_nx (L : List Int) (k : Nat) (h : k < L.length) : L.take (k + 1) = L.take k ++ [L.getD k 0] := by
  rw [List.take_add_one, List.getD, List.getElem?_eq_getElem h]; rfl
theorem cnt_take (k : Nat) (L : List Int) (j : Nat) (h : j < L.length) : cnt k (L.take (j + 1)) = cnt k (L.take j) + if pc (L.getD j 0).toNat = k then 1 else 0 := by
  rw [take_nx L j h, cnt_snoc]
/-- The counts of the sizes from 0 to 6. -/
def cnts (L : List Int) : List Int := (List.range 7).map fun k => (cnt k L : Int)
theorem cnts_length (L : List Int) : (cnts L).length = 7 := by simp [cnts]
theorem cnts_at (L : List Int) (k : Nat) (h : k < 7) : (cnts L).getD k 0 = (cnt k L : Int) := by
  simp [cnts, List.getD, h]

/-- One more than the greatest size. -/
def top (L : List Int) : Nat := L.foldl (fun m x => max m (pc x.toNat + 1)) 0
theorem top_snoc (L : List Int) (x : Int) : top (L ++ [x]) = max (top L) (pc x.toNat + 1) := by
  unfold top; rw [List.foldl_append]; rfl
theorem top_take (L : List Int) (j : Nat) (h : j < L.length) : top (L.take (j + 1)) = max (top (L.take j)) (pc (L.getD j 0).toNat + 1) := by
  rw [take_nx L j h, top_snoc]
theorem top_le (L : List Int) : top L ≤ 7 := by
  have h : ∀ (L : List Int) (m : Nat), m ≤ 7 → L.foldl (fun m x => max m (pc x.toNat + 1)) m ≤ 7 := by
    intro L
    induction L with
    | nil => intro m h; exact h
    | cons x L ih => intro m h; exact ih _ (by have := pc_le x.toNat; dsimp only; omega)
  exact h L 0 (by omega)
theorem top_ge (L : List Int) (x : Int) (hx : x ∈ L) : pc x.toNat + 1 ≤ top L := by
  have h2 : ∀ (L : List Int) (m : Nat), m ≤ L.foldl (fun m x => max m (pc x.toNat + 1)) m := by
    intro L
    induction L with
    | nil => intro m; exact Nat.le_refl _
    | cons x L ih => intro m; exact Nat.le_trans (Nat.le_max_left _ _) (ih _)
  have h : ∀ (L : List Int) (m : Nat), x ∈ L → pc x.toNat + 1 ≤ L.foldl (fun m x => max m (pc x.toNat + 1)) m := by
    intro L
    induction L with
    | nil => intro m hx; simp at hx
    | cons y L ih =>
      intro m hx
      rcases List.mem_cons.1 hx with rfl | hx
      · exact Nat.le_trans (Nat.le_max_right _ _) (h2 L _)
      · exact ih _ hx
  exact h L 0 hx
theorem top_le_of (L : List Int) (m : Nat) (h : ∀ x, x ∈ L → pc x.toNat + 1 ≤ m) : top L ≤ m := by
  have h1 : ∀ (L : List Int) (n : Nat), n ≤ m → (∀ x, x ∈ L → pc x.toNat + 1 ≤ m) → L.foldl (fun m x => max m (pc x.toNat + 1)) n ≤ m := by
    intro L
    induction L with
    | nil => intro n h _; exact h
    | cons x L ih => intro n h k; exact ih _ (by have := k x (List.mem_cons_self ..); dsimp only; omega) (fun y hy => k y (List.mem_cons_of_mem _ hy))
  exact h1 L 0 (by omega) h

/-- Counts up to the greatest size. -/
def counts (L : List Int) : List Int := (cnts L).take (top L)
theorem counts_length (L : List Int) : (counts L).length = top L := by
  unfold counts; rw [List.length_take, cnts_length]; have := top_le L; omega
theorem counts_at (L : List Int) (k : Nat) (h : k < top L) : (counts L).getD k 0 = (cnt k L : Int) := by
  have := top_le L
  rw [← cnts_at L k (by omega)]
  unfold counts
  rw [List.getD, List.getElem?_take_of_lt h, List.getD]
theorem counts_nil : counts [] = [] := rfl
theorem ge_top (L : List Int) (k : Nat) (h : top L ≤ k) : cnt k L = 0 := by
  unfold cnt
  rw [List.countP_eq_zero]
  intro x hx e
  have := top_ge L x hx
  simp at e
  omega

/-- DimOf. -/
def dimZ (n : Int) (xs : List Int) : Int := if isC n xs = true ∧ xs ≠ [] then (pc (xs.getD (xs.length - 1) 0).toNat : Int) - 1 else -2
theorem dimZ_yes {n : Int} {xs : List Int} (h : isC n xs = true) (h0 : 0 < xs.length) : dimZ n xs = (pc (xs.getD (xs.length - 1) 0).toNat : Int) - 1 := by
  unfold dimZ; rw [if_pos ⟨h, fun e => by rw [e] at h0; simp at h0⟩]
theorem dimZ_no {n : Int} {xs : List Int} (h : isC n xs = false) : dimZ n xs = -2 := by
  unfold dimZ; rw [if_neg (by rw [h]; simp)]
theorem dimZ_nil (n : Int) : dimZ n [] = -2 := by unfold dimZ; rw [if_neg (by simp)]

/-- FacesOfSize. -/
def sized (k : Int) (L : List Int) : List Int := L.filter fun x => (pc x.toNat : Int) == k
theorem sized_length (k : Int) (L : List Int) : (sized k L).length ≤ L.length := List.length_filter_le _ _
theorem sized_cnt (k : Nat) (L : List Int) : (sized (k : Int) L).length = cnt k L := by
  unfold sized cnt
  rw [List.countP_eq_length_filter]
  congr 1
  apply List.filter_congr
  intro x _
  rw [Bool.eq_iff_iff, beq_iff_eq, beq_iff_eq]; omega
theorem sized_hit (k : Int) (L : List Int) (j : Nat) (h : j < L.length) (e : (pc (L.getD j 0).toNat : Int) = k) : sized k (L.take (j + 1)) = sized k (L.take j) ++ [L.getD j 0] := by
  rw [take_nx L j h]; unfold sized; rw [List.filter_append]; generalize L.getD j 0 = x at e ⊢; simp [e]
theorem sized_miss (k : Int) (L : List Int) (j : Nat) (h : j < L.length) (e : (pc (L.getD j 0).toNat : Int) ≠ k) : sized k (L.take (j + 1)) = sized k (L.take j) := by
  rw [take_nx L j h]; unfold sized; rw [List.filter_append]; generalize L.getD j 0 = x at e ⊢; simp [e]

/-- EulerOf. -/
def eul (L : List Int) : Int := -(cnt 0 L : Int) + cnt 1 L - cnt 2 L + cnt 3 L - cnt 4 L + cnt 5 L - cnt 6 L
theorem eul_nil : eul [] = 0 := rfl
theorem eul_snoc (L : List Int) (x : Int) : eul (L ++ [x]) = eul L + (2 * ((pc x.toNat % 2 : Nat) : Int) - 1) := by
  unfold eul
  simp only [cnt_snoc]
  have h := pc_le x.toNat
  generalize pc x.toNat = p at h
  rcases (by omega : p = 0 ∨ p = 1 ∨ p = 2 ∨ p = 3 ∨ p = 4 ∨ p = 5 ∨ p = 6) with rfl | rfl | rfl | rfl | rfl | rfl | rfl <;> simp <;> omega
theorem eul_take (L : List Int) (j : Nat) (h : j < L.length) : eul (L.take (j + 1)) = eul (L.take j) + (2 * ((pc (L.getD j 0).toNat % 2 : Nat) : Int) - 1) := by
  rw [take_nx L j h, eul_snoc]
theorem eul_bound (L : List Int) : -(L.length : Int) * 7 ≤ eul L ∧ eul L ≤ (L.length : Int) * 7 := by
  unfold eul
  have h0 := cnt_le 0 L; have h1 := cnt_le 1 L; have h2 := cnt_le 2 L; have h3 := cnt_le 3 L; have h4 := cnt_le 4 L; have h5 := cnt_le 5 L; have h6 := cnt_le 6 L
  omega

/-- All facets have one size. -/
def evenB (xs : List Int) : Bool := xs.all fun x => pc x.toNat == pc (xs.getD 0 0).toNat
/-- IsPure. -/
def pureB (n : Int) (xs : List Int) : Bool := isC n xs && evenB xs
theorem even_no {xs : List Int} {k : Nat} (hk : k < xs.length) (h : pc (xs.getD k 0).toNat ≠ pc (xs.getD 0 0).toNat) : evenB xs = false := by
  rw [Bool.eq_false_iff]; intro e
  unfold evenB at e
  have := List.all_eq_true.1 e (xs.getD k 0) (by rw [List.getD, List.getElem?_eq_getElem hk]; exact List.getElem_mem hk)
  rw [beq_iff_eq] at this
  exact h this
theorem even_yes {xs : List Int} (h : ∀ j, j < xs.length → pc (xs.getD j 0).toNat = pc (xs.getD 0 0).toNat) : evenB xs = true := by
  unfold evenB; rw [List.all_eq_true]; intro x hx
  obtain ⟨j, hj, rfl⟩ := List.mem_iff_getElem.1 hx
  have := h j hj
  rw [List.getD, List.getElem?_eq_getElem hj] at this
  rw [beq_iff_eq]; exact this
theorem even_at {xs : List Int} (h : evenB xs = true) (x : Int) (hx : x ∈ xs) : pc x.toNat = pc (xs.getD 0 0).toNat := by
  unfold evenB at h
  have := List.all_eq_true.1 h x hx
  rwa [beq_iff_eq] at this

/-- What IsPure compares: as many facets as there are, at every size that there is. -/
def ones (xs : List Int) (k : Nat) : List Int := (List.range 7).map fun s => if cnt s (xs.take k) = 0 then 0 else (xs.length : Int)
theorem ones_length (xs : List Int) (k : Nat) : (ones xs k).length = 7 := by simp [ones]
theorem ones_at (xs : List Int) (k s : Nat) (h : s < 7) : (ones xs k).getD s 0 = if cnt s (xs.take k) = 0 then 0 else (xs.length : Int) := by
  simp [ones, List.getD, h]
theorem cnts_ones (xs : List Int) : (cnts xs == ones xs xs.length) = evenB xs := by
  rw [Bool.eq_iff_iff, beq_iff_eq]
  constructor
  · intro h
    apply even_yes
    intro j hj
    have h0 : 0 < xs.length := by omega
    have hm : ∀ i, i < xs.length → cnt (pc (xs.getD i 0).toNat) xs = xs.length := by
      intro i hi
      have hp := pc_le (xs.getD i 0).toNat
      have hmem : xs.getD i 0 ∈ xs := by rw [List.getD, List.getElem?_eq_getElem hi]; exact List.getElem_mem hi
      generalize xs.getD i 0 = x at hp hmem ⊢
      have e := congrArg (fun l => l.getD (pc x.toNat) 0) h
      have e : (cnts xs).getD (pc x.toNat) 0 = (ones xs xs.length).getD (pc x.toNat) 0 := e
      rw [cnts_at _ _ (by omega), ones_at _ _ _ (by omega), List.take_length] at e
      have hne : cnt (pc x.toNat) xs ≠ 0 := by
        intro e0
        unfold cnt at e0
        rw [List.countP_eq_zero] at e0
        exact e0 x hmem (by simp)
      rw [if_neg hne] at e
      omega
    have h1 := hm 0 h0
    unfold cnt at h1
    rw [List.countP_eq_length] at h1
    have := h1 (xs.getD j 0) (by rw [List.getD, List.getElem?_eq_getElem hj]; exact List.getElem_mem hj)
    rwa [beq_iff_eq] at this
  · intro h
    unfold cnts ones
    rw [List.take_length]
    apply List.map_congr_left
    intro s _
    by_cases e : cnt s xs = 0
    · rw [if_pos e, e]; rfl
    · rw [if_neg e]
      have : cnt s xs = xs.length := by
        unfold cnt at e ⊢
        rw [List.countP_eq_length]
        obtain ⟨x, hx, hs⟩ := List.countP_pos_iff.1 (Nat.pos_of_ne_zero e)
        rw [beq_iff_eq] at hs
        intro y hy
        rw [beq_iff_eq, even_at h y hy, ← even_at h x hx, hs]
      rw [this]

/-- The points of a list's sets. -/
def orN (xs : List Int) : Nat := xs.foldl (fun a x => a ||| x.toNat) 0
theorem orN_take (L : List Int) (j : Nat) (h : j < L.length) : orN (L.take (j + 1)) = orN (L.take j) ||| (L.getD j 0).toNat := by
  rw [take_nx L j h]; unfold orN; rw [List.foldl_append]; rfl
theorem orN_lt (xs : List Int) (h : allOk xs = true) : orN xs < 64 := by
  have h1 : ∀ (xs : List Int) (a : Nat), a < 64 → allOk xs = true → xs.foldl (fun a x => a ||| x.toNat) a < 64 := by
    intro xs
    induction xs with
    | nil => intro a ha _; exact ha
    | cons x xs ih =>
      intro a ha h
      unfold allOk at h ih
      rw [List.all_cons, Bool.and_eq_true] at h
      obtain ⟨s, rfl, hs⟩ : ∃ s : Nat, x = (s : Int) ∧ s < 64 := by
        have := (okZ_iff x).1 h.1
        exact ⟨x.toNat, by omega, by omega⟩
      exact ih _ (or_lt _ _ ha hs) h.2
  exact h1 xs 0 (by omega) h
theorem allOk_take (xs : List Int) (k : Nat) (h : allOk xs = true) : allOk (xs.take k) = true := by
  unfold allOk at *
  rw [List.all_eq_true] at *
  intro x hx
  exact h x (List.mem_of_mem_take hx)
/-- UsedPoints. -/
def used (n : Int) (xs : List Int) : Int := if isC n xs = true then (orN xs : Int) else 0

/-- IsSimplex. -/
def simplexB (n : Int) (xs : List Int) : Bool := isC n xs && xs.length == 1

/-- DegreeOf. -/
def degN (xs : List Int) (s : Nat) : Nat := xs.countP fun f => sub s f.toNat
def deg (n : Int) (xs : List Int) (s : Int) : Int := if (isC n xs && okZ s) = true then (degN xs s.toNat : Int) else -1
theorem degN_take (xs : List Int) (s j : Nat) (h : j < xs.length) : degN (xs.take (j + 1)) s = degN (xs.take j) s + if sub s (xs.getD j 0).toNat = true then 1 else 0 := by
  rw [take_nx xs j h]
  unfold degN
  rw [List.countP_append]
  generalize xs.getD j 0 = x
  by_cases h : sub s x.toNat = true <;> simp [h]
theorem degN_le (xs : List Int) (s : Nat) : degN xs s ≤ xs.length := List.countP_le_length

/-! ### faces of complexes -/

theorem faces_at (n : Int) (xs : List Int) (j : Nat) (h : j < (faces n xs).length) : ∃ s : Nat, (faces n xs).getD j 0 = (s : Int) ∧ s < 64 := by
  unfold faces at h ⊢
  split at h
  · rw [if_pos (by assumption)]
    obtain ⟨s, h1, h2, _⟩ := ord_at _ j h
    exact ⟨s, h1, h2⟩
  · simp at h
theorem faces_nil (n : Int) : faces n [] = [] := by
  unfold faces; split
  · exact (ord_congr fun s _ => rfl).trans ord_false
  · rfl
theorem faces_top {n : Int} {xs : List Int} (h : isC n xs = true) (h0 : 0 < xs.length) : (top (faces n xs) : Int) = dimZ n xs + 2 := by
  rw [dimZ_yes h h0]
  obtain ⟨t, ht, ht64⟩ := isC_at h (xs.length - 1) (by omega)
  have hF : faces n xs = ord (inF xs) := by unfold faces; rw [if_pos h]
  rw [ht, hF]
  have hl : ∀ x, x ∈ xs → pc x.toNat ≤ pc t := by
    intro x hx
    obtain ⟨i, hi, rfl⟩ := List.mem_iff_getElem.1 hx
    have hr := isC_rises h
    unfold Rises at hr
    have el : xs[xs.length - 1]'(by omega) = (t : Int) := by
      rw [List.getD, List.getElem?_eq_getElem (by omega)] at ht; exact ht
    by_cases e : i = xs.length - 1
    · subst e; rw [el]; exact Nat.le_refl _
    · have hb := List.pairwise_iff_getElem.1 hr i (xs.length - 1) hi (by omega) (by omega)
      rw [el, befZ_iff] at hb
      have := (befN_iff _ _).1 hb.2.2
      have e2 : (t : Int).toNat = t := rfl
      rw [e2] at this
      omega
  have h1 : top (ord (inF xs)) ≤ pc t + 1 := by
    apply top_le_of
    intro x hx
    obtain ⟨s, rfl, hs, hin⟩ := (mem_ord _ _).1 hx
    unfold inF at hin
    obtain ⟨f, hf, hsub⟩ := List.any_eq_true.1 hin
    obtain ⟨u, rfl, hu⟩ := okZ_cast f (setB_ok (isC_set h f hf))
    have h3 := hl _ hf
    have e2 : (u : Int).toNat = u := rfl
    rw [e2] at h3 hsub
    show pc s + 1 ≤ pc t + 1
    rcases sub_pc s u hs hu hsub with h4 | rfl <;> omega
  have h2 : pc t + 1 ≤ top (ord (inF xs)) := by
    apply top_ge (ord (inF xs)) (t : Int)
    refine (mem_ord _ _).2 ⟨t, rfl, ht64, ?_⟩
    unfold inF
    rw [List.any_eq_true]
    refine ⟨(t : Int), ?_, ?_⟩
    · rw [← ht, List.getD, List.getElem?_eq_getElem (by omega)]; exact List.getElem_mem _
    · show sub t t = true
      unfold sub; simp
  have e2 : (t : Int).toNat = t := rfl
  rw [e2]
  omega
theorem faces_pos {n : Int} {xs : List Int} (h : isC n xs = true) (h0 : 0 < xs.length) : 0 < (faces n xs).length := by
  have h1 := faces_top h h0
  rw [dimZ_yes h h0] at h1
  by_cases e : faces n xs = []
  · rw [e] at h1; simp [top] at h1; omega
  · exact List.length_pos_iff.2 e

end Go.Proofs.Ytmonaiojejbhkaa

/-! COUNTS OF FACES, of no program: what the law of chapter 4 says of them. -/

namespace Go.Proofs.Ytmonaiojejbhkaa
open Sets

/-- The sum of the first k. -/
def tsumK (xs : List Int) : Nat → Int
  | 0 => 0
  | k + 1 => tsumK xs k + xs.getD k 0
def sgn (k : Nat) (x : Int) : Int := if k % 2 = 1 then x else -x
theorem sgn0 (x : Int) : sgn 0 x = -x := rfl
theorem sgn1 (x : Int) : sgn 1 x = x := rfl
theorem sgn2 (x : Int) : sgn 2 x = -x := rfl
theorem sgn3 (x : Int) : sgn 3 x = x := rfl
theorem sgn4 (x : Int) : sgn 4 x = -x := rfl
theorem sgn5 (x : Int) : sgn 5 x = x := rfl
theorem sgn6 (x : Int) : sgn 6 x = -x := rfl
/-- The sum of the first k with signs, + for odd indices. -/
def ssumK (xs : List Int) : Nat → Int
  | 0 => 0
  | k + 1 => ssumK xs k + sgn k (xs.getD k 0)

theorem cnt_all (L : List Int) : cnt 0 L + cnt 1 L + cnt 2 L + cnt 3 L + cnt 4 L + cnt 5 L + cnt 6 L = L.length := by
  induction L with
  | nil => rfl
  | cons x L ih =>
    have hx : ∀ k, cnt k (x :: L) = cnt k L + if pc x.toNat = k then 1 else 0 := fun k => by
      unfold cnt; rw [List.countP_cons]
      by_cases h : pc x.toNat = k <;> simp [h]
    simp only [hx, List.length_cons]
    have h := pc_le x.toNat
    generalize pc x.toNat = p at h
    rcases (by omega : p = 0 ∨ p = 1 ∨ p = 2 ∨ p = 3 ∨ p = 4 ∨ p = 5 ∨ p = 6) with rfl | rfl | rfl | rfl | rfl | rfl | rfl <;> simp <;> omega

theorem counts_total (L : List Int) : tsumK (counts L) (counts L).length = (L.length : Int) := by
  have h := cnt_all L
  have h7 := top_le L
  have hg := ge_top L
  have hc := counts_at L
  rw [counts_length]
  generalize counts L = f at hc ⊢
  generalize top L = T at hc hg h7 ⊢
  have e : ∀ k, k < T → f.getD k 0 = (cnt k L : Int) := fun k hk => hc k hk
  rcases (by omega : T = 0 ∨ T = 1 ∨ T = 2 ∨ T = 3 ∨ T = 4 ∨ T = 5 ∨ T = 6 ∨ T = 7) with rfl | rfl | rfl | rfl | rfl | rfl | rfl | rfl
  · have g0 := hg 0 (by omega); have g1 := hg 1 (by omega); have g2 := hg 2 (by omega); have g3 := hg 3 (by omega); have g4 := hg 4 (by omega); have g5 := hg 5 (by omega); have g6 := hg 6 (by omega)
    simp only [tsumK]; omega
  · have g1 := hg 1 (by omega); have g2 := hg 2 (by omega); have g3 := hg 3 (by omega); have g4 := hg 4 (by omega); have g5 := hg 5 (by omega); have g6 := hg 6 (by omega)
    simp only [tsumK, e 0 (by omega)]; omega
  · have g2 := hg 2 (by omega); have g3 := hg 3 (by omega); have g4 := hg 4 (by omega); have g5 := hg 5 (by omega); have g6 := hg 6 (by omega)
    simp only [tsumK, e 0 (by omega), e 1 (by omega)]; omega
  · have g3 := hg 3 (by omega); have g4 := hg 4 (by omega); have g5 := hg 5 (by omega); have g6 := hg 6 (by omega)
    simp only [tsumK, e 0 (by omega), e 1 (by omega), e 2 (by omega)]; omega
  · have g4 := hg 4 (by omega); have g5 := hg 5 (by omega); have g6 := hg 6 (by omega)
    simp only [tsumK, e 0 (by omega), e 1 (by omega), e 2 (by omega), e 3 (by omega)]; omega
  · have g5 := hg 5 (by omega); have g6 := hg 6 (by omega)
    simp only [tsumK, e 0 (by omega), e 1 (by omega), e 2 (by omega), e 3 (by omega), e 4 (by omega)]; omega
  · have g6 := hg 6 (by omega)
    simp only [tsumK, e 0 (by omega), e 1 (by omega), e 2 (by omega), e 3 (by omega), e 4 (by omega), e 5 (by omega)]; omega
  · simp only [tsumK, e 0 (by omega), e 1 (by omega), e 2 (by omega), e 3 (by omega), e 4 (by omega), e 5 (by omega), e 6 (by omega)]; omega

theorem counts_signed (L : List Int) : ssumK (counts L) (counts L).length = eul L := by
  have h7 := top_le L
  have hg := ge_top L
  have hc := counts_at L
  unfold eul
  rw [counts_length]
  generalize counts L = f at hc ⊢
  generalize top L = T at hc hg h7 ⊢
  have e : ∀ k, k < T → f.getD k 0 = (cnt k L : Int) := fun k hk => hc k hk
  rcases (by omega : T = 0 ∨ T = 1 ∨ T = 2 ∨ T = 3 ∨ T = 4 ∨ T = 5 ∨ T = 6 ∨ T = 7) with rfl | rfl | rfl | rfl | rfl | rfl | rfl | rfl
  · have g0 := hg 0 (by omega); have g1 := hg 1 (by omega); have g2 := hg 2 (by omega); have g3 := hg 3 (by omega); have g4 := hg 4 (by omega); have g5 := hg 5 (by omega); have g6 := hg 6 (by omega)
    simp only [ssumK]; omega
  · have g1 := hg 1 (by omega); have g2 := hg 2 (by omega); have g3 := hg 3 (by omega); have g4 := hg 4 (by omega); have g5 := hg 5 (by omega); have g6 := hg 6 (by omega)
    simp only [ssumK, e 0 (by omega), sgn0]; omega
  · have g2 := hg 2 (by omega); have g3 := hg 3 (by omega); have g4 := hg 4 (by omega); have g5 := hg 5 (by omega); have g6 := hg 6 (by omega)
    simp only [ssumK, e 0 (by omega), e 1 (by omega), sgn0, sgn1]; omega
  · have g3 := hg 3 (by omega); have g4 := hg 4 (by omega); have g5 := hg 5 (by omega); have g6 := hg 6 (by omega)
    simp only [ssumK, e 0 (by omega), e 1 (by omega), e 2 (by omega), sgn0, sgn1, sgn2]; omega
  · have g4 := hg 4 (by omega); have g5 := hg 5 (by omega); have g6 := hg 6 (by omega)
    simp only [ssumK, e 0 (by omega), e 1 (by omega), e 2 (by omega), e 3 (by omega), sgn0, sgn1, sgn2, sgn3]; omega
  · have g5 := hg 5 (by omega); have g6 := hg 6 (by omega)
    simp only [ssumK, e 0 (by omega), e 1 (by omega), e 2 (by omega), e 3 (by omega), e 4 (by omega), sgn0, sgn1, sgn2, sgn3, sgn4]; omega
  · have g6 := hg 6 (by omega)
    simp only [ssumK, e 0 (by omega), e 1 (by omega), e 2 (by omega), e 3 (by omega), e 4 (by omega), e 5 (by omega), sgn0, sgn1, sgn2, sgn3, sgn4, sgn5]; omega
  · simp only [ssumK, e 0 (by omega), e 1 (by omega), e 2 (by omega), e 3 (by omega), e 4 (by omega), e 5 (by omega), e 6 (by omega), sgn0, sgn1, sgn2, sgn3, sgn4, sgn5, sgn6]; omega

/-! ### faces of one point are the used points -/

theorem sub_bit (t i : Nat) (ht : t < 64) (hi : i < 6) : sub (2 ^ i) t = t.testBit i := by
  have H : ∀ (t : Fin 64) (i : Fin 6), sub (2 ^ i.val) t.val = t.val.testBit i.val := by decide +kernel
  exact H ⟨t, ht⟩ ⟨i, hi⟩
theorem orN_bit (i : Nat) : ∀ (xs : List Int) (a : Nat), (xs.foldl (fun a x => a ||| x.toNat) a).testBit i = (a.testBit i || xs.any fun x => x.toNat.testBit i)
  | [], a => by simp
  | x :: xs, a => by
    rw [List.foldl_cons, orN_bit i xs, Nat.testBit_or, List.any_cons, Bool.or_assoc]
theorem inF_bit (xs : List Int) (h : allOk xs = true) (i : Nat) (hi : i < 6) : inF xs (2 ^ i) = (orN xs).testBit i := by
  unfold orN
  rw [orN_bit, Nat.zero_testBit, Bool.false_or]
  unfold inF
  rw [Bool.eq_iff_iff, List.any_eq_true, List.any_eq_true]
  unfold allOk at h
  constructor
  · rintro ⟨x, hx, e⟩
    obtain ⟨t, rfl, ht⟩ := okZ_cast x (List.all_eq_true.1 h x hx)
    exact ⟨_, hx, by show t.testBit i = true; rw [← sub_bit _ i ht hi]; exact e⟩
  · rintro ⟨x, hx, e⟩
    obtain ⟨t, rfl, ht⟩ := okZ_cast x (List.all_eq_true.1 h x hx)
    exact ⟨_, hx, by show sub (2 ^ i) t = true; rw [sub_bit _ i ht hi]; exact e⟩
theorem cnt1_ord (p : Nat → Bool) : cnt 1 (ord p) = ([1, 2, 4, 8, 16, 32] : List Int).countP fun x => p x.toNat := by
  have e : (ord fun _ => true).filter (fun x => pc x.toNat == 1) = [1, 2, 4, 8, 16, 32] := by decide +kernel
  rw [← e, List.countP_filter, ord_filter p]
  unfold cnt
  rw [List.countP_filter]
  apply List.countP_congr
  intro x _
  rw [Bool.and_comm]
theorem pc_bits (u : Nat) (h : u < 64) : pc u = ([1, 2, 4, 8, 16, 32] : List Int).countP fun x => u.testBit (pc (x.toNat - 1)) := by
  have H : ∀ u : Fin 64, pc u.val = ([1, 2, 4, 8, 16, 32] : List Int).countP fun x => u.val.testBit (pc (x.toNat - 1)) := by decide +kernel
  exact H ⟨u, h⟩
theorem cnt1_used {n : Int} {xs : List Int} (h : isC n xs = true) : cnt 1 (faces n xs) = pc (orN xs) := by
  have hok := isC_ok h
  have hF : faces n xs = ord (inF xs) := by unfold faces; rw [if_pos h]
  rw [hF, cnt1_ord, pc_bits _ (orN_lt xs hok)]
  apply List.countP_congr
  intro x hx
  have e : x.toNat = 2 ^ pc (x.toNat - 1) ∧ pc (x.toNat - 1) < 6 := by
    simp only [List.mem_cons, List.not_mem_nil, or_false] at hx
    rcases hx with rfl | rfl | rfl | rfl | rfl | rfl <;> decide
  have hb := inF_bit xs hok (pc (x.toNat - 1)) e.2
  rw [← e.1] at hb
  rw [hb]
/-- The law's last comparison. -/
theorem cnt1_size (n : Int) (xs : List Int) : (cnt 1 (faces n xs) : Int) = sizeZ (used n xs) := by
  cases h : isC n xs with
  | true =>
    have hu : used n xs = (orN xs : Int) := by unfold used; rw [if_pos h]
    rw [hu, sizeZ_nat _ (orN_lt xs (isC_ok h)), cnt1_used h]
  | false =>
    have hu : used n xs = 0 := by unfold used; rw [if_neg (by rw [h]; simp)]
    have hf : faces n xs = [] := by unfold faces; rw [if_neg (by rw [h]; simp)]
    rw [hu, hf]; rfl
/-- The law's first one. -/
theorem counts_dim (n : Int) (xs : List Int) : ((counts (faces n xs)).length : Int) = dimZ n xs + 2 := by
  rw [counts_length]
  cases h : isC n xs with
  | true =>
    by_cases h0 : 0 < xs.length
    · exact faces_top h h0
    · have : xs = [] := List.eq_nil_of_length_eq_zero (by omega)
      subst this
      rw [faces_nil, dimZ_nil]; rfl
  | false =>
    have hf : faces n xs = [] := by unfold faces; rw [if_neg (by rw [h]; simp)]
    rw [hf, dimZ_no h]; rfl
theorem dim_range (n : Int) (xs : List Int) : -2 ≤ dimZ n xs ∧ dimZ n xs ≤ 5 := by
  have h := counts_dim n xs
  rw [counts_length] at h
  have := top_le (faces n xs)
  omega

end Go.Proofs.Ytmonaiojejbhkaa

/-! H NUMBERS, of no program: binomial numbers, sums by them, what chapter 10's law says. -/

namespace Go.Proofs.Ytmonaiojejbhkaa.Hn
open Sets

/-- How many ways to choose k of n. -/
def ch : Nat → Nat → Nat
  | _, 0 => 1
  | 0, _ + 1 => 0
  | n + 1, k + 1 => ch n k + ch n (k + 1)
theorem ch_zero (n : Nat) : ch n 0 = 1 := by cases n <;> rfl
theorem ch_next (n k : Nat) : ch (n + 1) (k + 1) = ch n k + ch n (k + 1) := rfl
theorem ch_gt : ∀ (n k : Nat), n < k → ch n k = 0
  | 0, 0, h => by omega
  | 0, _ + 1, _ => rfl
  | n + 1, 0, h => by omega
  | n + 1, k + 1, h => by rw [ch_next, ch_gt n k (by omega), ch_gt n (k + 1) (by omega)]
theorem ch_mul : ∀ (n k : Nat), ch (n + 1) (k + 1) * (k + 1) = ch n k * (n + 1)
  | 0, 0 => rfl
  | 0, k + 1 => by rw [ch_next, ch_gt 0 (k + 1) (by omega), ch_gt 0 (k + 1 + 1) (by omega)]; omega
  | n + 1, 0 => by
    have h := ch_mul n 0
    rw [ch_next, ch_zero]
    rw [ch_zero] at h
    omega
  | n + 1, k + 1 => by
    have h1 := ch_mul n k
    have h2 := ch_mul n (k + 1)
    rw [ch_next (n + 1) (k + 1)]
    have h3 := ch_next n k
    have e1 : (ch (n + 1) (k + 1) + ch (n + 1) (k + 1 + 1)) * (k + 1 + 1) = ch (n + 1) (k + 1) * (k + 1) + ch (n + 1) (k + 1) + ch (n + 1) (k + 1 + 1) * (k + 1 + 1) := by
      rw [Nat.add_mul, Nat.mul_add (ch (n + 1) (k + 1)) (k + 1) 1, Nat.mul_one]
    rw [e1, h1, h2]
    have e2 : ch (n + 1) (k + 1) * (n + 1 + 1) = ch n k * (n + 1) + ch n (k + 1) * (n + 1) + ch (n + 1) (k + 1) := by
      rw [Nat.mul_add (ch (n + 1) (k + 1)) (n + 1) 1, Nat.mul_one, h3, Nat.add_mul]
    rw [e2]; omega
theorem ch_step (n i : Nat) (h : i ≤ n) : ch n (i + 1) * (i + 1) = ch n i * (n - i) := by
  have h1 := ch_mul n i
  rw [ch_next, Nat.add_mul] at h1
  have e : ch n i * (n + 1) = ch n i * (n - i) + ch n i * (i + 1) := by rw [← Nat.mul_add]; congr 1; omega
  omega

/-- The numbers of n things, side by side. -/
def nxt : List Nat → List Nat
  | [] => []
  | x :: r => (x + r.headD 0) :: nxt r
def line : Nat → List Nat
  | 0 => [1]
  | n + 1 => 1 :: nxt (line n)
theorem nxt_get : ∀ (l : List Nat) (k : Nat), (nxt l).getD k 0 = l.getD k 0 + if k < l.length then l.getD (k + 1) 0 else 0
  | [], k => by simp [nxt]
  | x :: r, 0 => by cases r <;> simp [nxt]
  | x :: r, k + 1 => by
    have := nxt_get r k
    simp only [nxt, List.getD_cons_succ, List.length_cons, Nat.add_lt_add_iff_right]
    exact this
theorem line_length : ∀ n, (line n).length = n + 1
  | 0 => rfl
  | n + 1 => by
    have h : ∀ l, (nxt l).length = l.length := by
      intro l
      induction l with
      | nil => rfl
      | cons x r ih => simp [nxt, ih]
    simp [line, h, line_length n]
theorem line_get : ∀ (n k : Nat), (line n).getD k 0 = ch n k
  | 0, 0 => rfl
  | 0, k + 1 => rfl
  | n + 1, 0 => by rw [ch_zero]; rfl
  | n + 1, k + 1 => by
    rw [ch_next, ← line_get n k, ← line_get n (k + 1)]
    show (nxt (line n)).getD k 0 = _
    rw [nxt_get, line_length]
    by_cases h : k < n + 1
    · rw [if_pos h]
    · rw [if_neg h]
      have : (line n).getD (k + 1) 0 = 0 := by rw [line_get n (k + 1), ch_gt n (k + 1) (by omega)]
      rw [this]
theorem lines_le : ((List.range 61).all fun n => (line n).all fun x => decide (x ≤ 118264581564861424)) = true := by decide +kernel
theorem lines_few : ((List.range 7).all fun n => (line n).all fun x => decide (x ≤ 20)) = true := by decide +kernel
theorem getD_le {l : List Nat} {m : Nat} (h : (l.all fun x => decide (x ≤ m)) = true) (k : Nat) : l.getD k 0 ≤ m := by
  rw [List.all_eq_true] at h
  rcases Nat.lt_or_ge k l.length with hk | hk
  · have := h (l[k]) (List.getElem_mem hk)
    rw [List.getD, List.getElem?_eq_getElem hk]
    simpa using this
  · rw [List.getD, List.getElem?_eq_none hk]; exact Nat.zero_le _
theorem ch_big (n k : Nat) (h : n ≤ 60) : ch n k ≤ 118264581564861424 := by
  rw [← line_get]
  exact getD_le (List.all_eq_true.1 lines_le n (by rw [List.mem_range]; omega)) k
theorem ch_few (n k : Nat) (h : n ≤ 6) : ch n k ≤ 20 := by
  rw [← line_get]
  exact getD_le (List.all_eq_true.1 lines_few n (by rw [List.mem_range]; omega)) k

/-- Choose. -/
def chZ (n k : Int) : Int := if 0 ≤ n ∧ n ≤ 60 ∧ 0 ≤ k ∧ k ≤ n then (ch n.toNat k.toNat : Int) else 0

/-- The k-th power of a sign. -/
def pw (s : Int) : Nat → Int
  | 0 => 1
  | j + 1 => pw s j * s
theorem pw_one : ∀ j, pw 1 j = 1
  | 0 => rfl
  | j + 1 => by rw [pw, pw_one j]; rfl
theorem pw_neg : ∀ j : Nat, pw (-1) j = 1 - 2 * ((j % 2 : Nat) : Int)
  | 0 => rfl
  | j + 1 => by rw [pw, pw_neg j]; omega
theorem pw_sign (s : Int) (h : s = 1 ∨ s = -1) (j : Nat) : pw s j = 1 ∨ pw s j = -1 := by
  rcases h with rfl | rfl
  · exact .inl (pw_one j)
  · rw [pw_neg]; omega

/-- The first m parts of the sum at k. -/
def hs (s : Int) (L : List Int) (d k : Nat) : Nat → Int
  | 0 => 0
  | m + 1 => hs s L d k m + pw s (k - m) * L.getD m 0 * (ch (d - m) (k - m) : Int)
/-- Sums by binomial numbers. -/
def hsums (s : Int) (L : List Int) : List Int := (List.range L.length).map fun k => hs s L (L.length - 1) k (k + 1)
theorem hsums_length (s : Int) (L : List Int) : (hsums s L).length = L.length := by simp [hsums]
theorem hsums_at (s : Int) (L : List Int) (k : Nat) (h : k < L.length) : (hsums s L).getD k 0 = hs s L (L.length - 1) k (k + 1) := by
  simp [hsums, List.getD, h]
/-- One part. -/
theorem part_le (s : Int) (h : s = 1 ∨ s = -1) (x : Int) (hx : -1000 ≤ x ∧ x ≤ 1000) (d k m : Nat) (hd : d ≤ 6) : -20000 ≤ pw s (k - m) * x * (ch (d - m) (k - m) : Int) ∧ pw s (k - m) * x * (ch (d - m) (k - m) : Int) ≤ 20000 := by
  have hc := ch_few (d - m) (k - m) (by omega)
  generalize ch (d - m) (k - m) = c at hc ⊢
  have hy : -1000 ≤ pw s (k - m) * x ∧ pw s (k - m) * x ≤ 1000 := by rcases pw_sign s h (k - m) with e | e <;> rw [e] <;> omega
  generalize pw s (k - m) * x = y at hy ⊢
  have h1 : (1000 - y) * (c : Int) ≥ 0 := Int.mul_nonneg (by omega) (by omega)
  have h2 : (y + 1000) * (c : Int) ≥ 0 := Int.mul_nonneg (by omega) (by omega)
  rw [Int.sub_mul] at h1
  rw [Int.add_mul] at h2
  omega
theorem hs_le (s : Int) (h : s = 1 ∨ s = -1) (L : List Int) (hx : ∀ j, -1000 ≤ L.getD j 0 ∧ L.getD j 0 ≤ 1000) (d k : Nat) (hd : d ≤ 6) : ∀ m : Nat, -20000 * (m : Int) ≤ hs s L d k m ∧ hs s L d k m ≤ 20000 * (m : Int)
  | 0 => by simp [hs]
  | m + 1 => by
    have h1 := hs_le s h L hx d k hd m
    have h2 := part_le s h _ (hx m) d k m hd
    rw [hs]
    generalize pw s (k - m) * L.getD m 0 * (ch (d - m) (k - m) : Int) = y at h2 ⊢
    omega

/-- GNumbers, of h numbers. -/
def gnum (h : List Int) : List Int := if h = [] then [] else 1 :: (List.range ((h.length - 1) / 2)).map fun k => h.getD (k + 1) 0 - h.getD k 0
theorem gnum_nil : gnum [] = [] := rfl
theorem gnum_length (h : List Int) (h0 : 0 < h.length) : (gnum h).length = (h.length - 1) / 2 + 1 := by
  unfold gnum; rw [if_neg (by intro e; rw [e] at h0; simp at h0)]; simp
/-- The first k steps. -/
def gto (h : List Int) (k : Nat) : List Int := 1 :: (List.range k).map fun k => h.getD (k + 1) 0 - h.getD k 0
theorem gto_zero (h : List Int) : gto h 0 = [1] := rfl
theorem gto_next (h : List Int) (k : Nat) : gto h (k + 1) = gto h k ++ [h.getD (k + 1) 0 - h.getD k 0] := by
  unfold gto; rw [List.range_succ, List.map_append]; rfl
theorem gto_length (h : List Int) (k : Nat) : (gto h k).length = k + 1 := by simp [gto]
theorem gto_end (h : List Int) (h0 : 0 < h.length) : gto h ((h.length - 1) / 2) = gnum h := by
  unfold gnum gto; rw [if_neg (by intro e; rw [e] at h0; simp at h0)]
/-- IsSymmetricH. -/
def symB (h : List Int) : Bool := !h.isEmpty && (h == h.reverse)
/-- TopH. -/
def topZ (h : List Int) : Int := h.getD (h.length - 1) 0
/-- CountsFromH. -/
def nearB (h : List Int) : Bool := h.all fun x => decide (-1000 ≤ x ∧ x ≤ 1000)
def fromH (h : List Int) : List Int := if 0 < h.length ∧ h.length ≤ 7 ∧ nearB h = true then hsums 1 h else []
theorem near_at {L : List Int} (h : nearB L = true) (j : Nat) : -1000 ≤ L.getD j 0 ∧ L.getD j 0 ≤ 1000 := by
  unfold nearB at h
  rw [List.all_eq_true] at h
  rcases Nat.lt_or_ge j L.length with hj | hj
  · have := h (L[j]) (List.getElem_mem hj)
    rw [List.getD, List.getElem?_eq_getElem hj]
    simpa using this
  · rw [List.getD, List.getElem?_eq_none hj]
    exact ⟨by decide, by decide⟩
/-- HNumbers. -/
def hnum (n : Int) (xs : List Int) : List Int := hsums (-1) (counts (faces n xs))

end Go.Proofs.Ytmonaiojejbhkaa.Hn

/-! A MAP from pairs of numbers to numbers that remembers how many ways there are to choose. -/

namespace Go.Proofs.Ytmonaiojejbhkaa
open Go.RowKit
open Go.Maps (Keyed)
open Hn

/-- A pair of numbers, as a value. -/
def pairV (n k : Int) : Value := .agg #[.int .i64 n, .int .i64 k]

theorem pair_keyed : Keyed Try.prog 75 := Keyed.of_law (deep_law_laid (m := 2) (by kernel_rfl) (by omega) (of_decide_eq_true (by kernel_rfl)) (by kernel_rfl) (by rw [Try.underlying75]))

theorem pair_type : Try.prog.keyType 75 = true := by kernel_rfl
theorem pair_cells : Try.prog.cellsOf 75 = 2 := by kernel_rfl
theorem int_cells : Try.prog.cellsOf 3 = 1 := by kernel_rfl

theorem pair_lits (d : Nat) (n k : Int) (hn : (Lit.int .i64 n).wf = true) (hk : (Lit.int .i64 k).wf = true) :
    Try.prog.keyLits (d + 2) 75 [.int .i64 n, .int .i64 k] = some [.int .i64 n, .int .i64 k] := by
  simp [Program.keyLits, Try.underlying75, Try.underlying3, pair_cells, int_cells, hn, hk, show List.range 2 = [0, 1] from rfl]

theorem pair_key (n k : Int) (hn : (Lit.int .i64 n).wf = true) (hk : (Lit.int .i64 k).wf = true) : keyOf Try.prog 75 (pairV n k) = some (.string (keyBytes [.int .i64 n, .int .i64 k])) := by
  have hs : ∃ d, Try.prog.types.size + 1 = d + 2 := ⟨Try.prog.types.size - 1, by
    have : (75 : Nat) < Try.prog.types.size := of_decide_eq_true (by kernel_rfl)
    omega⟩
  obtain ⟨d, hd⟩ := hs
  have hf : (pairV n k).formed Try.prog 75 = true := by simp [pairV, Value.formed, Try.underlying75, pair_cells]
  unfold keyOf
  rw [Try.underlying75]
  show (if (Try.prog.keyType 75 && (pairV n k).formed Try.prog 75) = true then (Try.prog.keyLits (Try.prog.types.size + 1) 75 [.int .i64 n, .int .i64 k]).map (fun ls => Lit.string (keyBytes ls)) else none) = _
  rw [pair_type, hf, hd, pair_lits d n k hn hk]
  rfl

/-- Block b is a map of at most m entries: whatever it holds of a pair is how many ways there are to choose. -/
def CMap (w : World) (b m : Nat) : Prop :=
  ∃ D : DataW Unit, w.ownsMap Try.prog 75 (plainElem Try.prog 3) b m D ∧ Maps.IsMap D ∧ ∀ (n k : Nat) (l : Lit), keyOf Try.prog 75 (pairV n k) = some l → Maps.has D l = true → D.atKey l (.lit (.int .i64 0)) = .lit (.int .i64 (ch n k : Nat))

theorem CMap.made (w : World) : CMap (w.alloc (.map #[] 0)) w.heap.size 0 :=
  ⟨.map [], World.ownsMap_made w _ _ _, ⟨[], rfl⟩, fun _ _ _ _ h => by simp [Maps.has] at h⟩

theorem CMap.lt {w : World} {b m : Nat} (h : CMap w b m) : b < w.heap.size := by
  obtain ⟨D, h1, _⟩ := h
  exact h1.lt

theorem CMap.away {w w' : World} {b m : Nat} {row : Option Nat} (h : CMap w b m) (hg : w.grownBy w' row) (hne : some b ≠ row) : CMap w' b m := by
  obtain ⟨D, h1, h2, h3⟩ := h
  exact ⟨D, h1.kept hg hne, h2, h3⟩

theorem CMap.keeps {w w' : World} {b m : Nat} (h : CMap w b m) (hb : Below w.heap.size w w') : CMap w' b m := h.away (Mem.but_of_below hb none) (by simp)

theorem CMap.mono {w : World} {b m : Nat} (h : CMap w b m) {j : Nat} (hj : m ≤ j) : CMap w b j := by
  obtain ⟨D, h1, h2, h3⟩ := h
  exact ⟨D, h1.mono hj, h2, h3⟩

theorem CMap.setCell {w : World} {b m : Nat} (h : CMap w b m) (c o : Nat) (v : Value) (hc : c ≠ b) : CMap (w.setCell ⟨c, o, none⟩ v) b m :=
  h.away (Mem.but_setCell w c o v) (by simpa using fun e => hc e.symm)

theorem CMap.drewN {w : World} {b m : Nat} (h : CMap w b m) (n : Nat) : CMap (w.drewN n) b m := h

theorem cmap_zero (w : World) : (zeroValue 3).run Try.prog w = .ok (.int .i64 0) w := by kernel_rfl

theorem nat_wf {n : Nat} (h : n ≤ 9223372036854775807) : (Lit.int .i64 (n : Int)).wf = true := WalkArith.wf_i64 (by omega)

/-- v, ok := m[{n, k}] at the operation. -/
theorem wpList_cmap_look (w : World) {ops : Array Oper} {rest : List Oper} {o : Oper} {a : Act} {Q : Exit → Act → World → Prop}
    (hg : Region.wanted o (yielded ops a.tmps) = true) (m x : Operand) (hop : o.op = Op.lookup 73 m x true)
    (b j : Nat) (hm : a.eval m = .map (some b)) (h : CMap w b j) (n k : Nat) (hn : n ≤ 60) (hk : k ≤ 60) (hx : a.eval x = pairV n k)
    (hK : ∀ (c : Int) (ok : Bool), (ok = true → c = (ch n k : Nat)) → wpList Try.prog ops Q rest (a.put o.dst (.tuple #[.int .i64 c, .bool ok])) w) :
    wpList Try.prog ops Q (o :: rest) a w := by
  refine wpList_step fun K' hK' => ?_
  rw [if_pos hg]
  obtain ⟨D, h1, h2, h3⟩ := h
  have hkey := pair_key n k (nat_wf (by omega)) (nat_wf (by omega))
  obtain ⟨v, ps, hrun, hv⟩ := h1.look_ok pair_keyed Try.underlying73 (cmap_zero w) (plainElem_int Try.underlying3 (by decide)) hkey
  obtain ⟨c, rfl, hc, hwc⟩ := plainElem_int_inv Try.underlying3 hv
  unfold Oper.wp
  simp [execOp, hop, hm, hx, hrun, Result.andThen]
  refine hK' _ _ (hK c _ fun hok => ?_)
  have e := h3 n k _ hkey hok
  have e2 := congrArg Prod.fst hc
  rw [e] at e2
  injection e2 with e2
  injection e2 with _ e2
  exact e2.symm

/-- m[{n, k}] = how many ways, at the operation. -/
theorem wpList_cmap_put (w : World) {ops : Array Oper} {rest : List Oper} {o : Oper} {a : Act} {Q : Exit → Act → World → Prop}
    (hg : o.guard = none) (m x v : Operand) (hop : o.op = Op.mapUpdate 73 m x v)
    (b j : Nat) (hm : a.eval m = .map (some b)) (h : CMap w b j) (hj : j < maxLen) (n k : Nat) (hn : n ≤ 60) (hk : k ≤ 60) (hx : a.eval x = pairV n k) (z : Int) (hv : a.eval v = .int .i64 z) (hz : z = (ch n k : Nat))
    (hK : ∀ w', CMap w' b (j + 1) → w.grownBy w' (some b) → wpList Try.prog ops Q rest (a.put o.dst undef) w') :
    wpList Try.prog ops Q (o :: rest) a w := by
  subst hz
  obtain ⟨D, h1, h2, h3⟩ := h
  have hkey := pair_key n k (nat_wf (by omega)) (nat_wf (by omega))
  have hc := ch_big n k hn
  refine wpList_mapUpdate_own w hg m x v _ hop _ _ pair_keyed Try.underlying73 _ b j D hm h1 hj _ _ _ hx hv hkey (.lit (.int .i64 (ch n k : Nat))) [] (plainElem_int Try.underlying3 (nat_wf (by omega))) fun w' h1' hg' => ?_
  refine hK w' ⟨_, h1', h2.put _ _, fun n' k' l hl hh => ?_⟩ hg'
  by_cases e : l = .string (keyBytes [.int .i64 (n : Int), .int .i64 (k : Int)])
  · subst e
    have := pair_keyed.inj hl hkey
    unfold pairV at this
    injection this with this
    have e1 := congrArg (fun x : Array Value => x.getD 0 (.bool true)) this
    have e2 := congrArg (fun x : Array Value => x.getD 1 (.bool true)) this
    simp at e1 e2
    obtain rfl : n' = n := by omega
    obtain rfl : k' = k := by omega
    exact Maps.atKey_put_same h2 (pair_keyed.key hkey) _ _
  · rw [Maps.has_put_other e] at hh
    rw [Maps.atKey_put_other e]
    exact h3 n' k' l hl hh

end Go.Proofs.Ytmonaiojejbhkaa
