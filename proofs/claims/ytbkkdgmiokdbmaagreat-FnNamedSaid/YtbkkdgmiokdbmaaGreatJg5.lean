/-
  TEXTS of one claim, put together: Cnt, Hom5, Dual2, Nam1.
-/
import Derived.Test.YtbkkdgmiokdbmaaGreatJg1
import Derived.Test.YtbkkdgmiokdbmaaGreatJg4
import Derived.Test.YtbkkdgmiokdbmaaGreatJg3
/-! COUNTS OF FACES, of no program. -/

namespace Go.Proofs.YtbkkdgmiokdbmaaGreat
open Sets

/-- How many of a list have so many points. -/
def cnt (k : Nat) (L : List Int) : Nat := L.countP fun x => pc x.toNat == k
theorem cnt_nil (k : Nat) : cnt k [] = 0 := rfl
theorem cnt_snoc (k : Nat) (L : List Int) (x : Int) : cnt k (L ++ [x]) = cnt k L + if pc x.toNat = k then 1 else 0 := by
  unfold cnt
  rw [List.countP_append]
  by_cases h : pc x.toNat = k <;> simp [h]
theorem cnt_le (k : Nat) (L : List Int) : cnt k L ≤ L.length := List.countP_le_length
theorem take_nx (L : List Int) (k : Nat) (h : k < L.length) : L.take (k + 1) = L.take k ++ [L.getD k 0] := by
  rw [List.take_add_one, List.getD, List.getElem?_eq_getElem h]; rfl
theorem cnt_take (k : Nat) (L : List Int) (j : Nat) (h : j < L.length) : cnt k (L.take (j + 1)) = cnt k (L.take j) + if pc (L.getD j 0).toNat = k then 1 else 0 := by
  rw [take_nx L j h, cnt_snoc]
/-- The counts of the sizes from 0 to 6. -/
def cnts (L : List Int) : List Int := (List.range 7).map fun k => (cnt k L : Int)
theorem cnts_length (L : List Int) : (cnts L).length = 7 := by simp [cnts]
theorem cnts_at (L : List Int) (k : Nat) (h : k < 7) : (cnts L).getD k 0 = (cnt k L : Int) := by
  simp [cnts, List.getD, h]

/-- One more than the greatest size. -/
def top (L : List Int) : Nat := L.foldl (fun m x => max m (pc x.toNat + 1)) 0
theorem top_snoc (L : List Int) (x : Int) : top (L ++ [x]) = max (top L) (pc x.toNat + 1) := by
  unfold top; rw [List.foldl_append]; rfl
theorem top_take (L : List Int) (j : Nat) (h : j < L.length) : top (L.take (j + 1)) = max (top (L.take j)) (pc (L.getD j 0).toNat + 1) := by
  rw [take_nx L j h, top_snoc]
theorem top_le (L : List Int) : top L ≤ 7 := by
  have h : ∀ (L : List Int) (m : Nat), m ≤ 7 → L.foldl (fun m x => max m (pc x.toNat + 1)) m ≤ 7 := by
    intro L
    induction L with
    | nil => intro m h; exact h
    | cons x L ih => intro m h; exact ih _ (by have := pc_le x.toNat; dsimp only; omega)
  exact h L 0 (by omega)
theorem top_ge (L : List Int) (x : Int) (hx : x ∈ L) : pc x.toNat + 1 ≤ top L := by
  have h2 : ∀ (L : List Int) (m : Nat), m ≤ L.foldl (fun m x => max m (pc x.toNat + 1)) m := by
    intro L
    induction L with
    | nil => intro m; exact Nat.le_refl _
    | cons x L ih => intro m; exact Nat.le_trans (Nat.le_max_left _ _) (ih _)
  have h : ∀ (L : List Int) (m : Nat), x ∈ L → pc x.toNat + 1 ≤ L.foldl (fun m x => max m (pc x.toNat + 1)) m := by
    intro L
    induction L with
    | nil => intro m hx; simp at hx
    | cons y L ih =>
      intro m hx
      rcases List.mem_cons.1 hx with rfl | hx
      · exact Nat.le_trans (Nat.le_max_right _ _) (h2 L _)
      · exact ih _ hx
  exact h L 0 hx
theorem top_le_of (L : List Int) (m : Nat) (h : ∀ x, x ∈ L → pc x.toNat + 1 ≤ m) : top L ≤ m := by
  have h1 : ∀ (L : List Int) (n : Nat), n ≤ m → (∀ x, x ∈ L → pc x.toNat + 1 ≤ m) → L.foldl (fun m x => max m (pc x.toNat + 1)) n ≤ m := by
    intro L
    induction L with
    | nil => intro n h _; exact h
    | cons x L ih => intro n h k; exact ih _ (by have := k x (List.mem_cons_self ..); dsimp only; omega) (fun y hy => k y (List.mem_cons_of_mem _ hy))
  exact h1 L 0 (by omega) h

/-- Counts up to the greatest size. -/
def counts (L : List Int) : List Int := (cnts L).take (top L)
theorem counts_length (L : List Int) : (counts L).length = top L := by
  unfold counts; rw [List.length_take, cnts_length]; have := top_le L; omega
theorem counts_at (L : List Int) (k : Nat) (h : k < top L) : (counts L).getD k 0 = (cnt k L : Int) := by
  have := top_le L
  rw [← cnts_at L k (by omega)]
  unfold counts
  rw [List.getD, List.getElem?_take_of_lt h, List.getD]
theorem counts_nil : counts [] = [] := rfl
theorem ge_top (L : List Int) (k : Nat) (h : top L ≤ k) : cnt k L = 0 := by
  unfold cnt
  rw [List.countP_eq_zero]
  intro x hx e
  have := top_ge L x hx
  simp at e
  omega

/-- DimOf. -/
def dimZ (n : Int) (xs : List Int) : Int := if isC n xs = true ∧ xs ≠ [] then (pc (xs.getD (xs.length - 1) 0).toNat : Int) - 1 else -2
theorem dimZ_yes {n : Int} {xs : List Int} (h : isC n xs = true) (h0 : 0 < xs.length) : dimZ n xs = (pc (xs.getD (xs.length - 1) 0).toNat : Int) - 1 := by
  unfold dimZ; rw [if_pos ⟨h, fun e => by rw [e] at h0; simp at h0⟩]
theorem dimZ_no {n : Int} {xs : List Int} (h : isC n xs = false) : dimZ n xs = -2 := by
  unfold dimZ; rw [if_neg (by rw [h]; simp)]
theorem dimZ_nil (n : Int) : dimZ n [] = -2 := by unfold dimZ; rw [if_neg (by simp)]

/-- FacesOfSize. -/
def sized (k : Int) (L : List Int) : List Int := L.filter fun x => (pc x.toNat : Int) == k
theorem sized_length (k : Int) (L : List Int) : (sized k L).length ≤ L.length := List.length_filter_le _ _
theorem sized_cnt (k : Nat) (L : List Int) : (sized (k : Int) L).length = cnt k L := by
  unfold sized cnt
  rw [List.countP_eq_length_filter]
  congr 1
  apply List.filter_congr
  intro x _
  rw [Bool.eq_iff_iff, beq_iff_eq, beq_iff_eq]; omega
theorem sized_hit (k : Int) (L : List Int) (j : Nat) (h : j < L.length) (e : (pc (L.getD j 0).toNat : Int) = k) : sized k (L.take (j + 1)) = sized k (L.take j) ++ [L.getD j 0] := by
  rw [take_nx L j h]; unfold sized; rw [List.filter_append]; generalize L.getD j 0 = x at e ⊢; simp [e]
theorem sized_miss (k : Int) (L : List Int) (j : Nat) (h : j < L.length) (e : (pc (L.getD j 0).toNat : Int) ≠ k) : sized k (L.take (j + 1)) = sized k (L.take j) := by
  rw [take_nx L j h]; unfold sized; rw [List.filter_append]; generalize L.getD j 0 = x at e ⊢; simp [e]

/-- EulerOf. -/
def eul (L : List Int) : Int := -(cnt 0 L : Int) + cnt 1 L - cnt 2 L + cnt 3 L - cnt 4 L + cnt 5 L - cnt 6 L
theorem eul_nil : eul [] = 0 := rfl
theorem eul_snoc (L : List Int) (x : Int) : eul (L ++ [x]) = eul L + (2 * ((pc x.toNat % 2 : Nat) : Int) - 1) := by
  unfold eul
  simp only [cnt_snoc]
  have h := pc_le x.toNat
  generalize pc x.toNat = p at h
  rcases (by omega : p = 0 ∨ p = 1 ∨ p = 2 ∨ p = 3 ∨ p = 4 ∨ p = 5 ∨ p = 6) with rfl | rfl | rfl | rfl | rfl | rfl | rfl <;> simp <;> omega
theorem eul_take (L : List Int) (j : Nat) (h : j < L.length) : eul (L.take (j + 1)) = eul (L.take j) + (2 * ((pc (L.getD j 0).toNat % 2 : Nat) : Int) - 1) := by
  rw [take_nx L j h, eul_snoc]
theorem eul_bound (L : List Int) : -(L.length : Int) * 7 ≤ eul L ∧ eul L ≤ (L.length : Int) * 7 := by
  unfold eul
  have h0 := cnt_le 0 L; have h1 := cnt_le 1 L; have h2 := cnt_le 2 L; have h3 := cnt_le 3 L; have h4 := cnt_le 4 L; have h5 := cnt_le 5 L; have h6 := cnt_le 6 L
  omega

/-- All facets have one size. -/
def evenB (xs : List Int) : Bool := xs.all fun x => pc x.toNat == pc (xs.getD 0 0).toNat
/-- IsPure. -/
def pureB (n : Int) (xs : List Int) : Bool := isC n xs && evenB xs
theorem even_no {xs : List Int} {k : Nat} (hk : k < xs.length) (h : pc (xs.getD k 0).toNat ≠ pc (xs.getD 0 0).toNat) : evenB xs = false := by
  rw [Bool.eq_false_iff]; intro e
  unfold evenB at e
  have := List.all_eq_true.1 e (xs.getD k 0) (by rw [List.getD, List.getElem?_eq_getElem hk]; exact List.getElem_mem hk)
  rw [beq_iff_eq] at this
  exact h this
theorem even_yes {xs : List Int} (h : ∀ j, j < xs.length → pc (xs.getD j 0).toNat = pc (xs.getD 0 0).toNat) : evenB xs = true := by
  unfold evenB; rw [List.all_eq_true]; intro x hx
  obtain ⟨j, hj, rfl⟩ := List.mem_iff_getElem.1 hx
  have := h j hj
  rw [List.getD, List.getElem?_eq_getElem hj] at this
  rw [beq_iff_eq]; exact this
theorem even_at {xs : List Int} (h : evenB xs = true) (x : Int) (hx : x ∈ xs) : pc x.toNat = pc (xs.getD 0 0).toNat := by
  unfold evenB at h
  have := List.all_eq_true.1 h x hx
  rwa [beq_iff_eq] at this

/-- What IsPure compares: as many facets as there are, at every size that there is. -/
def ones (xs : List Int) (k : Nat) : List Int := (List.range 7).map fun s => if cnt s (xs.take k) = 0 then 0 else (xs.length : Int)
theorem ones_length (xs : List Int) (k : Nat) : (ones xs k).length = 7 := by simp [ones]
theorem ones_at (xs : List Int) (k s : Nat) (h : s < 7) : (ones xs k).getD s 0 = if cnt s (xs.take k) = 0 then 0 else (xs.length : Int) := by
  simp [ones, List.getD, h]
theorem cnts_ones (xs : List Int) : (cnts xs == ones xs xs.length) = evenB xs := by
  rw [Bool.eq_iff_iff, beq_iff_eq]
  constructor
  · intro h
    apply even_yes
    intro j hj
    have h0 : 0 < xs.length := by omega
    have hm : ∀ i, i < xs.length → cnt (pc (xs.getD i 0).toNat) xs = xs.length := by
      intro i hi
      have hp := pc_le (xs.getD i 0).toNat
      have hmem : xs.getD i 0 ∈ xs := by rw [List.getD, List.getElem?_eq_getElem hi]; exact List.getElem_mem hi
      generalize xs.getD i 0 = x at hp hmem ⊢
      have e := congrArg (fun l => l.getD (pc x.toNat) 0) h
      have e : (cnts xs).getD (pc x.toNat) 0 = (ones xs xs.length).getD (pc x.toNat) 0 := e
      rw [cnts_at _ _ (by omega), ones_at _ _ _ (by omega), List.take_length] at e
      have hne : cnt (pc x.toNat) xs ≠ 0 := by
        intro e0
        unfold cnt at e0
        rw [List.countP_eq_zero] at e0
        exact e0 x hmem (by simp)
      rw [if_neg hne] at e
      omega
    have h1 := hm 0 h0
    unfold cnt at h1
    rw [List.countP_eq_length] at h1
    have := h1 (xs.getD j 0) (by rw [List.getD, List.getElem?_eq_getElem hj]; exact List.getElem_mem hj)
    rwa [beq_iff_eq] at this
  · intro h
    unfold cnts ones
    rw [List.take_length]
    apply List.map_congr_left
    intro s _
    by_cases e : cnt s xs = 0
    · rw [if_pos e, e]; rfl
    · rw [if_neg e]
      have : cnt s xs = xs.length := by
        unfold cnt at e ⊢
        rw [List.countP_eq_length]
        obtain ⟨x, hx, hs⟩ := List.countP_pos_iff.1 (Nat.pos_of_ne_zero e)
        rw [beq_iff_eq] at hs
        intro y hy
        rw [beq_iff_eq, even_at h y hy, ← even_at h x hx, hs]
      rw [this]

/-- The points of a list's sets. -/
def orN (xs : List Int) : Nat := xs.foldl (fun a x => a ||| x.toNat) 0
theorem orN_take (L : List Int) (j : Nat) (h : j < L.length) : orN (L.take (j + 1)) = orN (L.take j) ||| (L.getD j 0).toNat := by
  rw [take_nx L j h]; unfold orN; rw [List.foldl_append]; rfl
theorem orN_lt (xs : List Int) (h : allOk xs = true) : orN xs < 64 := by
  have h1 : ∀ (xs : List Int) (a : Nat), a < 64 → allOk xs = true → xs.foldl (fun a x => a ||| x.toNat) a < 64 := by
    intro xs
    induction xs with
    | nil => intro a ha _; exact ha
    | cons x xs ih =>
      intro a ha h
      unfold allOk at h ih
      rw [List.all_cons, Bool.and_eq_true] at h
      obtain ⟨s, rfl, hs⟩ : ∃ s : Nat, x = (s : Int) ∧ s < 64 := by
        have := (okZ_iff x).1 h.1
        exact ⟨x.toNat, by omega, by omega⟩
      exact ih _ (or_lt _ _ ha hs) h.2
  exact h1 xs 0 (by omega) h
theorem allOk_take (xs : List Int) (k : Nat) (h : allOk xs = true) : allOk (xs.take k) = true := by
  unfold allOk at *
  rw [List.all_eq_true] at *
  intro x hx
  exact h x (List.mem_of_mem_take hx)
/-- UsedPoints. -/
def used (n : Int) (xs : List Int) : Int := if isC n xs = true then (orN xs : Int) else 0

/-- IsSimplex. -/
def simplexB (n : Int) (xs : List Int) : Bool := isC n xs && xs.length == 1

/-- DegreeOf. -/
def degN (xs : List Int) (s : Nat) : Nat := xs.countP fun f => sub s f.toNat
def deg (n : Int) (xs : List Int) (s : Int) : Int := if (isC n xs && okZ s) = true then (degN xs s.toNat : Int) else -1
theorem degN_take (xs : List Int) (s j : Nat) (h : j < xs.length) : degN (xs.take (j + 1)) s = degN (xs.take j) s + if sub s (xs.getD j 0).toNat = true then 1 else 0 := by
  rw [take_nx xs j h]
  unfold degN
  rw [List.countP_append]
  generalize xs.getD j 0 = x
  by_cases h : sub s x.toNat = true <;> simp [h]
theorem degN_le (xs : List Int) (s : Nat) : degN xs s ≤ xs.length := List.countP_le_length

/-! ### faces of complexes -/

theorem faces_at (n : Int) (xs : List Int) (j : Nat) (h : j < (faces n xs).length) : ∃ s : Nat, (faces n xs).getD j 0 = (s : Int) ∧ s < 64 := by
  unfold faces at h ⊢
  split at h
  · rw [if_pos (by assumption)]
    obtain ⟨s, h1, h2, _⟩ := ord_at _ j h
    exact ⟨s, h1, h2⟩
  · simp at h
theorem faces_nil (n : Int) : faces n [] = [] := by
  unfold faces; split
  · exact (ord_congr fun s _ => rfl).trans ord_false
  · rfl
theorem faces_top {n : Int} {xs : List Int} (h : isC n xs = true) (h0 : 0 < xs.length) : (top (faces n xs) : Int) = dimZ n xs + 2 := by
  rw [dimZ_yes h h0]
  obtain ⟨t, ht, ht64⟩ := isC_at h (xs.length - 1) (by omega)
  have hF : faces n xs = ord (inF xs) := by unfold faces; rw [if_pos h]
  rw [ht, hF]
  have hl : ∀ x, x ∈ xs → pc x.toNat ≤ pc t := by
    intro x hx
    obtain ⟨i, hi, rfl⟩ := List.mem_iff_getElem.1 hx
    have hr := isC_rises h
    unfold Rises at hr
    have el : xs[xs.length - 1]'(by omega) = (t : Int) := by
      rw [List.getD, List.getElem?_eq_getElem (by omega)] at ht; exact ht
    by_cases e : i = xs.length - 1
    · subst e; rw [el]; exact Nat.le_refl _
    · have hb := List.pairwise_iff_getElem.1 hr i (xs.length - 1) hi (by omega) (by omega)
      rw [el, befZ_iff] at hb
      have := (befN_iff _ _).1 hb.2.2
      have e2 : (t : Int).toNat = t := rfl
      rw [e2] at this
      omega
  have h1 : top (ord (inF xs)) ≤ pc t + 1 := by
    apply top_le_of
    intro x hx
    obtain ⟨s, rfl, hs, hin⟩ := (mem_ord _ _).1 hx
    unfold inF at hin
    obtain ⟨f, hf, hsub⟩ := List.any_eq_true.1 hin
    obtain ⟨u, rfl, hu⟩ := okZ_cast f (setB_ok (isC_set h f hf))
    have h3 := hl _ hf
    have e2 : (u : Int).toNat = u := rfl
    rw [e2] at h3 hsub
    show pc s + 1 ≤ pc t + 1
    rcases sub_pc s u hs hu hsub with h4 | rfl <;> omega
  have h2 : pc t + 1 ≤ top (ord (inF xs)) := by
    apply top_ge (ord (inF xs)) (t : Int)
    refine (mem_ord _ _).2 ⟨t, rfl, ht64, ?_⟩
    unfold inF
    rw [List.any_eq_true]
    refine ⟨(t : Int), ?_, ?_⟩
    · rw [← ht, List.getD, List.getElem?_eq_getElem (by omega)]; exact List.getElem_mem _
    · show sub t t = true
      unfold sub; simp
  have e2 : (t : Int).toNat = t := rfl
  rw [e2]
  omega
theorem faces_pos {n : Int} {xs : List Int} (h : isC n xs = true) (h0 : 0 < xs.length) : 0 < (faces n xs).length := by
  have h1 := faces_top h h0
  rw [dimZ_yes h h0] at h1
  by_cases e : faces n xs = []
  · rw [e] at h1; simp [top] at h1; omega
  · exact List.length_pos_iff.2 e

end Go.Proofs.YtbkkdgmiokdbmaaGreat

/-! THE LIST OF HOLES, of no program: cones, suspensions, cross complexes. -/

namespace Go.Proofs.YtbkkdgmiokdbmaaGreat
namespace Hom
open Sets Lin Join

theorem J_congr {q r : Nat → Bool} (h : ∀ s, s < 64 → q s = r s) (k : Nat) : J q k = J r k := List.filter_congr fun s hs => by rw [h s (List.mem_range.1 hs)]
theorem rk_congr {q r : Nat → Bool} (h : ∀ s, s < 64 → q s = r s) (p k : Nat) : rk p q k = rk p r k := by unfold rk bdm; rw [J_congr h, J_congr h]
theorem hol_congr {q r : Nat → Bool} (h : ∀ s, s < 64 → q s = r s) (p k : Nat) : hol p q k = hol p r k := by unfold hol fN; rw [J_congr h, rk_congr h, rk_congr h]

/-- The holes of a complex by size. -/
def holL (p : Nat) (n : Int) (xs : List Int) : List Int := (List.range (top (faces n xs))).map fun k => hol p (inF xs) k
theorem holL_length (p : Nat) (n : Int) (xs : List Int) : (holL p n xs).length = top (faces n xs) := by unfold holL; rw [List.length_map, List.length_range]
theorem faces_ord {n : Int} {xs : List Int} (h : isC n xs = true) : faces n xs = ord (inF xs) := by unfold faces; rw [if_pos h]
theorem holL_ord (p : Nat) {n : Int} {xs : List Int} (h : isC n xs = true) {q : Nat → Bool} (hq : ∀ s, s < 64 → inF xs s = q s) : holL p n xs = (List.range (top (ord q))).map fun k => hol p q k := by
  unfold holL
  rw [faces_ord h, ord_congr hq]
  exact List.map_congr_left fun k _ => hol_congr hq p k

theorem joinQ_one {n : Nat} {q : Nat → Bool} (hq : Low n q) (s : Nat) (hs : s < 64) : joinQ n q (inF [1]) s = addQ n q q s := by
  have h2 := Nat.two_pow_pos n
  have f0 : inF [1] 0 = true := by decide
  have f1 : inF [1] 1 = true := by decide
  have f2 : ∀ t, 2 ≤ t → inF [1] t = false := fun t ht => by
    rw [Bool.eq_false_iff]; intro h
    obtain ⟨f, hf, hs⟩ := (inF_iff _ _).1 h
    rw [List.mem_singleton.1 hf] at hs
    have := sub_le hs; simp at this; omega
  unfold joinQ
  by_cases e : s < 2 ^ n
  · rw [addQ_lo e, Nat.mod_eq_of_lt e, Nat.div_eq_of_lt e, f0, Bool.and_true]
  · obtain ⟨t, rfl⟩ : ∃ t, s = 2 ^ n + t := ⟨s - 2 ^ n, by omega⟩
    rw [addQ_hi, Nat.add_mod_left, Nat.add_div_left _ h2]
    by_cases e2 : t < 2 ^ n
    · rw [Nat.mod_eq_of_lt e2, Nat.div_eq_of_lt e2, f1, Bool.and_true]
    · rw [f2 _ (by have := (Nat.one_le_div_iff h2).2 (Nat.le_of_not_lt e2); omega), Bool.and_false, low_false hq (by omega) (by omega)]

theorem joinQ_two {n : Nat} {q : Nat → Bool} (hq : Low n q) (s : Nat) (hs : s < 64) : joinQ n q (inF [1, 2]) s = suspQ n q s := by
  have h2 := Nat.two_pow_pos n
  have h3 := pow_two n
  have f0 : inF [1, 2] 0 = true := by decide
  have f1 : inF [1, 2] 1 = true := by decide
  have f2 : inF [1, 2] 2 = true := by decide
  have f3 : ∀ t, 3 ≤ t → inF [1, 2] t = false := fun t ht => by
    rw [Bool.eq_false_iff]; intro h
    obtain ⟨f, hf, hs⟩ := (inF_iff _ _).1 h
    rcases List.mem_cons.1 hf with rfl | hf
    · have := sub_le hs; simp at this; omega
    · rw [List.mem_singleton.1 hf] at hs
      have := sub_le hs; simp at this; omega
  unfold joinQ suspQ
  by_cases e : s < 2 ^ n
  · rw [addQ_lo (by omega), addQ_lo e, Nat.mod_eq_of_lt e, Nat.div_eq_of_lt e, f0, Bool.and_true]
  · obtain ⟨t, rfl⟩ : ∃ t, s = 2 ^ n + t := ⟨s - 2 ^ n, by omega⟩
    rw [Nat.add_mod_left, Nat.add_div_left _ h2]
    by_cases e2 : t < 2 ^ n
    · rw [addQ_lo (by omega), addQ_hi, Nat.mod_eq_of_lt e2, Nat.div_eq_of_lt e2, f1, Bool.and_true]
    · obtain ⟨u, rfl⟩ : ∃ u, t = 2 ^ n + u := ⟨t - 2 ^ n, by omega⟩
      rw [show 2 ^ n + (2 ^ n + u) = 2 ^ (n + 1) + u by omega, addQ_hi, Nat.add_mod_left, Nat.add_div_left _ h2]
      by_cases e3 : u < 2 ^ n
      · rw [Nat.mod_eq_of_lt e3, Nat.div_eq_of_lt e3, f2, Bool.and_true]
      · rw [f3 _ (by have := (Nat.one_le_div_iff h2).2 (Nat.le_of_not_lt e3); omega), Bool.and_false, low_false hq (by omega) (by omega)]

theorem top_hit (L : List Int) (h : 0 < top L) : ∃ x, x ∈ L ∧ pc x.toNat + 1 = top L := by
  apply Classical.byContradiction
  intro hno
  have := top_le_of L (top L - 1) fun x hx => by
    have := top_ge L x hx
    have : ¬(pc x.toNat + 1 = top L) := fun e => hno ⟨x, hx, e⟩
    omega
  omega
theorem top_pos {q : Nat → Bool} (h : q 0 = true) : 0 < top (ord q) := by
  have := top_ge (ord q) 0 ((mem_ord q 0).2 ⟨0, rfl, by decide, h⟩)
  omega
theorem top_susp {n : Nat} (hn : n ≤ 4) {q : Nat → Bool} (hq : Low n q) (h0 : q 0 = true) : top (ord (suspQ n q)) = top (ord q) + 1 := by
  have h3 := pow_two n
  have h64 := pow64 (n := n + 1 + 1) (by omega)
  have h2p := Nat.two_pow_pos n
  have h4 := pow_two (n + 1)
  have ge : ∀ s, s < 64 → q s = true → pc s + 1 ≤ top (ord q) := fun s hs h => top_ge (ord q) s ((mem_ord q _).2 ⟨s, rfl, hs, h⟩)
  apply Nat.le_antisymm
  · refine top_le_of _ _ fun x hx => ?_
    obtain ⟨s, rfl, hs, hq'⟩ := (mem_ord _ x).1 hx
    show pc s + 1 ≤ _
    unfold suspQ at hq'
    by_cases e : s < 2 ^ (n + 1)
    · rw [addQ_lo e] at hq'
      by_cases e2 : s < 2 ^ n
      · rw [addQ_lo e2] at hq'
        have := ge s hs hq'; omega
      · obtain ⟨t, rfl⟩ : ∃ t, s = 2 ^ n + t := ⟨s - 2 ^ n, by omega⟩
        rw [addQ_hi] at hq'
        rw [pc_blk (by omega) (by omega)]
        have := ge t (by omega) hq'; omega
    · obtain ⟨t, rfl⟩ : ∃ t, s = 2 ^ (n + 1) + t := ⟨s - 2 ^ (n + 1), by omega⟩
      rw [addQ_hi] at hq'
      have hl := hq t (by omega) hq'
      rw [pc_blk (by omega) (by omega)]
      have := ge t (by omega) hq'; omega
  · obtain ⟨x, hx, e⟩ := top_hit (ord q) (top_pos h0)
    obtain ⟨s, rfl, hs, hqs⟩ := (mem_ord _ x).1 hx
    have hl := hq s hs hqs
    rw [← e]
    have := top_ge (ord (suspQ n q)) ((2 ^ n + s : Nat) : Int) ((mem_ord _ _).2 ⟨2 ^ n + s, rfl, by omega, by unfold suspQ; rw [addQ_lo (by omega), addQ_hi]; exact hqs⟩)
    rw [show (((2 ^ n + s : Nat) : Int)).toNat = 2 ^ n + s from rfl, pc_blk (by omega) hl] at this
    exact this

theorem range_succ_map {α : Type} (f : Nat → α) (m : Nat) : (List.range (m + 1)).map f = f 0 :: (List.range m).map fun k => f (k + 1) := by
  rw [List.range_succ_eq_map, List.map_cons, List.map_map]; rfl

theorem inF_low {n : Int} {xs : List Int} (h : isC n xs = true) : Low n.toNat (inF xs) := fun s _ hs => by
  have := inF_set h s hs
  unfold setB at this
  rw [decide_eq_true_eq] at this
  have h2 := this.2.2.2
  rw [show (2 : Int) ^ n.toNat = ((2 ^ n.toNat : Nat) : Int) by push_cast; rfl] at h2
  omega
theorem inF_zero {xs : List Int} (h : xs ≠ []) : inF xs 0 = true := by
  obtain ⟨x, l, rfl⟩ := List.exists_cons_of_ne_nil h
  exact (inF_iff _ _).2 ⟨x, List.mem_cons_self .., by unfold sub; simp⟩

/-- The cone's list of holes. -/
theorem holL_cone {p : Nat} (hP : IsP p) {n : Int} {xs : List Int} (h : isC n xs = true) (hn : n ≤ 5) (h0 : xs ≠ []) (hc : isC (n + 1) (maxQ (joinQ n.toNat (inF xs) (inF [1]))) = true) :
    0 < (holL p (n + 1) (maxQ (joinQ n.toNat (inF xs) (inF [1])))).length ∧ ∀ x, x ∈ holL p (n + 1) (maxQ (joinQ n.toNat (inF xs) (inF [1]))) → x = 0 := by
  have hn' := isC_n h
  have hl := inF_low h
  have dq := joinQ_down (n := n.toNat) (inF_down xs) (inF_down [1])
  have e : ∀ s, s < 64 → inF (maxQ (joinQ n.toNat (inF xs) (inF [1]))) s = addQ n.toNat (inF xs) (inF xs) s := fun s hs => by
    rw [inF_maxQ _ dq s hs, joinQ_one hl s hs]
  rw [holL_ord p hc e, List.length_map, List.length_range]
  refine ⟨top_pos ?_, fun x hx => ?_⟩
  · rw [addQ_lo (Nat.two_pow_pos _)]; exact inF_zero h0
  · obtain ⟨k, _, rfl⟩ := List.mem_map.1 hx
    exact cone_hol hP (by omega) hl (inF_down xs) k
/-- The suspension's list of holes. -/
theorem holL_susp {p : Nat} (hP : IsP p) {n : Int} {xs : List Int} (h : isC n xs = true) (hn : n ≤ 4) (h0 : xs ≠ []) (hc : isC (n + 2) (maxQ (joinQ n.toNat (inF xs) (inF [1, 2]))) = true) :
    holL p (n + 2) (maxQ (joinQ n.toNat (inF xs) (inF [1, 2]))) = 0 :: holL p n xs := by
  have hn' := isC_n h
  have hl := inF_low h
  have dq := joinQ_down (n := n.toNat) (inF_down xs) (inF_down [1, 2])
  have e : ∀ s, s < 64 → inF (maxQ (joinQ n.toNat (inF xs) (inF [1, 2]))) s = suspQ n.toNat (inF xs) s := fun s hs => by
    rw [inF_maxQ _ dq s hs, joinQ_two hl s hs]
  obtain ⟨k1, k2⟩ := susp_hol hP (n := n.toNat) (by omega) hl (inF_down xs)
  rw [holL_ord p hc e, holL_ord p h fun _ _ => rfl, top_susp (by omega) hl (inF_zero h0), range_succ_map, k1]
  exact congrArg _ (List.map_congr_left fun k _ => k2 k)

end Hom
end Go.Proofs.YtbkkdgmiokdbmaaGreat

/-! HOLES of a complex and of its dual (Alexander's duality), modulo 2, of no program. -/

namespace Go.Proofs.YtbkkdgmiokdbmaaGreat
open Sets Lin
namespace Hom

/-! ### all sets of n points -/

def full (n s : Nat) : Bool := decide (s < 2 ^ n)
theorem full_iff (n s : Nat) : full n s = true ↔ s < 2 ^ n := by unfold full; exact decide_eq_true_iff
theorem full_low (n : Nat) : Low n (full n) := fun s _ h => (full_iff n s).1 h
theorem full_down (n : Nat) : Down (full n) := fun s t _ _ h k => by
  have := sub_le h
  have := (full_iff n t).1 k
  exact (full_iff n s).2 (by omega)
theorem full_add (n : Nat) (s : Nat) : addQ n (full n) (full n) s = full (n + 1) s := by
  have e := pow_two n
  by_cases h : s < 2 ^ n
  · rw [addQ_lo h, (full_iff n s).2 h, (full_iff _ s).2 (by omega)]
  · obtain ⟨t, rfl⟩ : ∃ t, s = 2 ^ n + t := ⟨s - 2 ^ n, by omega⟩
    rw [addQ_hi, Bool.eq_iff_iff, full_iff, full_iff]; omega
/-- All sets have no holes. -/
theorem full_hol {p : Nat} (hP : IsP p) {n : Nat} (hn : n ≤ 5) (k : Nat) : fN (full (n + 1)) k = rk p (full (n + 1)) k + rk p (full (n + 1)) (k + 1) := by
  have h := cone_hol hP hn (full_low n) (full_down n) k
  rw [hol_congr (fun s _ => full_add n s)] at h
  unfold hol at h
  omega

/-! ### borders -/

theorem coset {p : Nat} (hP : IsP p) {q : Nat → Bool} (dq : Down q) {k : Nat} {u0 : Nat → Int} (hu : Chn p q (k + 1) u0) :
    Card (fun u => Chn p q (k + 1) u ∧ ∀ t, t < 64 → (p : Int) ∣ bd u t - bd u0 t) (p ^ (fN q (k + 1) - rk p q (k + 1))) := by
  have hp : 0 < p := by have := hP.1; omega
  refine (card_cyc hP dq (k + 1)).1.bij (fun y s => (y s + u0 s) % p) (fun u s => (u s - u0 s) % p) ?_ ?_ ?_ ?_
  · intro y hy
    refine ⟨emod_vec hp fun s hs => by rw [hy.1.2 s hs, hu.2 s hs]; exact ⟨0, by simp⟩, fun t ht => ?_⟩
    obtain ⟨a, ha⟩ := bd_emod p (fun s => y s + u0 s) t
    obtain ⟨b, hb⟩ := hy.2 t ht
    rw [bd_add] at ha
    exact ⟨a + b, by grind⟩
  · rintro u ⟨hv, hd⟩
    refine ⟨emod_vec hp fun s hs => by rw [hv.2 s hs, hu.2 s hs]; exact ⟨0, by simp⟩, fun t ht => ?_⟩
    have e : (fun s => u s - u0 s) = fun s => u s + (-1) * u0 s := funext fun s => by grind
    obtain ⟨a, ha⟩ := bd_emod p (fun s => u s - u0 s) t
    rw [e, bd_add, bd_mul] at ha
    obtain ⟨b, hb⟩ := hd t ht
    exact ⟨a + b, by grind⟩
  · intro y hy
    funext s
    obtain ⟨a, ha⟩ := dvd_emod_sub (y s + u0 s) p
    have hm : (p : Int) ∣ ((y s + u0 s) % p - u0 s) - y s := ⟨a, by grind⟩
    exact (Int.emod_eq_emod_iff_emod_sub_eq_zero.2 (Int.emod_eq_zero_of_dvd hm)).trans (vec_mod hy.1 s)
  · rintro u ⟨hv, _⟩
    funext s
    obtain ⟨a, ha⟩ := dvd_emod_sub (u s - u0 s) p
    have hm : (p : Int) ∣ ((u s - u0 s) % p + u0 s) - u s := ⟨a, by grind⟩
    exact (Int.emod_eq_emod_iff_emod_sub_eq_zero.2 (Int.emod_eq_zero_of_dvd hm)).trans (vec_mod hv s)
/-- The border of a chain modulo p. -/
def bdp (p : Nat) (u : Nat → Int) : Nat → Int := fun t => bd u t % p
theorem bdp_eq {p : Nat} {u v : Nat → Int} : bdp p u = bdp p v ↔ ∀ t, t < 64 → (p : Int) ∣ bd u t - bd v t := by
  constructor
  · intro h t _
    have := congrFun h t
    unfold bdp at this
    exact Int.dvd_of_emod_eq_zero (Int.emod_eq_emod_iff_emod_sub_eq_zero.1 this)
  · intro h
    funext t
    unfold bdp
    by_cases ht : t < 64
    · exact Int.emod_eq_emod_iff_emod_sub_eq_zero.2 (Int.emod_eq_zero_of_dvd (h t ht))
    · rw [bd_out u (by omega), bd_out v (by omega)]
theorem bdp_chn {p : Nat} (hp : 0 < p) {q : Nat → Bool} (dq : Down q) {k : Nat} {u : Nat → Int} (hu : Chn p q (k + 1) u) : Chn p q k (bdp p u) := emod_vec hp fun t ht => by
  by_cases h : t < 64
  · rw [bd_off dq hu h fun e => ht ((mem_J q k t).2 ⟨h, by omega, e.1⟩)]; exact ⟨0, by simp⟩
  · rw [bd_out _ (by omega)]; exact ⟨0, by simp⟩
theorem bdp_cyc (p : Nat) (u : Nat → Int) (t : Nat) (ht : t < 64) : (p : Int) ∣ bd (bdp p u) t := by
  have := bd_emod p (bd u) t
  rw [bd_bd u ht, Int.sub_zero] at this
  exact this
/-- How many borders there are. -/
theorem card_bor {p : Nat} (hP : IsP p) {q : Nat → Bool} (dq : Down q) (k : Nat) : Card (fun z => ∃ u, Chn p q (k + 1) u ∧ z = bdp p u) (p ^ rk p q (k + 1)) := by
  have hp : 0 < p := by have := hP.1; omega
  obtain ⟨d, _, hd⟩ := (card_chn p q k).sub (T := fun z => ∃ u, Chn p q (k + 1) u ∧ z = bdp p u) fun z ⟨u, hu, e⟩ => by rw [e]; exact bdp_chn hp dq hu
  have hS := hd.fibre (S := Chn p q (k + 1)) (bdp p) (fun u hu => ⟨u, hu, rfl⟩) (d := p ^ (fN q (k + 1) - rk p q (k + 1))) fun z ⟨u0, hu0, e⟩ => by
    refine (coset hP dq hu0).congr fun u => and_congr_right fun _ => ?_
    rw [e, ← bdp_eq]
  have h1 := hS.unique (card_chn p q (k + 1))
  have hle := cyc_le hP dq (k + 1)
  have h2 : d * p ^ (fN q (k + 1) - rk p q (k + 1)) = p ^ rk p q (k + 1) * p ^ (fN q (k + 1) - rk p q (k + 1)) := by
    rw [h1, ← Nat.pow_add]
    congr 1
    unfold fN at hle ⊢; omega
  have := Nat.eq_of_mul_eq_mul_right (Nat.pow_pos hp) h2
  rw [← this]; exact hd
theorem full_bor {p : Nat} (hP : IsP p) {n : Nat} (hn : n ≤ 5) (k : Nat) (z : Nat → Int) (hz : Cyc p (full (n + 1)) k z) : ∃ u, Chn p (full (n + 1)) (k + 1) u ∧ z = bdp p u := by
  have hp : 0 < p := by have := hP.1; omega
  have h := full_hol hP hn k
  have hc := (card_cyc hP (full_down (n + 1)) k).1
  rw [show (J (full (n + 1)) k).length - rk p (full (n + 1)) k = rk p (full (n + 1)) (k + 1) by unfold fN at h; omega] at hc
  exact hc.eq_of_le (card_bor hP (full_down (n + 1)) k) (fun z ⟨u, hu, e⟩ => by rw [e]; exact ⟨bdp_chn hp (full_down _) hu, bdp_cyc p u⟩) z hz

/-! ### chains whose border lies in the complex -/

theorem card_rel {p : Nat} (hP : IsP p) {n : Nat} (hn : n ≤ 5) {q : Nat → Bool} (hq : Low (n + 1) q) (dq : Down q) (k : Nat) :
    Card (Rel p (full (n + 1)) q (k + 1)) (p ^ (fN q k - rk p q k) * p ^ (fN (full (n + 1)) (k + 1) - rk p (full (n + 1)) (k + 1))) := by
  have hp : 0 < p := by have := hP.1; omega
  have hJ : ∀ {t}, t ∈ J q k → t ∈ J (full (n + 1)) k := fun {t} h => by
    obtain ⟨h1, h2, h3⟩ := (mem_J q k t).1 h
    exact (mem_J _ k t).2 ⟨h1, h2, (full_iff _ t).2 (hq t h1 h3)⟩
  refine (card_cyc hP dq k).1.fibre (bdp p) (fun u hu => ⟨emod_vec hp fun t ht => ?_, bdp_cyc p u⟩) fun z hz => ?_
  · by_cases h : t < 64
    · by_cases e : q t = true
      · rw [bd_off (full_down _) hu.1 h fun e2 => ht ((mem_J q k t).2 ⟨h, by omega, e⟩)]; exact ⟨0, by simp⟩
      · exact hu.2 t h (by simpa using e)
    · rw [bd_out _ (by omega)]; exact ⟨0, by simp⟩
  · have hz' : Cyc p (full (n + 1)) k z := ⟨⟨fun t _ => by
      by_cases e : t ∈ J q k
      · exact hz.1.1 t e
      · rw [hz.1.2 t e]; omega, fun t ht => hz.1.2 t fun e => ht (hJ e)⟩, hz.2⟩
    obtain ⟨u0, hu0, e0⟩ := full_bor hP hn k z hz'
    refine (coset hP (full_down _) hu0).congr fun u => ?_
    rw [← bdp_eq, e0]
    constructor
    · rintro ⟨h1, h2⟩
      refine ⟨⟨h1, fun t ht hqt => ?_⟩, h2⟩
      have h3 := congrFun h2 t
      rw [← e0, hz.1.2 t fun e => by rw [((mem_J q k t).1 e).2.2] at hqt; cases hqt] at h3
      exact Int.dvd_of_emod_eq_zero h3
    · rintro ⟨h1, h2⟩
      exact ⟨h1.1, h2⟩

/-! ### sums over complements -/

theorem sm_perm {α : Type} {l m : List α} (h : l.Perm m) (f : α → Int) : sm l f = sm m f := by
  induction h with
  | nil => rfl
  | cons x _ ih => show f x + _ = f x + _; rw [ih]
  | swap x y l => show f y + (f x + _) = f x + (f y + _); grind
  | trans _ _ i1 i2 => rw [i1, i2]
theorem sm_rev (N : Nat) (f : Nat → Int) : sm (List.range N) f = sm (List.range N) fun u => f (N - 1 - u) := by
  rw [← sm_map (fun u => N - 1 - u) f]
  refine sm_perm ((List.perm_ext_iff_of_nodup List.nodup_range ?_).2 fun t => ?_) f
  · refine nodup_map_of _ _ List.nodup_range fun a ha b hb e => ?_
    have := List.mem_range.1 ha
    have := List.mem_range.1 hb
    omega
  · rw [List.mem_map, List.mem_range]
    constructor
    · intro h
      exact ⟨N - 1 - t, List.mem_range.2 (by omega), by omega⟩
    · rintro ⟨u, hu, rfl⟩
      have := List.mem_range.1 hu
      omega
theorem sum_J {p : Nat} {q : Nat → Bool} {k : Nat} {y : Nat → Int} (hy : Vec p (J q k) y) (c : Nat → Int) : sm (J q k) (fun s => c s * y s) = S fun s => c s * y s := by
  unfold S J
  rw [sm_filter]
  refine sm_congr _ _ _ fun s hs => ?_
  split
  · rfl
  · rw [hy.2 s (fun hm => by unfold J at hm; exact absurd (List.mem_filter.1 hm).2 (by assumption))]; simp

/-! ### the dual -/

def dualQ (n : Nat) (q : Nat → Bool) (s : Nat) : Bool := decide (s < 2 ^ n) && !q (2 ^ n - 1 - s)
theorem dualQ_iff (n : Nat) (q : Nat → Bool) (s : Nat) : dualQ n q s = true ↔ s < 2 ^ n ∧ q (2 ^ n - 1 - s) = false := by
  unfold dualQ; rw [Bool.and_eq_true, decide_eq_true_iff, Bool.not_eq_true']
theorem comp_pc : ∀ n : Fin 7, ∀ u : Fin 64, u.val < 2 ^ n.val → pc (2 ^ n.val - 1 - u.val) + pc u.val = n.val := by decide +kernel
theorem comp_sub : ∀ n : Fin 7, ∀ s t : Fin 64, s.val < 2 ^ n.val → t.val < 2 ^ n.val → sub s.val t.val = true → sub (2 ^ n.val - 1 - t.val) (2 ^ n.val - 1 - s.val) = true := by decide +kernel
theorem comp_sgn : ∀ n : Fin 7, ∀ t s : Fin 64, t.val < 2 ^ n.val → s.val < 2 ^ n.val → (sgn (2 ^ n.val - 1 - s.val) (2 ^ n.val - 1 - t.val) - sgn t.val s.val) % 2 = 0 := by decide +kernel
theorem dualQ_down {n : Nat} (hn : n ≤ 6) {q : Nat → Bool} (dq : Down q) : Down (dualQ n q) := fun s t hs ht h k => by
  obtain ⟨h1, h2⟩ := (dualQ_iff n q t).1 k
  have h64 := pow64 hn
  have := sub_le h
  refine (dualQ_iff n q s).2 ⟨by omega, ?_⟩
  rw [Bool.eq_false_iff]; intro e
  have := dq _ _ (show 2 ^ n - 1 - t < 64 by omega) (show 2 ^ n - 1 - s < 64 by omega) (comp_sub ⟨n, by omega⟩ ⟨s, hs⟩ ⟨t, ht⟩ (by show s < 2 ^ n; omega) h1 h) e
  rw [h2] at this; cases this
/-- The sets of n points that are no faces. -/
def outQ (n : Nat) (q : Nat → Bool) (s : Nat) : Bool := full n s && !q s
theorem outQ_iff (n : Nat) (q : Nat → Bool) (s : Nat) : outQ n q s = true ↔ s < 2 ^ n ∧ q s = false := by
  unfold outQ; rw [Bool.and_eq_true, full_iff, Bool.not_eq_true']
theorem mem_comp {n : Nat} (hn : n ≤ 6) (q : Nat → Bool) {k : Nat} (hk : k ≤ n) (u : Nat) (hu : u < 2 ^ n) : u ∈ J (dualQ n q) (n - k) ↔ 2 ^ n - 1 - u ∈ J (outQ n q) k := by
  have h64 := pow64 hn
  have hpc := comp_pc ⟨n, by omega⟩ ⟨u, by omega⟩ hu
  dsimp only at hpc
  rw [mem_J, mem_J, dualQ_iff, outQ_iff]
  constructor
  · rintro ⟨_, h2, _, h3⟩
    exact ⟨by omega, by omega, by omega, h3⟩
  · rintro ⟨_, h2, _, h3⟩
    exact ⟨by omega, by omega, hu, h3⟩
def flip (n : Nat) (y : Nat → Int) (u : Nat) : Int := if u < 2 ^ n then y (2 ^ n - 1 - u) else 0
theorem flip_lt {n : Nat} {y : Nat → Int} {u : Nat} (h : u < 2 ^ n) : flip n y u = y (2 ^ n - 1 - u) := if_pos h
theorem flip_ge {n : Nat} {y : Nat → Int} {u : Nat} (h : ¬u < 2 ^ n) : flip n y u = 0 := if_neg h
theorem flip_flip {n : Nat} {y : Nat → Int} (h : ∀ u, 2 ^ n ≤ u → y u = 0) : flip n (flip n y) = y := by
  funext u
  by_cases e : u < 2 ^ n
  · rw [flip_lt e, flip_lt (by omega), show 2 ^ n - 1 - (2 ^ n - 1 - u) = u by omega]
  · rw [flip_ge e, h u (by omega)]
theorem vec_out {p n : Nat} {q : Nat → Bool} {k : Nat} {y : Nat → Int} (h : Vec p (J (outQ n q) k) y) (u : Nat) (hu : 2 ^ n ≤ u) : y u = 0 := h.2 u fun e => by
  have := ((outQ_iff n q u).1 ((mem_J _ k u).1 e).2.2).1
  omega
theorem vec_dual {p n : Nat} {q : Nat → Bool} {k : Nat} {y : Nat → Int} (h : Vec p (J (dualQ n q) k) y) (u : Nat) (hu : 2 ^ n ≤ u) : y u = 0 := h.2 u fun e => by
  have := ((dualQ_iff n q u).1 ((mem_J _ k u).1 e).2.2).1
  omega
theorem flip_vec {p n : Nat} (hn : n ≤ 6) {q : Nat → Bool} {k : Nat} (hk : k ≤ n) {y : Nat → Int} (h : Vec p (J (outQ n q) k) y) : Vec p (J (dualQ n q) (n - k)) (flip n y) := by
  refine ⟨fun u hu => ?_, fun u hu => ?_⟩
  · have hlt := ((dualQ_iff n q u).1 ((mem_J _ _ u).1 hu).2.2).1
    rw [flip_lt hlt]
    exact h.1 _ ((mem_comp hn q hk u hlt).1 hu)
  · by_cases e : u < 2 ^ n
    · rw [flip_lt e]; exact h.2 _ fun hm => hu ((mem_comp hn q hk u e).2 hm)
    · exact flip_ge e
theorem flip_vec' {p n : Nat} (hn : n ≤ 6) {q : Nat → Bool} {k : Nat} (hk : k ≤ n) {y : Nat → Int} (h : Vec p (J (dualQ n q) (n - k)) y) : Vec p (J (outQ n q) k) (flip n y) := by
  refine ⟨fun u hu => ?_, fun u hu => ?_⟩
  · have hlt := ((outQ_iff n q u).1 ((mem_J _ _ u).1 hu).2.2).1
    rw [flip_lt hlt]
    refine h.1 _ ((mem_comp hn q hk _ (by omega)).2 ?_)
    rw [show 2 ^ n - 1 - (2 ^ n - 1 - u) = u by omega]; exact hu
  · by_cases e : u < 2 ^ n
    · rw [flip_lt e]
      refine h.2 _ fun hm => hu ?_
      have := (mem_comp hn q hk _ (by omega)).1 hm
      rwa [show 2 ^ n - 1 - (2 ^ n - 1 - u) = u by omega] at this
    · exact flip_ge e
/-- The dual has as many faces of n - k points as there are sets of k points that are no faces. -/
theorem out_count {n : Nat} (hn : n ≤ 6) (q : Nat → Bool) {k : Nat} (hk : k ≤ n) : (J (outQ n q) k).length = fN (dualQ n q) (n - k) := by
  have h := (card_vec 2 _ (J_nodup (outQ n q) k)).bij (T := Vec 2 (J (dualQ n q) (n - k))) (flip n) (flip n) (fun y hy => flip_vec hn hk hy) (fun y hy => flip_vec' hn hk hy) (fun y hy => flip_flip (vec_out hy)) fun y hy => flip_flip (vec_dual hy)
  exact pow_inj (by decide) (h.unique (card_vec 2 _ (J_nodup _ _)))
theorem full_count {n : Nat} {q : Nat → Bool} (hq : Low n q) (k : Nat) : (J (outQ n q) k).length + fN q k = fN (full n) k := by
  unfold fN J
  have : ∀ l : List Nat, (∀ s ∈ l, s < 64) → (l.filter fun s => pc s == k && outQ n q s).length + (l.filter fun s => pc s == k && q s).length = (l.filter fun s => pc s == k && full n s).length := by
    intro l
    induction l with
    | nil => intro _; rfl
    | cons s l ih =>
      intro hl
      have ih := ih fun t ht => hl t (List.mem_cons_of_mem _ ht)
      have hs := hl s (List.mem_cons_self ..)
      simp only [List.filter_cons]
      have e : outQ n q s = (full n s && !q s) := rfl
      rw [e]
      cases hqs : q s with
      | true =>
        rw [(full_iff n s).2 (hq s hs hqs)]
        cases pc s == k <;> simp <;> omega
      | false =>
        cases full n s <;> cases pc s == k <;> simp <;> omega
  exact this _ fun s hs => List.mem_range.1 hs
/-- The rows of the border matrix that are no faces, and its transpose: cycles of the dual. -/
theorem ker_rel {p n : Nat} {q : Nat → Bool} (k : Nat) (x : Nat → Int) : KerE p (J (outQ n q) k) (J (full n) (k + 1)) sgn x ↔ Rel p (full n) q (k + 1) x := by
  unfold KerE Rel
  refine and_congr_right fun hx => ⟨fun h t ht hqt => ?_, fun h t ht => ?_⟩
  · by_cases e : full n t = true ∧ pc t + 1 = k + 1
    · rw [bd_faces hx]
      exact h t ((mem_J _ k t).2 ⟨ht, by omega, (outQ_iff n q t).2 ⟨(full_iff n t).1 e.1, hqt⟩⟩)
    · rw [bd_off (full_down n) hx ht e]; exact ⟨0, by simp⟩
  · obtain ⟨h1, h2, h3⟩ := (mem_J _ k t).1 ht
    have := h t h1 ((outQ_iff n q t).1 h3).2
    rwa [bd_faces hx] at this
theorem ker_dual {n : Nat} (hn : n ≤ 6) {q : Nat → Bool} (dq : Down q) {k : Nat} (hk : k ≤ n) {b : Nat} (h : Card (Cyc 2 (dualQ n q) (n - k)) b) : Card (KerE 2 (J (full n) (k + 1)) (J (outQ n q) k) fun s t => sgn t s) b := by
  have h64 := pow64 hn
  have hdd := dualQ_down hn dq
  have key : ∀ y, Vec 2 (J (outQ n q) k) y → ∀ s, s < 2 ^ n → (2 : Int) ∣ bd (flip n y) (2 ^ n - 1 - s) - sm (J (outQ n q) k) fun t => sgn t s * y t := fun y hy s hs => by
    rw [sum_J hy]
    have e1 : bd (flip n y) (2 ^ n - 1 - s) = sm (List.range (2 ^ n)) fun t => sgn (2 ^ n - 1 - s) (2 ^ n - 1 - t) * y t := by
      unfold bd
      rw [S_low h64 fun u hu _ => by rw [flip_ge (by omega)]; simp, sm_rev]
      refine sm_congr _ _ _ fun t ht => ?_
      have ht := List.mem_range.1 ht
      rw [flip_lt (by omega), show 2 ^ n - 1 - (2 ^ n - 1 - t) = t by omega]
    rw [e1, S_low h64 fun u hu _ => by rw [vec_out hy u hu]; simp]
    refine sm_dvd 2 _ _ _ fun t ht => ?_
    have ht := List.mem_range.1 ht
    obtain ⟨m, hm⟩ := Int.dvd_of_emod_eq_zero (comp_sgn ⟨n, by omega⟩ ⟨t, by omega⟩ ⟨s, by omega⟩ ht hs)
    dsimp only at hm
    exact ⟨m * y t, by grind⟩
  refine h.bij (flip n) (flip n) ?_ ?_ (fun y hy => flip_flip (vec_dual hy.1)) fun y hy => flip_flip (vec_out hy.1)
  · intro y hy
    have hv := flip_vec' hn hk hy.1
    refine ⟨hv, fun s hs => ?_⟩
    have hs' := (full_iff n s).1 ((mem_J _ _ s).1 hs).2.2
    have hk1 := key _ hv s hs'
    rw [flip_flip (vec_dual hy.1)] at hk1
    obtain ⟨a, ha⟩ := hk1
    obtain ⟨c, hc⟩ := hy.2 (2 ^ n - 1 - s) (by omega)
    exact ⟨c - a, by grind⟩
  · intro y hy
    have hv := flip_vec hn hk hy.1
    refine ⟨hv, fun w hw => ?_⟩
    by_cases e : dualQ n q w = true ∧ pc w + 1 = n - k
    · have hw2 := ((dualQ_iff n q w).1 e.1).1
      have hpc := comp_pc ⟨n, by omega⟩ ⟨w, hw⟩ hw2
      dsimp only at hpc
      have hs : 2 ^ n - 1 - w ∈ J (full n) (k + 1) := (mem_J _ _ _).2 ⟨by omega, by omega, (full_iff n _).2 (by omega)⟩
      have hk1 := key y hy.1 (2 ^ n - 1 - w) (by omega)
      rw [show 2 ^ n - 1 - (2 ^ n - 1 - w) = w by omega] at hk1
      obtain ⟨a, ha⟩ := hk1
      obtain ⟨c, hc⟩ := hy.2 _ hs
      exact ⟨a + c, by grind⟩
    · rw [bd_off hdd hv hw e]; exact ⟨0, by simp⟩

/-! ### the duality -/

theorem dual_rk {n : Nat} (hn : n ≤ 5) {q : Nat → Bool} (hq : Low (n + 1) q) (dq : Down q) {k : Nat} (hk : k ≤ n + 1) : fN q k + rk 2 (dualQ (n + 1) q) (n + 1 - k) = rk 2 q k + rk 2 (full (n + 1)) (k + 1) := by
  have hdd := dualQ_down (n := n + 1) (by omega) dq
  have h1 := (card_rel isP2 hn hq dq k).congr fun x => (ker_rel k x).symm
  have h2 := ker_dual (n := n + 1) (by omega) dq hk (card_cyc isP2 hdd (n + 1 - k)).1
  have h3 := transpose_card isP2 (J_nodup _ _) (J_nodup _ _) sgn h1 h2
  rw [← Nat.pow_add, ← Nat.pow_add, ← Nat.pow_add] at h3
  have h4 := pow_inj (by decide) h3
  have h5 := out_count (n := n + 1) (by omega) q hk
  have h6 := cyc_le isP2 dq k
  have h7 := cyc_le isP2 hdd (n + 1 - k)
  have h8 := cyc_le isP2 (full_down (n + 1)) (k + 1)
  unfold fN at h4 h5 h6 h7 h8 ⊢
  omega
/-- HOLES of both belong together. -/
theorem dual_hol {n : Nat} (hn : n ≤ 5) {q : Nat → Bool} (hq : Low (n + 1) q) (dq : Down q) {k : Nat} (hk : k ≤ n) : hol 2 q k = hol 2 (dualQ (n + 1) q) (n - k) := by
  have h1 := dual_rk hn hq dq (k := k) (by omega)
  have h2 := dual_rk hn hq dq (k := k + 1) (by omega)
  have h3 := full_hol isP2 hn (k + 1)
  have h4 := out_count (n := n + 1) (by omega) q (k := k + 1) (by omega)
  have h5 := full_count hq (k + 1)
  rw [show n + 1 - k = n - k + 1 by omega] at h1
  rw [show n + 1 - (k + 1) = n - k by omega] at h2 h4
  unfold hol
  omega

end Hom
end Go.Proofs.YtbkkdgmiokdbmaaGreat

/-! NAMES OF POINTS, of no program: lists of names, sets with new names, bit by bit. -/

namespace Go.Proofs.YtbkkdgmiokdbmaaGreat
open Sets Lin Hom
namespace Nam

/-! ### names -/

/-- ns are names for n points. -/
def Names (n : Nat) (ns : List Nat) : Prop := ns.Perm (List.range n)
def pt (ns : List Nat) (i : Nat) : Nat := ns.getD i 0
theorem Names.len {n : Nat} {ns : List Nat} (h : Names n ns) : ns.length = n := by rw [h.length_eq, List.length_range]
theorem Names.nodup {n : Nat} {ns : List Nat} (h : Names n ns) : ns.Nodup := h.nodup_iff.2 List.nodup_range
theorem Names.mem {n : Nat} {ns : List Nat} (h : Names n ns) (j : Nat) : j ∈ ns ↔ j < n := by rw [h.mem_iff, List.mem_range]
theorem names_of {n : Nat} {ns : List Nat} (hl : ns.length = n) (hn : ns.Nodup) (hm : ∀ j ∈ ns, j < n) : Names n ns := by
  have h1 : Card (fun j => j < n) n := ⟨List.range n, List.nodup_range, fun j => List.mem_range, List.length_range⟩
  have h2 : Card (fun j => j ∈ ns) n := ⟨ns, hn, fun j => Iff.rfl, hl⟩
  refine (List.perm_ext_iff_of_nodup hn List.nodup_range).2 fun j => ?_
  rw [List.mem_range]
  exact ⟨hm j, h1.eq_of_le h2 hm j⟩
theorem pt_get {ns : List Nat} {i : Nat} (h : i < ns.length) : pt ns i = ns[i] := by unfold pt; rw [List.getD, List.getElem?_eq_getElem h]; rfl
theorem Names.lt {n : Nat} {ns : List Nat} (h : Names n ns) {i : Nat} (hi : i < n) : pt ns i < n := by
  rw [pt_get (by rw [h.len]; exact hi)]
  exact (h.mem _).1 (List.getElem_mem _)
theorem Names.inj {n : Nat} {ns : List Nat} (h : Names n ns) {i j : Nat} (hi : i < n) (hj : j < n) (e : pt ns i = pt ns j) : i = j := by
  rw [pt_get (by rw [h.len]; exact hi), pt_get (by rw [h.len]; exact hj)] at e
  have h1 := h.nodup.idxOf_getElem i (by rw [h.len]; exact hi)
  have h2 := h.nodup.idxOf_getElem j (by rw [h.len]; exact hj)
  rw [← h1, ← h2, e]
/-- Where a name stands. -/
def ix (ns : List Nat) (j : Nat) : Nat := ns.idxOf j
theorem Names.ix_lt {n : Nat} {ns : List Nat} (h : Names n ns) {j : Nat} (hj : j < n) : ix ns j < n := by
  have := List.idxOf_lt_length_of_mem ((h.mem j).2 hj)
  rw [h.len] at this; exact this
theorem Names.pt_ix {n : Nat} {ns : List Nat} (h : Names n ns) {j : Nat} (hj : j < n) : pt ns (ix ns j) = j := by
  have := List.idxOf_lt_length_of_mem ((h.mem j).2 hj)
  unfold ix; rw [pt_get this]; exact List.getElem_idxOf this
theorem Names.ix_pt {n : Nat} {ns : List Nat} (h : Names n ns) {i : Nat} (hi : i < n) : ix ns (pt ns i) = i := h.inj (h.ix_lt (h.lt hi)) hi (h.pt_ix (h.lt hi))
/-- The names that lead back. -/
def bak (n : Nat) (ns : List Nat) : List Nat := (List.range n).map (ix ns)
theorem pt_map {n : Nat} (f : Nat → Nat) {i : Nat} (hi : i < n) : pt ((List.range n).map f) i = f i := by
  rw [pt_get (by simpa using hi)]; simp
theorem names_map {n : Nat} {f : Nat → Nat} (hf : ∀ i, i < n → f i < n) (hi : ∀ i j, i < n → j < n → f i = f j → i = j) : Names n ((List.range n).map f) := by
  refine names_of (by simp) (nodup_map_of f _ List.nodup_range fun a ha b hb e => hi a b (List.mem_range.1 ha) (List.mem_range.1 hb) e) fun j hj => ?_
  obtain ⟨i, h, rfl⟩ := List.mem_map.1 hj
  exact hf i (List.mem_range.1 h)
theorem Names.bak {n : Nat} {ns : List Nat} (h : Names n ns) : Names n (bak n ns) :=
  names_map (fun _ hi => h.ix_lt hi) fun i j hi hj e => by rw [← h.pt_ix hi, ← h.pt_ix hj, e]
theorem pt_bak {n : Nat} {ns : List Nat} {j : Nat} (hj : j < n) : pt (bak n ns) j = ix ns j := pt_map _ hj
/-- One after the other. -/
def cmp (n : Nat) (ns ms : List Nat) : List Nat := (List.range n).map fun i => pt ns (pt ms i)
theorem Names.cmp {n : Nat} {ns ms : List Nat} (h : Names n ns) (k : Names n ms) : Names n (cmp n ns ms) :=
  names_map (fun _ hi => h.lt (k.lt hi)) fun _ _ hi hj e => k.inj hi hj (h.inj (k.lt hi) (k.lt hj) e)
theorem pt_cmp {n : Nat} {ns ms : List Nat} {i : Nat} (hi : i < n) : pt (cmp n ns ms) i = pt ns (pt ms i) := pt_map _ hi
theorem names_ext {n : Nat} {ns ms : List Nat} (h : Names n ns) (k : Names n ms) (e : ∀ i, i < n → pt ns i = pt ms i) : ns = ms := by
  apply List.ext_getElem (by rw [h.len, k.len])
  intro i h1 h2
  have := e i (by rw [← h.len]; exact h1)
  rwa [pt_get h1, pt_get h2] at this
theorem names_id (n : Nat) : Names n (List.range n) := List.Perm.refl _
theorem pt_id {n i : Nat} (hi : i < n) : pt (List.range n) i = i := by rw [pt_get (by simpa using hi)]; simp

/-! ### sets with new names -/

def renU (ns : List Nat) (s : Nat) : Nat → Nat
  | 0 => 0
  | k + 1 => renU ns s k ||| (if s.testBit k = true then 2 ^ pt ns k else 0)
def ren (ns : List Nat) (s : Nat) : Nat := renU ns s ns.length
theorem renU_bit (ns : List Nat) (s : Nat) (j : Nat) : ∀ k, (renU ns s k).testBit j = true ↔ ∃ i, i < k ∧ s.testBit i = true ∧ pt ns i = j
  | 0 => by
    show (0 : Nat).testBit j = true ↔ _
    rw [Nat.zero_testBit]
    exact ⟨fun h => absurd h (by simp), fun ⟨i, h, _⟩ => absurd h (Nat.not_lt_zero _)⟩
  | k + 1 => by
    show (renU ns s k ||| _).testBit j = true ↔ _
    rw [Nat.testBit_or, Bool.or_eq_true, renU_bit ns s j k]
    constructor
    · rintro (⟨i, h1, h2, h3⟩ | h)
      · exact ⟨i, by omega, h2, h3⟩
      · by_cases e : s.testBit k = true
        · rw [if_pos e, Nat.testBit_two_pow, decide_eq_true_iff] at h
          exact ⟨k, by omega, e, h⟩
        · rw [if_neg e, Nat.zero_testBit] at h; cases h
    · rintro ⟨i, h1, h2, h3⟩
      by_cases e : i = k
      · subst e
        right
        rw [if_pos h2, Nat.testBit_two_pow, decide_eq_true_iff]; exact h3
      · exact .inl ⟨i, by omega, h2, h3⟩
theorem ren_bit {n : Nat} {ns : List Nat} (h : Names n ns) (s j : Nat) : (ren ns s).testBit j = true ↔ ∃ i, i < n ∧ s.testBit i = true ∧ pt ns i = j := by
  unfold ren; rw [renU_bit, h.len]
theorem ren_at {n : Nat} {ns : List Nat} (h : Names n ns) (s : Nat) {i : Nat} (hi : i < n) : (ren ns s).testBit (pt ns i) = s.testBit i := by
  rw [Bool.eq_iff_iff, ren_bit h]
  constructor
  · rintro ⟨i', h1, h2, h3⟩
    rw [← h.inj h1 hi h3]; exact h2
  · intro e; exact ⟨i, hi, e, rfl⟩
theorem ren_of {n : Nat} {ns : List Nat} (h : Names n ns) (s : Nat) {j : Nat} (hj : j < n) : (ren ns s).testBit j = s.testBit (ix ns j) := by
  rw [← ren_at h s (h.ix_lt hj), h.pt_ix hj]
theorem lt_pow {s n : Nat} (h : ∀ i, n ≤ i → s.testBit i = false) : s < 2 ^ n := Nat.lt_pow_two_of_testBit s h
theorem bit_lt {s n i : Nat} (h : s < 2 ^ n) (hb : s.testBit i = true) : i < n := by
  rcases Nat.lt_or_ge i n with h1 | h1
  · exact h1
  · rw [Nat.testBit_lt_two_pow (Nat.lt_of_lt_of_le h (Nat.pow_le_pow_right (by decide) h1))] at hb; cases hb
theorem ren_lt {n : Nat} {ns : List Nat} (h : Names n ns) (s : Nat) : ren ns s < 2 ^ n := lt_pow fun j hj => by
  rw [Bool.eq_false_iff]; intro e
  obtain ⟨i, h1, _, h3⟩ := (ren_bit h s j).1 e
  have := h.lt h1
  omega
theorem eq_bits {n s t : Nat} (hs : s < 2 ^ n) (ht : t < 2 ^ n) (h : ∀ i, i < n → s.testBit i = t.testBit i) : s = t := by
  apply Nat.eq_of_testBit_eq
  intro i
  by_cases hi : i < n
  · exact h i hi
  · rw [Bool.eq_iff_iff]
    exact ⟨fun e => absurd (bit_lt hs e) hi, fun e => absurd (bit_lt ht e) hi⟩
theorem ren_cmp {n : Nat} {ns ms : List Nat} (h : Names n ns) (k : Names n ms) (s : Nat) : ren ns (ren ms s) = ren (cmp n ns ms) s := by
  refine eq_bits (n := n) (ren_lt h _) (ren_lt (h.cmp k) _) fun j hj => ?_
  have e : j = pt (cmp n ns ms) (ix ms (ix ns j)) := by rw [pt_cmp (k.ix_lt (h.ix_lt hj)), k.pt_ix (h.ix_lt hj), h.pt_ix hj]
  rw [ren_of h _ hj, ren_of k _ (h.ix_lt hj)]
  conv => rhs; rw [e]
  rw [ren_at (h.cmp k) s (k.ix_lt (h.ix_lt hj))]
theorem ren_id {n s : Nat} (hs : s < 2 ^ n) : ren (List.range n) s = s :=
  eq_bits (n := n) (ren_lt (names_id n) _) hs fun j hj => by
    have := ren_at (names_id n) s hj
    rwa [pt_id hj] at this
theorem ren_bak {n : Nat} {ns : List Nat} (h : Names n ns) {s : Nat} (hs : s < 2 ^ n) : ren (bak n ns) (ren ns s) = s := by
  rw [ren_cmp h.bak h, show cmp n (bak n ns) ns = List.range n from names_ext (h.bak.cmp h) (names_id n) fun i hi => by rw [pt_cmp hi, pt_bak (h.lt hi), h.ix_pt hi, pt_id hi], ren_id hs]
theorem bak_ren {n : Nat} {ns : List Nat} (h : Names n ns) {s : Nat} (hs : s < 2 ^ n) : ren ns (ren (bak n ns) s) = s := by
  rw [ren_cmp h h.bak, show cmp n ns (bak n ns) = List.range n from names_ext (h.cmp h.bak) (names_id n) fun i hi => by rw [pt_cmp hi, pt_bak hi, h.pt_ix hi, pt_id hi], ren_id hs]
theorem ren_sub {n : Nat} {ns : List Nat} (h : Names n ns) {s t : Nat} (hs : s < 2 ^ n) : sub (ren ns s) (ren ns t) = sub s t := by
  rw [Bool.eq_iff_iff, sub_iff, sub_iff]
  constructor
  · intro k i hi
    have hn := bit_lt hs hi
    rw [← ren_at h t hn]
    exact k _ (by rw [ren_at h s hn]; exact hi)
  · intro k j hj
    obtain ⟨i, h1, h2, rfl⟩ := (ren_bit h s j).1 hj
    rw [ren_at h t h1]; exact k i h2
theorem pc_bits : ∀ s : Fin 64, ((List.range 6).filter fun i => s.val.testBit i).length = pc s.val := by decide +kernel
theorem card_pc {n s : Nat} (hn : n ≤ 6) (hs : s < 2 ^ n) : Card (fun i => i < n ∧ s.testBit i = true) (pc s) := by
  have h64 := pow64 hn
  refine ⟨(List.range 6).filter fun i => s.testBit i, List.nodup_range.filter _, fun i => ?_, pc_bits ⟨s, by omega⟩⟩
  rw [List.mem_filter, List.mem_range]
  exact ⟨fun k => ⟨bit_lt hs k.2, k.2⟩, fun k => ⟨by omega, k.2⟩⟩
theorem ren_pc {n : Nat} (hn : n ≤ 6) {ns : List Nat} (h : Names n ns) {s : Nat} (hs : s < 2 ^ n) : pc (ren ns s) = pc s := by
  refine (card_pc hn (ren_lt h s)).unique ((card_pc hn hs).bij (pt ns) (ix ns) (fun i hi => ⟨h.lt hi.1, by rw [ren_at h s hi.1]; exact hi.2⟩) (fun j hj => ⟨h.ix_lt hj.1, by rw [← ren_of h s hj.1]; exact hj.2⟩) (fun i hi => h.ix_pt hi.1) fun j hj => h.pt_ix hj.1)

end Nam
end Go.Proofs.YtbkkdgmiokdbmaaGreat
