/-
  THE DUAL COMPLEX, of no program: the chapter's answers and its promise.
-/
import Derived.Test.YtbkkdgmiokdbmaaGreatJg5
import Derived.Test.YtbkkdgmiokdbmaaGreatMissLaw
namespace Go.Proofs.YtbkkdgmiokdbmaaGreat
open Sets Lin Hom

/-- ComplementOf. -/
def compZ (n x : Int) : Int := if setB n x = true then 2 ^ n.toNat - 1 - x else -1
theorem two_pow_cast (m : Nat) : ((2 ^ m : Nat) : Int) = 2 ^ m := by simp
theorem compZ_nat {n : Int} {s : Nat} (h : setB n (s : Int) = true) : compZ n (s : Int) = ((2 ^ n.toNat - 1 - s : Nat) : Int) := by
  unfold compZ
  rw [if_pos h]
  rw [setB_iff] at h
  have := two_pow_cast n.toNat
  omega
/-- DualOf. -/
def dualO (n : Int) (xs : List Int) := partO (isC n xs) n (dualQ n.toNat (inF xs))
/-- IsSelfDual. -/
def selfB (n : Int) (xs : List Int) : Bool := isC n xs && (xs == maxQ (dualQ n.toNat (inF xs)))
/-- Does the set meet all of the list? -/
def meets (xs : List Int) (s : Nat) : Bool := xs.all fun f => !apart s f.toNat
def coverQ (n : Int) (xs : List Int) (s : Nat) : Bool := setB n (s : Int) && meets xs s
/-- CoversOf. -/
def coversL (n : Int) (xs : List Int) : List Int := if setsOf n xs = true then minQ (coverQ n xs) else []
theorem covers_yes {n : Int} {xs : List Int} (h : setsOf n xs = true) : coversL n xs = minQ (coverQ n xs) := if_pos h
theorem covers_no {n : Int} {xs : List Int} (h : setsOf n xs = false) : coversL n xs = [] := if_neg (by rw [h]; simp)
theorem covers_le (n : Int) (xs : List Int) : (coversL n xs).length ≤ 64 := by
  unfold coversL; split
  · exact minQ_le _
  · simp
theorem minQ_firsts (n : Int) (xs : List Int) (h1 : 1 ≤ n) (h2 : n ≤ 6) : best (fun s o => sub o s) (order (firsts (meets xs) (2 ^ n.toNat))) = minQ (coverQ n xs) := minimal_of _ _ fun x => by
  rw [mem_firsts]
  have h64 := pow_le64 n h1 h2
  constructor
  · rintro ⟨t, rfl, ht, e⟩
    exact ⟨t, rfl, by omega, by unfold coverQ; rw [e, setB_lt n t (by omega) h2]; simp [ht]⟩
  · rintro ⟨t, rfl, ht, e⟩
    unfold coverQ at e
    rw [Bool.and_eq_true, setB_lt n t (by omega) h2, decide_eq_true_iff] at e
    exact ⟨t, rfl, e.1, e.2⟩

/-! ### complements -/

theorem comp_lt {m s : Nat} (h : s < 2 ^ m) : 2 ^ m - 1 - s < 2 ^ m := by omega
theorem comp_comp {m s : Nat} (h : s < 2 ^ m) : 2 ^ m - 1 - (2 ^ m - 1 - s) = s := by omega
theorem comp_sub_iff {m s t : Nat} (hm : m ≤ 6) (hs : s < 2 ^ m) (ht : t < 2 ^ m) : sub (2 ^ m - 1 - t) (2 ^ m - 1 - s) = sub s t := by
  have h64 := pow64 hm
  rw [Bool.eq_iff_iff]
  refine ⟨fun h => ?_, fun h => comp_sub ⟨m, by omega⟩ ⟨s, by omega⟩ ⟨t, by omega⟩ hs ht h⟩
  have := comp_sub ⟨m, by omega⟩ ⟨2 ^ m - 1 - t, by omega⟩ ⟨2 ^ m - 1 - s, by omega⟩ (comp_lt ht) (comp_lt hs) h
  dsimp only at this
  rwa [comp_comp hs, comp_comp ht] at this
theorem comp_apart : ∀ n : Fin 7, ∀ f s : Fin 64, f.val < 2 ^ n.val → s.val < 2 ^ n.val → apart s.val f.val = sub f.val (2 ^ n.val - 1 - s.val) := by decide +kernel
theorem isC_cast {n : Int} {xs : List Int} (h : isC n xs = true) : ∃ m : Nat, n = (m : Int) ∧ 1 ≤ m ∧ m ≤ 6 := by
  have := isC_n h
  exact ⟨n.toNat, by omega, by omega, by omega⟩
theorem setB_m (m s : Nat) (h : m ≤ 6) : setB (m : Int) (s : Int) = true ↔ s < 2 ^ m := by
  rw [setB_lt _ _ (by omega) (by omega), decide_eq_true_iff]; simp
theorem dual_isC {n : Int} {xs : List Int} (h : isC n xs = true) : isC n (maxQ (dualQ n.toNat (inF xs))) = true := by
  obtain ⟨m, rfl, h1, h2⟩ := isC_cast h
  refine maxQ_isC _ _ (by omega) (by omega) (dualQ_down (by simpa using h2) (inF_down xs)) fun s _ hs => ?_
  have := ((dualQ_iff _ _ s).1 hs).1
  rw [setB_m m s h2]; simpa using this
theorem inF_lowZ {n : Int} {xs : List Int} (h : isC n xs = true) : Low n.toNat (inF xs) := fun s _ hs => by
  have hn := isC_n h
  have := inF_set h s hs
  rwa [setB_lt n s (by omega) hn.2, decide_eq_true_iff] at this
/-- The dual of the dual is the complex. -/
theorem dual_dual {n : Int} {xs : List Int} (h : isC n xs = true) : maxQ (dualQ n.toNat (inF (maxQ (dualQ n.toNat (inF xs))))) = xs := by
  have hlow := inF_lowZ h
  obtain ⟨m, rfl, h1, h2⟩ := isC_cast h
  conv => rhs; rw [← isC_maxQ h]
  refine maxQ_congr fun s hs => ?_
  rw [Int.toNat_natCast] at *
  have h64 := pow64 h2
  have hdd := dualQ_down h2 (inF_down xs)
  rw [Bool.eq_iff_iff, dualQ_iff]
  constructor
  · rintro ⟨h3, h4⟩
    rw [inF_maxQ _ hdd _ (by omega)] at h4
    rw [← Bool.not_eq_true, dualQ_iff, comp_comp h3] at h4
    cases e : inF xs s with
    | true => rfl
    | false => exact absurd ⟨comp_lt h3, e⟩ h4
  · intro e
    have h3 := hlow s hs e
    refine ⟨h3, ?_⟩
    rw [inF_maxQ _ hdd _ (by omega), ← Bool.not_eq_true, dualQ_iff, comp_comp h3, e]
    simp
/-- The dual, made out of complements of the least sets that are no faces. -/
theorem dual_of_missing {n : Int} {xs : List Int} (h : isC n xs = true) : maximal ((missing n xs).map (compZ n)) = maxQ (dualQ n.toNat (inF xs)) := by
  obtain ⟨m, rfl, h1, h2⟩ := isC_cast h
  have h64 := pow64 h2
  have hmem : ∀ x, x ∈ (missing (m : Int) xs).map (compZ (m : Int)) ↔ ∃ s : Nat, s < 2 ^ m ∧ (s : Int) ∈ missing (m : Int) xs ∧ x = ((2 ^ m - 1 - s : Nat) : Int) := fun x => by
    rw [List.mem_map]
    constructor
    · rintro ⟨y, hy, rfl⟩
      have hs := missing_set y hy
      obtain ⟨s, rfl, _⟩ := ok_nat (missing_ok _ _) hy
      exact ⟨s, (setB_m m s h2).1 hs, hy, by rw [compZ_nat hs]; simp⟩
    · rintro ⟨s, hs, hm, rfl⟩
      exact ⟨(s : Int), hm, by rw [compZ_nat ((setB_m m s h2).2 hs)]; simp⟩
  have hok : allOk ((missing (m : Int) xs).map (compZ (m : Int))) = true := by
    unfold allOk
    rw [List.all_eq_true]
    intro x hx
    obtain ⟨s, hs, _, rfl⟩ := (hmem x).1 hx
    exact (okZ_nat _).2 (by omega)
  rw [maximal_maxQ _ hok]
  refine maxQ_congr fun s hs => ?_
  rw [Int.toNat_natCast, Bool.eq_iff_iff, inF_iff, dualQ_iff]
  constructor
  · rintro ⟨f, hf, e⟩
    obtain ⟨t, ht, hm, rfl⟩ := (hmem f).1 hf
    have e : sub s (2 ^ m - 1 - t) = true := e
    have := sub_le e
    have hs1 : s < 2 ^ m := by omega
    refine ⟨hs1, ?_⟩
    have e2 : sub t (2 ^ m - 1 - s) = true := by
      rw [← comp_sub_iff h2 ht (comp_lt hs1), comp_comp hs1]; exact e
    rw [missing_yes h] at hm
    obtain ⟨t', e3, _, hq, _⟩ := (mem_minQ _ _).1 hm
    have : t = t' := by omega
    subst this
    unfold missQ at hq
    rw [Bool.and_eq_true, Bool.not_eq_true'] at hq
    rw [Bool.eq_false_iff]; intro k
    rw [inF_sub e2 k] at hq; cases hq.2
  · rintro ⟨hs1, hf⟩
    have hq : missQ (m : Int) xs (2 ^ m - 1 - s) = true := by
      unfold missQ; rw [hf, (setB_m m _ h2).2 (comp_lt hs1)]; rfl
    obtain ⟨u, hu, hm, e⟩ := minQ_below _ _ _ (show 2 ^ m - 1 - s < 64 by omega) (Nat.le_refl _) hq
    rw [← missing_yes h] at hm
    have hum := (setB_m m u h2).1 (missing_set _ hm)
    refine ⟨_, (hmem _).2 ⟨u, hum, hm, rfl⟩, ?_⟩
    show sub s (2 ^ m - 1 - u) = true
    have := comp_sub_iff h2 hum (comp_lt hs1)
    rw [comp_comp hs1] at this
    rw [this]; exact e
/-- Covers are the complements of the facets. -/
theorem covers_comp {n : Int} {xs : List Int} (h : setsOf n xs = true) : order ((maxQ (avoidQ n xs)).map (compZ n)) = coversL n xs := by
  have hn := (inB_iff _ _ _).1 (setsOf_n h)
  obtain ⟨m, rfl⟩ : ∃ m : Nat, n = (m : Int) := ⟨n.toNat, by omega⟩
  have h2 : m ≤ 6 := by omega
  have h64 := pow64 h2
  have key : ∀ s, s < 2 ^ m → (meets xs s = true ↔ abv xs (2 ^ m - 1 - s) = false) := fun s hs => by
    unfold meets abv
    rw [List.all_eq_true, List.any_eq_false]
    have e : ∀ f, f ∈ xs → ((!apart s f.toNat) = true ↔ ¬sub f.toNat (2 ^ m - 1 - s) = true) := fun f hf => by
      have hfs := setsOf_set h f hf
      obtain ⟨t, rfl, _⟩ := ok_nat (setsOf_ok h) hf
      rw [Int.toNat_natCast, comp_apart ⟨m, by omega⟩ ⟨t, by omega⟩ ⟨s, by omega⟩ ((setB_m m t h2).1 hfs) hs]
      simp
    exact ⟨fun k f hf => (e f hf).1 (k f hf), fun k f hf => (e f hf).2 (k f hf)⟩
  have hav : ∀ s, s < 2 ^ m → (avoidQ (m : Int) xs (2 ^ m - 1 - s) = coverQ (m : Int) xs s) := fun s hs => by
    unfold avoidQ coverQ
    rw [(setB_m m s h2).2 hs, (setB_m m _ h2).2 (comp_lt hs)]
    have := key s hs
    cases e : abv xs (2 ^ m - 1 - s) with
    | true => rw [e] at this; cases e2 : meets xs s with
      | true => exact absurd (this.1 e2) (by simp)
      | false => rfl
    | false => rw [this.2 e]; rfl
  have hset : ∀ x, x ∈ maxQ (avoidQ (m : Int) xs) → ∃ s : Nat, x = (s : Int) ∧ s < 2 ^ m := fun x hx => by
    obtain ⟨s, rfl, hs, hq, _⟩ := (mem_maxQ _ x).1 hx
    exact ⟨s, rfl, (setB_m m s h2).1 (avoidQ_set s hs hq)⟩
  have hok : allOk ((maxQ (avoidQ (m : Int) xs)).map (compZ (m : Int))) = true := by
    unfold allOk
    rw [List.all_eq_true]
    intro x hx
    obtain ⟨y, hy, rfl⟩ := List.mem_map.1 hx
    obtain ⟨s, rfl, hs⟩ := hset y hy
    rw [compZ_nat ((setB_m m s h2).2 hs)]
    refine (okZ_nat _).2 ?_
    rw [Int.toNat_natCast]; omega
  rw [covers_yes h]
  refine rises_eq _ _ (order_rises _) (minQ_rises _) fun x => ?_
  rw [order_iff _ hok, List.mem_map, mem_minQ]
  constructor
  · rintro ⟨y, hy, rfl⟩
    obtain ⟨s, rfl, hs⟩ := hset y hy
    obtain ⟨s', e, _, hq, hmax⟩ := (mem_maxQ _ _).1 hy
    have : s = s' := by omega
    subst this
    rw [compZ_nat ((setB_m m s h2).2 hs), Int.toNat_natCast]
    refine ⟨_, rfl, by omega, ?_, fun t ht hqt hst => ?_⟩
    · rw [← hav _ (comp_lt hs), comp_comp hs]; exact hq
    · have := sub_le hst
      have ht1 : t < 2 ^ m := by omega
      rw [← hav t ht1] at hqt
      have e2 : sub s (2 ^ m - 1 - t) = true := by
        rw [← comp_sub_iff h2 hs (comp_lt ht1), comp_comp ht1]; exact hst
      have := hmax _ (by omega) hqt e2
      omega
  · rintro ⟨t, rfl, ht, hqt, hmin⟩
    have ht1 : t < 2 ^ m := by
      unfold coverQ at hqt
      rw [Bool.and_eq_true] at hqt
      exact (setB_m m t h2).1 hqt.1
    refine ⟨((2 ^ m - 1 - t : Nat) : Int), (mem_maxQ _ _).2 ⟨_, rfl, by omega, by rw [hav t ht1]; exact hqt, fun u hu hqu hsu => ?_⟩, ?_⟩
    · have hu1 : u < 2 ^ m := (setB_m m u h2).1 (avoidQ_set u hu hqu)
      have e1 : sub (2 ^ m - 1 - u) t = true := by
        have := comp_sub_iff h2 (comp_lt ht1) hu1
        rw [comp_comp ht1] at this
        rw [this]; exact hsu
      have := hmin (2 ^ m - 1 - u) (by omega) (by rw [← hav _ (comp_lt hu1), comp_comp hu1]; exact hqu) e1
      omega
    · rw [compZ_nat ((setB_m m _ h2).2 (comp_lt ht1)), Int.toNat_natCast, comp_comp ht1]
/-- The binomial number, for few points. -/
def chooseN (n k : Nat) : Nat := fN (Hom.full n) k
/-- Faces of both count the sets. -/
theorem dual_count {n : Int} {xs : List Int} (h : isC n xs = true) {k : Nat} (hk : k ≤ n.toNat) : fN (inF xs) k + fN (dualQ n.toNat (inF xs)) (n.toNat - k) = chooseN n.toNat k := by
  have hn := isC_n h
  have h1 := out_count (n := n.toNat) (by omega) (inF xs) hk
  have h2 := full_count (inF_lowZ h) k
  unfold chooseN
  omega

end Go.Proofs.YtbkkdgmiokdbmaaGreat
