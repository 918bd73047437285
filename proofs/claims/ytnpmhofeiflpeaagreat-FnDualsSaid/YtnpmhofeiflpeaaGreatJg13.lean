/-
  TEXTS of one claim, put together: MissLaw, Dual3, WSz, Has.
-/
import Derived.Test.YtnpmhofeiflpeaaGreatJg12
import Derived.Test.YtnpmhofeiflpeaaGreatJg7
/-! SETS THAT ARE NO FACES, of no program: what the chapter's promise says of them. -/

namespace Go.Proofs.YtnpmhofeiflpeaaGreat
open Sets

theorem avoid_isC {n : Int} {xs : List Int} (h : inB 1 6 n = true) : isC n (maxQ (avoidQ n xs)) = true := by
  have hn := (inB_iff _ _ _).1 h
  exact maxQ_isC n _ hn.1 hn.2 (avoidQ_down n xs) fun s hs => avoidQ_set s hs
theorem setsOf_n {n : Int} {xs : List Int} (h : setsOf n xs = true) : inB 1 6 n = true := ((setsOf_iff n xs).1 h).1
theorem setsOf_set {n : Int} {xs : List Int} (h : setsOf n xs = true) (x : Int) (hx : x ∈ xs) : setB n x = true := ((setsOf_iff n xs).1 h).2.2 x hx
/-- Of a complex made out of missing sets, the least of them are missing. -/
theorem miss_from {n : Int} {xs : List Int} (h : setsOf n xs = true) : missing n (maxQ (avoidQ n xs)) = minimal xs := by
  have hok := setsOf_ok h
  rw [missing_yes (avoid_isC (setsOf_n h))]
  have e : ∀ s, s < 64 → missQ n (maxQ (avoidQ n xs)) s = (setB n (s : Int) && abv xs s) := fun s hs => by
    unfold missQ
    rw [inF_maxQ _ (avoidQ_down n xs) s hs]
    unfold avoidQ
    cases setB n (s : Int) <;> simp
  rw [minQ_congr e]
  refine rises_eq _ _ (minQ_rises _) (minimal_rises _) fun x => ?_
  rw [mem_minQ, mem_minimal xs hok]
  constructor
  · rintro ⟨s, rfl, hs, h1, h2⟩
    rw [Bool.and_eq_true] at h1
    obtain ⟨f, hf, k⟩ := (abv_iff xs s).1 h1.2
    obtain ⟨t, rfl, ht⟩ := ok_nat hok hf
    have k : sub t s = true := k
    have hin : ∀ u : Nat, (u : Int) ∈ xs → sub u s = true → u = s := fun u hu ku => by
      have hu6 := (okZ_nat u).1 (setB_ok (setsOf_set h _ hu))
      refine h2 u hu6 ?_ ku
      rw [setsOf_set h _ hu, (abv_iff xs u).2 ⟨_, hu, sub_refl u⟩]; rfl
    have := hin t hf k
    subst this
    exact ⟨t, rfl, hs, hf, hin⟩
  · rintro ⟨s, rfl, hs, hx, hu⟩
    refine ⟨s, rfl, hs, ?_, fun t ht k1 k2 => ?_⟩
    · rw [setsOf_set h _ hx, (abv_iff xs s).2 ⟨_, hx, sub_refl s⟩]; rfl
    · rw [Bool.and_eq_true] at k1
      obtain ⟨f, hf, k⟩ := (abv_iff xs t).1 k1.2
      obtain ⟨u, rfl, _⟩ := ok_nat hok hf
      have k : sub u t = true := k
      have := hu u hf (sub_trans k k2)
      subst this
      exact sub_anti k2 k
/-- A complex is told by its least sets that are no faces. -/
theorem from_miss {n : Int} {xs : List Int} (h : isC n xs = true) : maxQ (avoidQ n (missing n xs)) = xs := by
  conv => rhs; rw [← isC_maxQ h]
  refine maxQ_congr fun s hs => ?_
  rw [missing_yes h]
  cases e : inF xs s with
  | true =>
    unfold avoidQ
    rw [inF_set h s e, Bool.true_and, Bool.not_eq_true']
    rw [Bool.eq_false_iff]; intro k
    obtain ⟨f, hf, k⟩ := (abv_iff _ s).1 k
    obtain ⟨t, rfl, ht, hm, _⟩ := (mem_minQ _ f).1 hf
    have k : sub t s = true := k
    unfold missQ at hm
    rw [inF_sub k e, Bool.and_eq_true] at hm
    cases hm.2
  | false =>
    rw [Bool.eq_false_iff]; intro k
    unfold avoidQ at k
    rw [Bool.and_eq_true, Bool.not_eq_true'] at k
    have hm : missQ n xs s = true := by unfold missQ; rw [k.1, e]; rfl
    obtain ⟨u, _, h2, h3⟩ := minQ_below (missQ n xs) s s hs (Nat.le_refl _) hm
    rw [(abv_iff _ s).2 ⟨_, h2, h3⟩] at k
    cases k.2
theorem miss_setsOf {n : Int} {xs : List Int} (h : isC n xs = true) : setsOf n (missing n xs) = true :=
  (setsOf_iff _ _).2 ⟨(inB_iff _ _ _).2 (isC_n h), missing_le n xs, missing_set⟩
theorem small_mem {xs : List Int} {x : Int} (h : x ∈ small xs) : x ∈ xs ∧ pc x.toNat ≤ 2 := by
  unfold small at h
  rw [List.mem_filter, decide_eq_true_iff] at h
  exact h
theorem small_le (xs : List Int) : (small xs).length ≤ xs.length := List.length_filter_le _ _
theorem small_setsOf {n : Int} {xs : List Int} (h : isC n xs = true) : setsOf n (small (missing n xs)) = true :=
  (setsOf_iff _ _).2 ⟨(inB_iff _ _ _).2 (isC_n h), Nat.le_trans (small_le _) (missing_le n xs), fun x hx => missing_set x (small_mem hx).1⟩
theorem getD_mem {xs : List Int} {k : Nat} (h : k < xs.length) : xs.getD k 0 ∈ xs := by
  rw [List.getD, List.getElem?_eq_getElem h]; exact List.getElem_mem h
/-- Made out of sets of at most two points: a flag complex. -/
theorem small_flag {n : Int} {S : List Int} (h : setsOf n S = true) (hs : ∀ x, x ∈ S → pc x.toNat ≤ 2) : flagB n (maxQ (avoidQ n S)) = true := by
  unfold flagB
  rw [avoid_isC (setsOf_n h), Bool.true_and, decide_eq_true_iff]
  unfold great
  rw [miss_from h]
  by_cases h0 : (minimal S).length = 0
  · rw [if_pos h0]; decide
  · rw [if_neg h0]
    have hm : (minimal S).getD ((minimal S).length - 1) 0 ∈ minimal S := getD_mem (by omega)
    obtain ⟨s, e, _, hx, _⟩ := (mem_minimal S (setsOf_ok h) _).1 hm
    rw [e]
    have := hs _ hx
    omega
theorem flag_flag {n : Int} {xs : List Int} (h : isC n xs = true) : flagB n (maxQ (avoidQ n (small (missing n xs)))) = true :=
  small_flag (small_setsOf h) fun _ hx => (small_mem hx).2
theorem rises_pc {L : List Int} (h : Rises L) (i j : Nat) (hij : i ≤ j) (hj : j < L.length) : pc (L.getD i 0).toNat ≤ pc (L.getD j 0).toNat := by
  by_cases e : i = j
  · subst e; exact Nat.le_refl _
  · have := List.pairwise_iff_getElem.1 h i j (by omega) hj (by omega)
    rw [List.getD, List.getD, List.getElem?_eq_getElem hj, List.getElem?_eq_getElem (show i < L.length by omega)]
    rw [befZ_iff, befN_iff] at this
    show pc (L[i]).toNat ≤ pc (L[j]).toNat
    omega
theorem great_ge {n : Int} {xs : List Int} (k : Nat) (hk : k < (missing n xs).length) : (pc ((missing n xs).getD k 0).toNat : Int) ≤ great n xs := by
  unfold great
  rw [if_neg (by omega)]
  have := rises_pc (missing_rises n xs) k ((missing n xs).length - 1) (by omega) (by omega)
  omega
theorem full_lt {n : Int} {xs : List Int} (h : isC n xs = true) (k : Nat) (hk : k < (missing n xs).length) : fullTo n xs < (pc ((missing n xs).getD k 0).toNat : Int) := by
  unfold fullTo
  rw [if_pos h, if_neg (by omega)]
  have := rises_pc (missing_rises n xs) 0 k (by omega) hk
  omega
/-- A complex is a flag complex just if its flag complex is itself. -/
theorem flag_iff {n : Int} {xs : List Int} (h : isC n xs = true) : flagB n xs = true ↔ maxQ (avoidQ n (small (missing n xs))) = xs := by
  constructor
  · intro hf
    have e : small (missing n xs) = missing n xs := by
      unfold small
      rw [List.filter_eq_self]
      intro x hx
      obtain ⟨k, hk, rfl⟩ := List.mem_iff_getElem.1 hx
      unfold flagB at hf
      rw [Bool.and_eq_true, decide_eq_true_iff] at hf
      have := great_ge (n := n) (xs := xs) k hk
      rw [List.getD, List.getElem?_eq_getElem hk] at this
      have this : (pc ((missing n xs)[k]).toNat : Int) ≤ great n xs := this
      rw [decide_eq_true_iff]
      omega
    rw [e]; exact from_miss h
  · intro e
    have := flag_flag h
    rw [e] at this
    exact this
theorem great_bounds (n : Int) (xs : List Int) : -1 ≤ great n xs ∧ great n xs ≤ 6 := by
  unfold great
  split
  · omega
  · have := pc_le ((missing n xs).getD ((missing n xs).length - 1) 0).toNat
    omega

end Go.Proofs.YtnpmhofeiflpeaaGreat

/-! THE DUAL COMPLEX, of no program: the chapter's answers and its promise. -/

namespace Go.Proofs.YtnpmhofeiflpeaaGreat
open Sets Lin Hom

/-- ComplementOf. -/
def compZ (n x : Int) : Int := if setB n x = true then 2 ^ n.toNat - 1 - x else -1
theorem two_pow_cast (m : Nat) : ((2 ^ m : Nat) : Int) = 2 ^ m := by simp
theorem compZ_nat {n : Int} {s : Nat} (h : setB n (s : Int) = true) : compZ n (s : Int) = ((2 ^ n.toNat - 1 - s : Nat) : Int) := by
  unfold compZ
  rw [if_pos h]
  rw [setB_iff] at h
  have := two_pow_cast n.toNat
  omega
/-- DualOf. -/
def dualO (n : Int) (xs : List Int) := partO (isC n xs) n (dualQ n.toNat (inF xs))
/-- IsSelfDual. -/
def selfB (n : Int) (xs : List Int) : Bool := isC n xs && (xs == maxQ (dualQ n.toNat (inF xs)))
/-- Does the set meet all of the list? -/
def meets (xs : List Int) (s : Nat) : Bool := xs.all fun f => !apart s f.toNat
def coverQ (n : Int) (xs : List Int) (s : Nat) : Bool := setB n (s : Int) && meets xs s
/-- CoversOf. -/
def coversL (n : Int) (xs : List Int) : List Int := if setsOf n xs = true then minQ (coverQ n xs) else []
theorem covers_yes {n : Int} {xs : List Int} (h : setsOf n xs = true) : coversL n xs = minQ (coverQ n xs) := if_pos h
theorem covers_no {n : Int} {xs : List Int} (h : setsOf n xs = false) : coversL n xs = [] := if_neg (by rw [h]; simp)
theorem covers_le (n : Int) (xs : List Int) : (coversL n xs).length ≤ 64 := by
  unfold coversL; split
  · exact minQ_le _
  · simp
theorem minQ_firsts (n : Int) (xs : List Int) (h1 : 1 ≤ n) (h2 : n ≤ 6) : best (fun s o => sub o s) (order (firsts (meets xs) (2 ^ n.toNat))) = minQ (coverQ n xs) := minimal_of _ _ fun x => by
  rw [mem_firsts]
  have h64 := pow_le64 n h1 h2
  constructor
  · rintro ⟨t, rfl, ht, e⟩
    exact ⟨t, rfl, by omega, by unfold coverQ; rw [e, setB_lt n t (by omega) h2]; simp [ht]⟩
  · rintro ⟨t, rfl, ht, e⟩
    unfold coverQ at e
    rw [Bool.and_eq_true, setB_lt n t (by omega) h2, decide_eq_true_iff] at e
    exact ⟨t, rfl, e.1, e.2⟩

/-! ### complements -/

theorem comp_lt {m s : Nat} (h : s < 2 ^ m) : 2 ^ m - 1 - s < 2 ^ m := by omega
theorem comp_comp {m s : Nat} (h : s < 2 ^ m) : 2 ^ m - 1 - (2 ^ m - 1 - s) = s := by omega
theorem comp_sub_iff {m s t : Nat} (hm : m ≤ 6) (hs : s < 2 ^ m) (ht : t < 2 ^ m) : sub (2 ^ m - 1 - t) (2 ^ m - 1 - s) = sub s t := by
  have h64 := pow64 hm
  rw [Bool.eq_iff_iff]
  refine ⟨fun h => ?_, fun h => comp_sub ⟨m, by omega⟩ ⟨s, by omega⟩ ⟨t, by omega⟩ hs ht h⟩
  have := comp_sub ⟨m, by omega⟩ ⟨2 ^ m - 1 - t, by omega⟩ ⟨2 ^ m - 1 - s, by omega⟩ (comp_lt ht) (comp_lt hs) h
  dsimp only at this
  rwa [comp_comp hs, comp_comp ht] at this
theorem comp_apart : ∀ n : Fin 7, ∀ f s : Fin 64, f.val < 2 ^ n.val → s.val < 2 ^ n.val → apart s.val f.val = sub f.val (2 ^ n.val - 1 - s.val) := by decide +kernel
theorem isC_cast {n : Int} {xs : List Int} (h : isC n xs = true) : ∃ m : Nat, n = (m : Int) ∧ 1 ≤ m ∧ m ≤ 6 := by
  have := isC_n h
  exact ⟨n.toNat, by omega, by omega, by omega⟩
theorem setB_m (m s : Nat) (h : m ≤ 6) : setB (m : Int) (s : Int) = true ↔ s < 2 ^ m := by
  rw [setB_lt _ _ (by omega) (by omega), decide_eq_true_iff]; simp
theorem dual_isC {n : Int} {xs : List Int} (h : isC n xs = true) : isC n (maxQ (dualQ n.toNat (inF xs))) = true := by
  obtain ⟨m, rfl, h1, h2⟩ := isC_cast h
  refine maxQ_isC _ _ (by omega) (by omega) (dualQ_down (by simpa using h2) (inF_down xs)) fun s _ hs => ?_
  have := ((dualQ_iff _ _ s).1 hs).1
  rw [setB_m m s h2]; simpa using this
theorem inF_lowZ {n : Int} {xs : List Int} (h : isC n xs = true) : Low n.toNat (inF xs) := fun s _ hs => by
  have hn := isC_n h
  have := inF_set h s hs
  rwa [setB_lt n s (by omega) hn.2, decide_eq_true_iff] at this
/-- The dual of the dual is the complex. -/
theorem dual_dual {n : Int} {xs : List Int} (h : isC n xs = true) : maxQ (dualQ n.toNat (inF (maxQ (dualQ n.toNat (inF xs))))) = xs := by
  have hlow := inF_lowZ h
  obtain ⟨m, rfl, h1, h2⟩ := isC_cast h
  conv => rhs; rw [← isC_maxQ h]
  refine maxQ_congr fun s hs => ?_
  rw [Int.toNat_natCast] at *
  have h64 := pow64 h2
  have hdd := dualQ_down h2 (inF_down xs)
  rw [Bool.eq_iff_iff, dualQ_iff]
  constructor
  · rintro ⟨h3, h4⟩
    rw [inF_maxQ _ hdd _ (by omega)] at h4
    rw [← Bool.not_eq_true, dualQ_iff, comp_comp h3] at h4
    cases e : inF xs s with
    | true => rfl
    | false => exact absurd ⟨comp_lt h3, e⟩ h4
  · intro e
    have h3 := hlow s hs e
    refine ⟨h3, ?_⟩
    rw [inF_maxQ _ hdd _ (by omega), ← Bool.not_eq_true, dualQ_iff, comp_comp h3, e]
    simp
/-- The dual, made out of complements of the least sets that are no faces. -/
theorem dual_of_missing {n : Int} {xs : List Int} (h : isC n xs = true) : maximal ((missing n xs).map (compZ n)) = maxQ (dualQ n.toNat (inF xs)) := by
  obtain ⟨m, rfl, h1, h2⟩ := isC_cast h
  have h64 := pow64 h2
  have hmem : ∀ x, x ∈ (missing (m : Int) xs).map (compZ (m : Int)) ↔ ∃ s : Nat, s < 2 ^ m ∧ (s : Int) ∈ missing (m : Int) xs ∧ x = ((2 ^ m - 1 - s : Nat) : Int) := fun x => by
    rw [List.mem_map]
    constructor
    · rintro ⟨y, hy, rfl⟩
      have hs := missing_set y hy
      obtain ⟨s, rfl, _⟩ := ok_nat (missing_ok _ _) hy
      exact ⟨s, (setB_m m s h2).1 hs, hy, by rw [compZ_nat hs]; simp⟩
    · rintro ⟨s, hs, hm, rfl⟩
      exact ⟨(s : Int), hm, by rw [compZ_nat ((setB_m m s h2).2 hs)]; simp⟩
  have hok : allOk ((missing (m : Int) xs).map (compZ (m : Int))) = true := by
    unfold allOk
    rw [List.all_eq_true]
    intro x hx
    obtain ⟨s, hs, _, rfl⟩ := (hmem x).1 hx
    exact (okZ_nat _).2 (by omega)
  rw [maximal_maxQ _ hok]
  refine maxQ_congr fun s hs => ?_
  rw [Int.toNat_natCast, Bool.eq_iff_iff, inF_iff, dualQ_iff]
  constructor
  · rintro ⟨f, hf, e⟩
    obtain ⟨t, ht, hm, rfl⟩ := (hmem f).1 hf
    have e : sub s (2 ^ m - 1 - t) = true := e
    have := sub_le e
    have hs1 : s < 2 ^ m := by omega
    refine ⟨hs1, ?_⟩
    have e2 : sub t (2 ^ m - 1 - s) = true := by
      rw [← comp_sub_iff h2 ht (comp_lt hs1), comp_comp hs1]; exact e
    rw [missing_yes h] at hm
    obtain ⟨t', e3, _, hq, _⟩ := (mem_minQ _ _).1 hm
    have : t = t' := by omega
    subst this
    unfold missQ at hq
    rw [Bool.and_eq_true, Bool.not_eq_true'] at hq
    rw [Bool.eq_false_iff]; intro k
    rw [inF_sub e2 k] at hq; cases hq.2
  · rintro ⟨hs1, hf⟩
    have hq : missQ (m : Int) xs (2 ^ m - 1 - s) = true := by
      unfold missQ; rw [hf, (setB_m m _ h2).2 (comp_lt hs1)]; rfl
    obtain ⟨u, hu, hm, e⟩ := minQ_below _ _ _ (show 2 ^ m - 1 - s < 64 by omega) (Nat.le_refl _) hq
    rw [← missing_yes h] at hm
    have hum := (setB_m m u h2).1 (missing_set _ hm)
    refine ⟨_, (hmem _).2 ⟨u, hum, hm, rfl⟩, ?_⟩
    show sub s (2 ^ m - 1 - u) = true
    have := comp_sub_iff h2 hum (comp_lt hs1)
    rw [comp_comp hs1] at this
    rw [this]; exact e
/-- Covers are the complements of the facets. -/
theorem covers_comp {n : Int} {xs : List Int} (h : setsOf n xs = true) : order ((maxQ (avoidQ n xs)).map (compZ n)) = coversL n xs := by
  have hn := (inB_iff _ _ _).1 (setsOf_n h)
  obtain ⟨m, rfl⟩ : ∃ m : Nat, n = (m : Int) := ⟨n.toNat, by omega⟩
  have h2 : m ≤ 6 := by omega
  have h64 := pow64 h2
  have key : ∀ s, s < 2 ^ m → (meets xs s = true ↔ abv xs (2 ^ m - 1 - s) = false) := fun s hs => by
    unfold meets abv
    rw [List.all_eq_true, List.any_eq_false]
    have e : ∀ f, f ∈ xs → ((!apart s f.toNat) = true ↔ ¬sub f.toNat (2 ^ m - 1 - s) = true) := fun f hf => by
      have hfs := setsOf_set h f hf
      obtain ⟨t, rfl, _⟩ := ok_nat (setsOf_ok h) hf
      rw [Int.toNat_natCast, comp_apart ⟨m, by omega⟩ ⟨t, by omega⟩ ⟨s, by omega⟩ ((setB_m m t h2).1 hfs) hs]
      simp
    exact ⟨fun k f hf => (e f hf).1 (k f hf), fun k f hf => (e f hf).2 (k f hf)⟩
  have hav : ∀ s, s < 2 ^ m → (avoidQ (m : Int) xs (2 ^ m - 1 - s) = coverQ (m : Int) xs s) := fun s hs => by
    unfold avoidQ coverQ
    rw [(setB_m m s h2).2 hs, (setB_m m _ h2).2 (comp_lt hs)]
    have := key s hs
    cases e : abv xs (2 ^ m - 1 - s) with
    | true => rw [e] at this; cases e2 : meets xs s with
      | true => exact absurd (this.1 e2) (by simp)
      | false => rfl
    | false => rw [this.2 e]; rfl
  have hset : ∀ x, x ∈ maxQ (avoidQ (m : Int) xs) → ∃ s : Nat, x = (s : Int) ∧ s < 2 ^ m := fun x hx => by
    obtain ⟨s, rfl, hs, hq, _⟩ := (mem_maxQ _ x).1 hx
    exact ⟨s, rfl, (setB_m m s h2).1 (avoidQ_set s hs hq)⟩
  have hok : allOk ((maxQ (avoidQ (m : Int) xs)).map (compZ (m : Int))) = true := by
    unfold allOk
    rw [List.all_eq_true]
    intro x hx
    obtain ⟨y, hy, rfl⟩ := List.mem_map.1 hx
    obtain ⟨s, rfl, hs⟩ := hset y hy
    rw [compZ_nat ((setB_m m s h2).2 hs)]
    refine (okZ_nat _).2 ?_
    rw [Int.toNat_natCast]; omega
  rw [covers_yes h]
  refine rises_eq _ _ (order_rises _) (minQ_rises _) fun x => ?_
  rw [order_iff _ hok, List.mem_map, mem_minQ]
  constructor
  · rintro ⟨y, hy, rfl⟩
    obtain ⟨s, rfl, hs⟩ := hset y hy
    obtain ⟨s', e, _, hq, hmax⟩ := (mem_maxQ _ _).1 hy
    have : s = s' := by omega
    subst this
    rw [compZ_nat ((setB_m m s h2).2 hs), Int.toNat_natCast]
    refine ⟨_, rfl, by omega, ?_, fun t ht hqt hst => ?_⟩
    · rw [← hav _ (comp_lt hs), comp_comp hs]; exact hq
    · have := sub_le hst
      have ht1 : t < 2 ^ m := by omega
      rw [← hav t ht1] at hqt
      have e2 : sub s (2 ^ m - 1 - t) = true := by
        rw [← comp_sub_iff h2 hs (comp_lt ht1), comp_comp ht1]; exact hst
      have := hmax _ (by omega) hqt e2
      omega
  · rintro ⟨t, rfl, ht, hqt, hmin⟩
    have ht1 : t < 2 ^ m := by
      unfold coverQ at hqt
      rw [Bool.and_eq_true] at hqt
      exact (setB_m m t h2).1 hqt.1
    refine ⟨((2 ^ m - 1 - t : Nat) : Int), (mem_maxQ _ _).2 ⟨_, rfl, by omega, by rw [hav t ht1]; exact hqt, fun u hu hqu hsu => ?_⟩, ?_⟩
    · have hu1 : u < 2 ^ m := (setB_m m u h2).1 (avoidQ_set u hu hqu)
      have e1 : sub (2 ^ m - 1 - u) t = true := by
        have := comp_sub_iff h2 (comp_lt ht1) hu1
        rw [comp_comp ht1] at this
        rw [this]; exact hsu
      have := hmin (2 ^ m - 1 - u) (by omega) (by rw [← hav _ (comp_lt hu1), comp_comp hu1]; exact hqu) e1
      omega
    · rw [compZ_nat ((setB_m m _ h2).2 (comp_lt ht1)), Int.toNat_natCast, comp_comp ht1]
/-- The binomial number, for few points. -/
def chooseN (n k : Nat) : Nat := fN (full n) k
/-- Faces of both count the sets. -/
theorem dual_count {n : Int} {xs : List Int} (h : isC n xs = true) {k : Nat} (hk : k ≤ n.toNat) : fN (inF xs) k + fN (dualQ n.toNat (inF xs)) (n.toNat - k) = chooseN n.toNat k := by
  have hn := isC_n h
  have h1 := out_count (n := n.toNat) (by omega) (inF xs) hk
  have h2 := full_count (inF_lowZ h) k
  unfold chooseN
  omega

end Go.Proofs.YtnpmhofeiflpeaaGreat

/-! WALKS: the law's own bound on the sizes of complexes. -/

namespace Go.Proofs.YtnpmhofeiflpeaaGreat
open Go.RowKit

/-- What another block's writes leave. -/
theorem Two.far {w w' : World} {b g : Nat} {x y : Value} (h : Two w b x y) (hg : w.grownBy w' (some g)) (hne : b ≠ g) : Two w' b x y := by
  obtain ⟨h1, h2, h3, h4, h5⟩ := h
  have hb := hg.block b h1 (by simpa using hne)
  have := hg.size
  exact ⟨by omega, by rw [World.cell?_of_block (w := w) (w' := w') (a := ⟨b, 0, none⟩) hb]; exact h2, by rw [World.cell?_of_block (w := w) (w' := w') (a := ⟨b, 1, none⟩) hb]; exact h3,
    by rw [World.frozen?_of_block (w := w) (w' := w') (a := ⟨b, 0, none⟩) hb]; exact h4, by rw [World.frozen?_of_block (w := w) (w' := w') (a := ⟨b, 1, none⟩) hb]; exact h5⟩

theorem bdrew1 (w : World) : Below w.heap.size w w.drew := (Below.refl _ _).drew
theorem Two.drew {w : World} {b : Nat} {x y : Value} (h : Two w b x y) : Two w.drew b x y := h
theorem Ints.drew {w : World} {a : Option Addr} {xs : List Int} (h : Ints w a xs) : Ints w.drew a xs := h
theorem below_fresh {w wA : World} (h : Below w.drew.heap.size w.drew wA) : Below w.heap.size w wA := (bdrew1 w).trans h
/-- Out of what is owned: the slice, its room, and a block that is no new one. -/
theorem OwnInts.ata {w : World} {base : Nat} {v : Value} {xs : List Int} (h : OwnInts w base v xs) (hb : base ≤ w.heap.size) :
    ∃ a c g, v = .slice a xs.length c ∧ xs.length ≤ c ∧ base ≤ g ∧ IntsAt w g a xs ∧ (g < w.heap.size ∨ w.heap.size + 5 ≤ g) := by
  unfold OwnInts at h
  rcases h.2 with ⟨hv, h0⟩ | ⟨g, cap, cur, hv, _, _, hcap, _⟩
  · exact ⟨none, 0, w.heap.size + 5, by rw [hv, h0], by omega, by omega, fun j hj => by omega, Or.inr (Nat.le_refl _)⟩
  · subst hv
    obtain ⟨h1, h2⟩ := World.ownsRow.lt h g rfl
    refine ⟨some ⟨g, 0, none⟩, cap, g, rfl, hcap, h1, fun j hj => ⟨rfl, h2, ?_, World.ownsRow.frozenAt h j⟩, Or.inl h2⟩
    rw [World.ownsRow.cellAt h j (by omega), ints_cell xs j hj]

end Go.Proofs.YtnpmhofeiflpeaaGreat

/-! MEMORY: a slice in a block of its own, whatever the block's type. -/

namespace Go.Proofs.YtnpmhofeiflpeaaGreat
open Go.RowKit

/-! ### a slice in a block of its own, whatever the block -/

/-- A slice value that reads as xs, in a block from base on; its room. -/
def HasInts (w : World) (base : Nat) (v : Value) (xs : List Int) : Prop :=
  ∃ a c g, v = .slice a xs.length c ∧ xs.length ≤ c ∧ base ≤ g ∧ IntsAt w g a xs ∧ (g < w.heap.size ∨ w.heap.size + 5 ≤ g)
theorem OwnInts.has {w : World} {base : Nat} {v : Value} {xs : List Int} (h : OwnInts w base v xs) (hb : base ≤ w.heap.size) : HasInts w base v xs := OwnInts.ata h hb
theorem HasInts.ata {w : World} {base : Nat} {v : Value} {xs : List Int} (h : HasInts w base v xs) (_ : base ≤ w.heap.size) :
    ∃ a c g, v = .slice a xs.length c ∧ xs.length ≤ c ∧ base ≤ g ∧ IntsAt w g a xs ∧ (g < w.heap.size ∨ w.heap.size + 5 ≤ g) := h
theorem HasInts.lower {w : World} {base b : Nat} {v : Value} {xs : List Int} (h : HasInts w base v xs) (hb : b ≤ base) : HasInts w b v xs := by
  obtain ⟨a, c, g, h1, h2, h3, h4⟩ := h
  exact ⟨a, c, g, h1, h2, by omega, h4⟩
theorem HasInts.nil (w : World) (base : Nat) (h : base ≤ w.heap.size) : HasInts w base (.slice none 0 0) [] :=
  ⟨none, 0, w.heap.size + 5, rfl, Nat.le_refl _, by omega, fun j hj => absurd hj (Nat.not_lt_zero _), Or.inr (Nat.le_refl _)⟩

theorem own_has {f : FuncId} {args : Array Value} {w : World} {L : List Int} (h : Calls Tryz.prog f args w fun e w' => ∃ v, e = .returned v ∧ OwnInts w' w.heap.size v L ∧ Below w.heap.size w w') :
    Calls Tryz.prog f args w fun e w' => ∃ v, e = .returned v ∧ HasInts w' w.heap.size v L ∧ Below w.heap.size w w' :=
  h.mono fun _ _ ⟨v, he, ho, hb⟩ => ⟨v, he, ho.has hb.size, hb⟩

end Go.Proofs.YtnpmhofeiflpeaaGreat
