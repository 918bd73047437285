/-
  SETS THAT ARE NO FACES, of no program: what the chapter's promise says of them.
-/
import Derived.Test.YtbkkdgmiokdbmaaGreatJg11
namespace Go.Proofs.YtbkkdgmiokdbmaaGreat
open Sets

theorem avoid_isC {n : Int} {xs : List Int} (h : inB 1 6 n = true) : isC n (maxQ (avoidQ n xs)) = true := by
  have hn := (inB_iff _ _ _).1 h
  exact maxQ_isC n _ hn.1 hn.2 (avoidQ_down n xs) fun s hs => avoidQ_set s hs
theorem setsOf_n {n : Int} {xs : List Int} (h : setsOf n xs = true) : inB 1 6 n = true := ((setsOf_iff n xs).1 h).1
theorem setsOf_set {n : Int} {xs : List Int} (h : setsOf n xs = true) (x : Int) (hx : x ∈ xs) : setB n x = true := ((setsOf_iff n xs).1 h).2.2 x hx
/-- Of a complex made out of missing sets, the least of them are missing. -/
theorem miss_from {n : Int} {xs : List Int} (h : setsOf n xs = true) : missing n (maxQ (avoidQ n xs)) = minimal xs := by
  have hok := setsOf_ok h
  rw [missing_yes (avoid_isC (setsOf_n h))]
  have e : ∀ s, s < 64 → missQ n (maxQ (avoidQ n xs)) s = (setB n (s : Int) && abv xs s) := fun s hs => by
    unfold missQ
    rw [inF_maxQ _ (avoidQ_down n xs) s hs]
    unfold avoidQ
    cases setB n (s : Int) <;> simp
  rw [minQ_congr e]
  refine rises_eq _ _ (minQ_rises _) (minimal_rises _) fun x => ?_
  rw [mem_minQ, mem_minimal xs hok]
  constructor
  · rintro ⟨s, rfl, hs, h1, h2⟩
    rw [Bool.and_eq_true] at h1
    obtain ⟨f, hf, k⟩ := (abv_iff xs s).1 h1.2
    obtain ⟨t, rfl, ht⟩ := ok_nat hok hf
    have k : sub t s = true := k
    have hin : ∀ u : Nat, (u : Int) ∈ xs → sub u s = true → u = s := fun u hu ku => by
      have hu6 := (okZ_nat u).1 (setB_ok (setsOf_set h _ hu))
      refine h2 u hu6 ?_ ku
      rw [setsOf_set h _ hu, (abv_iff xs u).2 ⟨_, hu, sub_refl u⟩]; rfl
    have := hin t hf k
    subst this
    exact ⟨t, rfl, hs, hf, hin⟩
  · rintro ⟨s, rfl, hs, hx, hu⟩
    refine ⟨s, rfl, hs, ?_, fun t ht k1 k2 => ?_⟩
    · rw [setsOf_set h _ hx, (abv_iff xs s).2 ⟨_, hx, sub_refl s⟩]; rfl
    · rw [Bool.and_eq_true] at k1
      obtain ⟨f, hf, k⟩ := (abv_iff xs t).1 k1.2
      obtain ⟨u, rfl, _⟩ := ok_nat hok hf
      have k : sub u t = true := k
      have := hu u hf (sub_trans k k2)
      subst this
      exact sub_anti k2 k
/-- A complex is told by its least sets that are no faces. -/
theorem from_miss {n : Int} {xs : List Int} (h : isC n xs = true) : maxQ (avoidQ n (missing n xs)) = xs := by
  conv => rhs; rw [← isC_maxQ h]
  refine maxQ_congr fun s hs => ?_
  rw [missing_yes h]
  cases e : inF xs s with
  | true =>
    unfold avoidQ
    rw [inF_set h s e, Bool.true_and, Bool.not_eq_true']
    rw [Bool.eq_false_iff]; intro k
    obtain ⟨f, hf, k⟩ := (abv_iff _ s).1 k
    obtain ⟨t, rfl, ht, hm, _⟩ := (mem_minQ _ f).1 hf
    have k : sub t s = true := k
    unfold missQ at hm
    rw [inF_sub k e, Bool.and_eq_true] at hm
    cases hm.2
  | false =>
    rw [Bool.eq_false_iff]; intro k
    unfold avoidQ at k
    rw [Bool.and_eq_true, Bool.not_eq_true'] at k
    have hm : missQ n xs s = true := by unfold missQ; rw [k.1, e]; rfl
    obtain ⟨u, _, h2, h3⟩ := minQ_below (missQ n xs) s s hs (Nat.le_refl _) hm
    rw [(abv_iff _ s).2 ⟨_, h2, h3⟩] at k
    cases k.2
theorem miss_setsOf {n : Int} {xs : List Int} (h : isC n xs = true) : setsOf n (missing n xs) = true :=
  (setsOf_iff _ _).2 ⟨(inB_iff _ _ _).2 (isC_n h), missing_le n xs, missing_set⟩
theorem small_mem {xs : List Int} {x : Int} (h : x ∈ small xs) : x ∈ xs ∧ pc x.toNat ≤ 2 := by
  unfold small at h
  rw [List.mem_filter, decide_eq_true_iff] at h
  exact h
theorem small_le (xs : List Int) : (small xs).length ≤ xs.length := List.length_filter_le _ _
theorem small_setsOf {n : Int} {xs : List Int} (h : isC n xs = true) : setsOf n (small (missing n xs)) = true :=
  (setsOf_iff _ _).2 ⟨(inB_iff _ _ _).2 (isC_n h), Nat.le_trans (small_le _) (missing_le n xs), fun x hx => missing_set x (small_mem hx).1⟩
theorem getD_mem {xs : List Int} {k : Nat} (h : k < xs.length) : xs.getD k 0 ∈ xs := by
  rw [List.getD, List.getElem?_eq_getElem h]; exact List.getElem_mem h
/-- Made out of sets of at most two points: a flag complex. -/
theorem small_flag {n : Int} {S : List Int} (h : setsOf n S = true) (hs : ∀ x, x ∈ S → pc x.toNat ≤ 2) : flagB n (maxQ (avoidQ n S)) = true := by
  unfold flagB
  rw [avoid_isC (setsOf_n h), Bool.true_and, decide_eq_true_iff]
  unfold great
  rw [miss_from h]
  by_cases h0 : (minimal S).length = 0
  · rw [if_pos h0]; decide
  · rw [if_neg h0]
    have hm : (minimal S).getD ((minimal S).length - 1) 0 ∈ minimal S := getD_mem (by omega)
    obtain ⟨s, e, _, hx, _⟩ := (mem_minimal S (setsOf_ok h) _).1 hm
    rw [e]
    have := hs _ hx
    omega
theorem flag_flag {n : Int} {xs : List Int} (h : isC n xs = true) : flagB n (maxQ (avoidQ n (small (missing n xs)))) = true :=
  small_flag (small_setsOf h) fun _ hx => (small_mem hx).2
theorem rises_pc {L : List Int} (h : Rises L) (i j : Nat) (hij : i ≤ j) (hj : j < L.length) : pc (L.getD i 0).toNat ≤ pc (L.getD j 0).toNat := by
  by_cases e : i = j
  · subst e; exact Nat.le_refl _
  · have := List.pairwise_iff_getElem.1 h i j (by omega) hj (by omega)
    rw [List.getD, List.getD, List.getElem?_eq_getElem hj, List.getElem?_eq_getElem (show i < L.length by omega)]
    rw [befZ_iff, befN_iff] at this
    show pc (L[i]).toNat ≤ pc (L[j]).toNat
    omega
theorem great_ge {n : Int} {xs : List Int} (k : Nat) (hk : k < (missing n xs).length) : (pc ((missing n xs).getD k 0).toNat : Int) ≤ great n xs := by
  unfold great
  rw [if_neg (by omega)]
  have := rises_pc (missing_rises n xs) k ((missing n xs).length - 1) (by omega) (by omega)
  omega
theorem full_lt {n : Int} {xs : List Int} (h : isC n xs = true) (k : Nat) (hk : k < (missing n xs).length) : fullTo n xs < (pc ((missing n xs).getD k 0).toNat : Int) := by
  unfold fullTo
  rw [if_pos h, if_neg (by omega)]
  have := rises_pc (missing_rises n xs) 0 k (by omega) hk
  omega
/-- A complex is a flag complex just if its flag complex is itself. -/
theorem flag_iff {n : Int} {xs : List Int} (h : isC n xs = true) : flagB n xs = true ↔ maxQ (avoidQ n (small (missing n xs))) = xs := by
  constructor
  · intro hf
    have e : small (missing n xs) = missing n xs := by
      unfold small
      rw [List.filter_eq_self]
      intro x hx
      obtain ⟨k, hk, rfl⟩ := List.mem_iff_getElem.1 hx
      unfold flagB at hf
      rw [Bool.and_eq_true, decide_eq_true_iff] at hf
      have := great_ge (n := n) (xs := xs) k hk
      rw [List.getD, List.getElem?_eq_getElem hk] at this
      have this : (pc ((missing n xs)[k]).toNat : Int) ≤ great n xs := this
      rw [decide_eq_true_iff]
      omega
    rw [e]; exact from_miss h
  · intro e
    have := flag_flag h
    rw [e] at this
    exact this
theorem great_bounds (n : Int) (xs : List Int) : -1 ≤ great n xs ∧ great n xs ≤ 6 := by
  unfold great
  split
  · omega
  · have := pc_le ((missing n xs).getD ((missing n xs).length - 1) 0).toNat
    omega

end Go.Proofs.YtbkkdgmiokdbmaaGreat
