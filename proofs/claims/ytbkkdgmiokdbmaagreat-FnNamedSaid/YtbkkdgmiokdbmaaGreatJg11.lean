/-
  TEXTS of one claim, put together: Miss, WPartI, WMissS2, WNamS2.
-/
import Derived.Test.YtbkkdgmiokdbmaaGreatJg3
import Derived.Test.YtbkkdgmiokdbmaaGreatJg8
import Derived.Test.YtbkkdgmiokdbmaaGreatJg10
import Derived.Test.YtbkkdgmiokdbmaaGreatJg2
import Derived.Deep.RegionHeld3
import Derived.Deep.RegionLaw
import Derived.Deep.AppendLies
/-! SETS THAT ARE NO FACES, of no program: the least sets of a family; a complex is told by its least no-faces. -/

namespace Go.Proofs.YtbkkdgmiokdbmaaGreat
open Sets

/-! ### the least sets of a family -/

/-- The least sets of a family, in order. -/
def minQ (q : Nat → Bool) : List Int := ord fun s => q s && (List.range 64).all fun t => !(q t && sub t s && t != s)
theorem mem_minQ (q : Nat → Bool) (x : Int) : x ∈ minQ q ↔ ∃ s : Nat, x = (s : Int) ∧ s < 64 ∧ q s = true ∧ ∀ t, t < 64 → q t = true → sub t s = true → t = s := by
  unfold minQ
  rw [mem_ord]
  constructor
  · rintro ⟨s, rfl, hs, h⟩
    rw [Bool.and_eq_true, List.all_eq_true] at h
    refine ⟨s, rfl, hs, h.1, fun t ht h1 h2 => ?_⟩
    have := h.2 t (List.mem_range.2 ht)
    rw [h1, h2] at this
    simpa using this
  · rintro ⟨s, rfl, hs, h1, h2⟩
    refine ⟨s, rfl, hs, ?_⟩
    rw [Bool.and_eq_true, List.all_eq_true]
    refine ⟨h1, fun t ht => ?_⟩
    rw [Bool.not_eq_true', Bool.and_eq_false_iff]
    cases e1 : q t with
    | false => left; rfl
    | true =>
      cases e2 : sub t s with
      | false => left; rfl
      | true => right; rw [h2 t (List.mem_range.1 ht) e1 e2]; simp
theorem minQ_congr {p q : Nat → Bool} (h : ∀ s, s < 64 → p s = q s) : minQ p = minQ q := by
  refine rises_eq _ _ (ord_rises _) (ord_rises _) fun x => ?_
  rw [mem_minQ, mem_minQ]
  constructor
  · rintro ⟨s, e, hs, h1, h2⟩
    exact ⟨s, e, hs, by rw [← h s hs]; exact h1, fun t ht k1 k2 => h2 t ht (by rw [h t ht]; exact k1) k2⟩
  · rintro ⟨s, e, hs, h1, h2⟩
    exact ⟨s, e, hs, by rw [h s hs]; exact h1, fun t ht k1 k2 => h2 t ht (by rw [← h t ht]; exact k1) k2⟩
theorem minQ_le (q : Nat → Bool) : (minQ q).length ≤ 64 := ord_le _
theorem minQ_ok (q : Nat → Bool) : allOk (minQ q) = true := ord_ok _
theorem minQ_rises (q : Nat → Bool) : Rises (minQ q) := ord_rises _
/-- Each set of a family holds a least one. -/
theorem minQ_below (q : Nat → Bool) : ∀ (m t : Nat), t < 64 → t ≤ m → q t = true → ∃ u : Nat, u < 64 ∧ (u : Int) ∈ minQ q ∧ sub u t = true
  | m, t, ht, hm, hq => by
    by_cases h : ∀ v, v < 64 → q v = true → sub v t = true → v = t
    · exact ⟨t, ht, (mem_minQ q _).2 ⟨t, rfl, ht, hq, h⟩, sub_refl t⟩
    · have : ∃ v, v < 64 ∧ q v = true ∧ sub v t = true ∧ v ≠ t := by
        refine Classical.byContradiction fun k => h fun v h1 h2 h3 => Classical.byContradiction fun h4 => k ⟨v, h1, h2, h3, h4⟩
      obtain ⟨v, h1, h2, h3, h4⟩ := this
      have := sub_le h3
      cases m with
      | zero => omega
      | succ m =>
        obtain ⟨u, k1, k2, k3⟩ := minQ_below q m v h1 (by omega) h2
        exact ⟨u, k1, k2, sub_trans k3 h3⟩
/-- What MinimalSets keeps. -/
theorem mem_minimal (A : List Int) (h : allOk A = true) (x : Int) : x ∈ minimal A ↔ ∃ s : Nat, x = (s : Int) ∧ s < 64 ∧ (s : Int) ∈ A ∧ ∀ t : Nat, (t : Int) ∈ A → sub t s = true → t = s := by
  unfold minimal best
  rw [List.mem_filter, order_iff A h]
  constructor
  · rintro ⟨hx, hu⟩
    obtain ⟨s, rfl, hs⟩ := ok_nat h hx
    refine ⟨s, rfl, hs, hx, fun t ht k => ?_⟩
    unfold unbeaten at hu
    have := List.all_eq_true.1 hu (t : Int) ((order_iff A h _).2 ht)
    rw [Bool.not_eq_true', Bool.and_eq_false_iff] at this
    rcases this with e | e
    · have : (t : Int) = (s : Int) := by simpa using e
      omega
    · have e : sub t s = false := e
      rw [k] at e; cases e
  · rintro ⟨s, rfl, hs, hx, hu⟩
    refine ⟨hx, ?_⟩
    unfold unbeaten
    rw [List.all_eq_true]
    intro y hy
    have hy := (order_iff A h y).1 hy
    obtain ⟨v, rfl, hv⟩ := ok_nat h hy
    rw [Bool.not_eq_true', Bool.and_eq_false_iff]
    by_cases hne : v = s
    · left; subst hne; simp
    · right
      rw [Bool.eq_false_iff]
      intro k
      exact hne (hu v hy k)
theorem minimal_rises (A : List Int) : Rises (minimal A) := by
  unfold minimal best
  exact List.Pairwise.filter _ (order_rises A)
/-- The least sets of a list that holds a family. -/
theorem minimal_of (A : List Int) (q : Nat → Bool) (h : ∀ x, x ∈ A ↔ ∃ s : Nat, x = (s : Int) ∧ s < 64 ∧ q s = true) : minimal A = minQ q := by
  have hok : allOk A = true := by
    unfold allOk; rw [List.all_eq_true]; intro x hx
    obtain ⟨s, rfl, hs, _⟩ := (h x).1 hx
    exact (okZ_nat s).2 hs
  refine rises_eq _ _ (minimal_rises A) (minQ_rises q) fun x => ?_
  rw [mem_minimal A hok, mem_minQ]
  constructor
  · rintro ⟨s, rfl, hs, hx, hu⟩
    obtain ⟨s', e, _, hq⟩ := (h _).1 hx
    have : s = s' := by omega
    subst this
    exact ⟨s, rfl, hs, hq, fun t ht k1 k2 => hu t ((h _).2 ⟨t, rfl, ht, k1⟩) k2⟩
  · rintro ⟨s, rfl, hs, hq, hu⟩
    refine ⟨s, rfl, hs, (h _).2 ⟨s, rfl, hs, hq⟩, fun t ht k => ?_⟩
    obtain ⟨t', e, ht', hq'⟩ := (h _).1 ht
    have : t = t' := by omega
    subst this
    exact hu t ht' hq' k
theorem minimal_firsts (q : Nat → Bool) : best (fun s o => sub o s) (order (firsts q 64)) = minQ q := minimal_of _ q fun x => mem_firsts q 64 x

/-! ### what lies above a list -/

/-- Does the set hold one of the list? -/
def abv (xs : List Int) (s : Nat) : Bool := xs.any fun f => sub f.toNat s
theorem abv_iff (xs : List Int) (s : Nat) : abv xs s = true ↔ ∃ f, f ∈ xs ∧ sub f.toNat s = true := by unfold abv; rw [List.any_eq_true]
theorem abv_up {xs : List Int} {s t : Nat} (h : sub s t = true) (k : abv xs s = true) : abv xs t = true := by
  rw [abv_iff] at *
  obtain ⟨f, hf, e⟩ := k
  exact ⟨f, hf, sub_trans e h⟩

/-! ### a point less -/

/-- Does the set lose a point into the family? -/
def loses (f : Nat → Bool) (s : Nat) : Bool := (List.range 6).any fun p => ptB s p && f (s - 2 ^ p)
theorem less_sub : ∀ s : Fin 64, ∀ p : Fin 6, ptB s.val p.val = true → sub (s.val - 2 ^ p.val) s.val = true ∧ s.val - 2 ^ p.val < s.val := by decide +kernel
theorem less_has : ∀ t s : Fin 64, sub t.val s.val = true → t.val ≠ s.val → ((List.range 6).any fun p => ptB s.val p && sub t.val (s.val - 2 ^ p)) = true := by decide +kernel
theorem loses_iff (f : Nat → Bool) (s : Nat) : loses f s = true ↔ ∃ p, p < 6 ∧ ptB s p = true ∧ f (s - 2 ^ p) = true := by
  unfold loses; rw [List.any_eq_true]
  constructor
  · rintro ⟨p, hp, h⟩
    rw [Bool.and_eq_true] at h
    exact ⟨p, List.mem_range.1 hp, h.1, h.2⟩
  · rintro ⟨p, hp, h1, h2⟩
    exact ⟨p, List.mem_range.2 hp, by rw [h1, h2]; rfl⟩
theorem loses_hit {f : Nat → Bool} {s p : Nat} (hp : p < 6) (h1 : ptB s p = true) (h2 : f (s - 2 ^ p) = true) : loses f s = true := (loses_iff f s).2 ⟨p, hp, h1, h2⟩
theorem loses_miss {f : Nat → Bool} {s : Nat} (h : ∀ p, p < 6 → ptB s p = true → f (s - 2 ^ p) = false) : loses f s = false := by
  rw [Bool.eq_false_iff]; intro k
  obtain ⟨p, hp, h1, h2⟩ := (loses_iff f s).1 k
  rw [h p hp h1] at h2; cases h2
theorem loses_congr {f g : Nat → Bool} {s : Nat} (h : ∀ t, t < s → f t = g t) (hs : s < 64) : loses f s = loses g s := by
  rw [Bool.eq_iff_iff, loses_iff, loses_iff]
  constructor
  · rintro ⟨p, hp, h1, h2⟩
    have := (less_sub ⟨s, hs⟩ ⟨p, hp⟩ h1).2
    exact ⟨p, hp, h1, by rw [← h _ this]; exact h2⟩
  · rintro ⟨p, hp, h1, h2⟩
    have := (less_sub ⟨s, hs⟩ ⟨p, hp⟩ h1).2
    exact ⟨p, hp, h1, by rw [h _ this]; exact h2⟩
/-- What lies above a list is in it, or a point less lies above it. -/
theorem abv_step (xs : List Int) (h : allOk xs = true) (s : Nat) (hs : s < 64) : abv xs s = (inZ xs s || loses (abv xs) s) := by
  rw [Bool.eq_iff_iff, Bool.or_eq_true, abv_iff, loses_iff, inZ_iff]
  constructor
  · rintro ⟨f, hf, e⟩
    obtain ⟨t, rfl, ht⟩ := ok_nat h hf
    have e : sub t s = true := e
    by_cases hne : t = s
    · left; rw [← hne]; exact hf
    · right
      have := less_has ⟨t, ht⟩ ⟨s, hs⟩ e hne
      rw [List.any_eq_true] at this
      obtain ⟨p, hp, k⟩ := this
      rw [Bool.and_eq_true] at k
      exact ⟨p, List.mem_range.1 hp, k.1, (abv_iff _ _).2 ⟨_, hf, k.2⟩⟩
  · rintro (e | ⟨p, hp, h1, h2⟩)
    · exact ⟨_, e, sub_refl s⟩
    · have := (less_sub ⟨s, hs⟩ ⟨p, hp⟩ h1).1
      exact (abv_iff _ _).1 (abv_up this h2)

/-! ### the map that FromMissing fills: what it holds when the first k sets are settled -/

def settle (xs : List Int) (k s : Nat) : Bool := if s < k then abv xs s else inZ xs s
theorem settle_start (xs : List Int) : settle xs 0 = inZ xs := by funext s; unfold settle; rw [if_neg (by omega)]
theorem settle_loses (xs : List Int) (k : Nat) (hk : k < 64) : loses (settle xs k) k = loses (abv xs) k :=
  loses_congr (fun t ht => by unfold settle; rw [if_pos ht]) hk
theorem settle_hit (xs : List Int) (h : allOk xs = true) (k : Nat) (hk : k < 64) (e : loses (settle xs k) k = true) (s : Nat) : settle xs (k + 1) s = if s = k then true else settle xs k s := by
  rw [settle_loses xs k hk] at e
  unfold settle
  by_cases h1 : s = k
  · subst h1
    rw [if_pos rfl, if_pos (by omega), abv_step xs h s hk, e, Bool.or_true]
  · rw [if_neg h1]
    by_cases h2 : s < k
    · rw [if_pos h2, if_pos (by omega)]
    · rw [if_neg h2, if_neg (by omega)]
theorem settle_miss (xs : List Int) (h : allOk xs = true) (k : Nat) (hk : k < 64) (e : loses (settle xs k) k = false) (s : Nat) : settle xs (k + 1) s = settle xs k s := by
  rw [settle_loses xs k hk] at e
  unfold settle
  by_cases h1 : s = k
  · subst h1
    rw [if_pos (by omega), if_neg (by omega), abv_step xs h s hk, e, Bool.or_false]
  · by_cases h2 : s < k
    · rw [if_pos h2, if_pos (by omega)]
    · rw [if_neg h2, if_neg (by omega)]

/-! ### the chapter's answers -/

/-- The sets of the complex's points that are no faces. -/
def missQ (n : Int) (xs : List Int) (s : Nat) : Bool := setB n (s : Int) && !inF xs s
/-- MissingSets. -/
def missing (n : Int) (xs : List Int) : List Int := if isC n xs = true then minQ (missQ n xs) else []
theorem missing_le (n : Int) (xs : List Int) : (missing n xs).length ≤ 64 := by
  unfold missing; split
  · exact minQ_le _
  · simp
theorem missing_ok (n : Int) (xs : List Int) : allOk (missing n xs) = true := by
  unfold missing; split
  · exact minQ_ok _
  · rfl
theorem missing_rises (n : Int) (xs : List Int) : Rises (missing n xs) := by
  unfold missing; split
  · exact minQ_rises _
  · exact List.Pairwise.nil
theorem missing_yes {n : Int} {xs : List Int} (h : isC n xs = true) : missing n xs = minQ (missQ n xs) := by unfold missing; rw [if_pos h]
theorem missing_no {n : Int} {xs : List Int} (h : isC n xs = false) : missing n xs = [] := by unfold missing; rw [if_neg (by rw [h]; simp)]
theorem missing_set {n : Int} {xs : List Int} (x : Int) (hx : x ∈ missing n xs) : setB n x = true := by
  unfold missing at hx; split at hx
  · obtain ⟨s, rfl, _, h, _⟩ := (mem_minQ _ x).1 hx
    unfold missQ at h; rw [Bool.and_eq_true] at h; exact h.1
  · simp at hx
/-- Sets of n points that hold none of the list. -/
def avoidQ (n : Int) (xs : List Int) (s : Nat) : Bool := setB n (s : Int) && !abv xs s
theorem avoidQ_down (n : Int) (xs : List Int) : Down (avoidQ n xs) := fun s t _ _ h k => by
  unfold avoidQ at *
  rw [Bool.and_eq_true, Bool.not_eq_true'] at *
  refine ⟨setB_sub k.1 h, ?_⟩
  rw [Bool.eq_false_iff]; intro e
  rw [abv_up h e] at k; cases k.2
theorem avoidQ_set {n : Int} {xs : List Int} (s : Nat) (_ : s < 64) (h : avoidQ n xs s = true) : setB n (s : Int) = true := by
  unfold avoidQ at h; rw [Bool.and_eq_true] at h; exact h.1
/-- FromMissing. -/
def fromO (n : Int) (xs : List Int) := partO (setsOf n xs) n (avoidQ n xs)
/-- Those of at most two points. -/
def small (xs : List Int) : List Int := xs.filter fun x => decide (pc x.toNat ≤ 2)
/-- FlagOf. -/
def flagO (n : Int) (xs : List Int) := partO (isC n xs) n (avoidQ n (small (missing n xs)))
/-- GreatestMissing. -/
def great (n : Int) (xs : List Int) : Int := if (missing n xs).length = 0 then -1 else (pc ((missing n xs).getD ((missing n xs).length - 1) 0).toNat : Int)
/-- CompleteUpTo. -/
def fullTo (n : Int) (xs : List Int) : Int := if isC n xs = true then (if (missing n xs).length = 0 then n else (pc ((missing n xs).getD 0 0).toNat : Int) - 1) else -1
/-- IsFlag. -/
def flagB (n : Int) (xs : List Int) : Bool := isC n xs && decide (great n xs ≤ 2)

/-- The complex of a list that holds a family. -/
theorem maximal_of (A : List Int) (q : Nat → Bool) (hd : Down q) (h : ∀ x, x ∈ A ↔ ∃ s : Nat, x = (s : Int) ∧ s < 64 ∧ q s = true) : maximal A = maxQ q := by
  have hok : allOk A = true := by
    unfold allOk; rw [List.all_eq_true]; intro x hx
    obtain ⟨s, rfl, hs, _⟩ := (h x).1 hx
    exact (okZ_nat s).2 hs
  rw [maximal_maxQ A hok]
  refine maxQ_congr fun t ht => ?_
  rw [Bool.eq_iff_iff, inF_iff]
  constructor
  · rintro ⟨f, hf, e⟩
    obtain ⟨u, rfl, hu, hq⟩ := (h f).1 hf
    exact hd t u ht hu e hq
  · intro k
    exact ⟨(t : Int), (h _).2 ⟨t, rfl, ht, k⟩, sub_refl t⟩
theorem pow_le64 (n : Int) (h1 : 1 ≤ n) (h2 : n ≤ 6) : 2 ^ n.toNat ≤ 64 := by
  have : 2 ^ n.toNat ≤ 2 ^ 6 := Nat.pow_le_pow_right (by decide) (by omega)
  omega
theorem setB_lt (n : Int) (s : Nat) (h1 : 0 ≤ n) (h2 : n ≤ 6) : setB n (s : Int) = decide (s < 2 ^ n.toNat) := by
  rw [Bool.eq_iff_iff, setB_iff, decide_eq_true_iff]
  have e : ((2 ^ n.toNat : Nat) : Int) = 2 ^ n.toNat := by simp
  constructor
  · rintro ⟨_, _, _, h⟩
    omega
  · intro h
    exact ⟨h1, h2, by omega, by omega⟩
/-- The model's way to make a complex out of what may not be in it. -/
theorem maximal_avoid (n : Int) (xs : List Int) (h1 : 1 ≤ n) (h2 : n ≤ 6) : maximal (firsts (fun s => !abv xs s) (2 ^ n.toNat)) = maxQ (avoidQ n xs) := by
  refine maximal_of _ _ (avoidQ_down n xs) fun x => ?_
  rw [mem_firsts]
  have h64 := pow_le64 n h1 h2
  constructor
  · rintro ⟨t, rfl, ht, e⟩
    exact ⟨t, rfl, by omega, by unfold avoidQ; rw [e, setB_lt n t (by omega) h2]; simp [ht]⟩
  · rintro ⟨t, rfl, ht, e⟩
    unfold avoidQ at e
    rw [Bool.and_eq_true, setB_lt n t (by omega) h2, decide_eq_true_iff] at e
    exact ⟨t, rfl, e.1, e.2⟩
theorem firsts_ok_le (p : Nat → Bool) (k : Nat) (hk : k ≤ 64) : allOk (firsts p k) = true := by
  unfold allOk
  rw [List.all_eq_true]
  intro x hx
  obtain ⟨t, rfl, ht, _⟩ := (mem_firsts p k x).1 hx
  exact (okZ_nat t).2 (by omega)
/-- The program's way to find the least: a point less is always a face. -/
theorem minQ_loses {n : Int} {xs : List Int} (_ : isC n xs = true) : ord (fun s => missQ n xs s && !loses (missQ n xs) s) = minQ (missQ n xs) := by
  refine rises_eq _ _ (ord_rises _) (ord_rises _) fun x => ?_
  rw [mem_ord, mem_minQ]
  constructor
  · rintro ⟨s, rfl, hs, h⟩
    rw [Bool.and_eq_true, Bool.not_eq_true'] at h
    refine ⟨s, rfl, hs, h.1, fun t ht k1 k2 => Classical.byContradiction fun hne => ?_⟩
    have := less_has ⟨t, ht⟩ ⟨s, hs⟩ k2 hne
    rw [List.any_eq_true] at this
    obtain ⟨p, hp, k⟩ := this
    rw [Bool.and_eq_true] at k
    have hp := List.mem_range.1 hp
    have hl := less_sub ⟨s, hs⟩ ⟨p, hp⟩ k.1
    have k3 : sub t (s - 2 ^ p) = true := k.2
    have hm : missQ n xs (s - 2 ^ p) = true := by
      unfold missQ at *
      rw [Bool.and_eq_true, Bool.not_eq_true'] at *
      refine ⟨setB_sub h.1.1 hl.1, ?_⟩
      rw [Bool.eq_false_iff]; intro e
      rw [inF_sub k3 e] at k1; cases k1.2
    rw [loses_hit hp k.1 hm] at h
    cases h.2
  · rintro ⟨s, rfl, hs, h1, h2⟩
    refine ⟨s, rfl, hs, ?_⟩
    rw [h1, loses_miss]
    · rfl
    · intro p hp hb
      have hl := less_sub ⟨s, hs⟩ ⟨p, hp⟩ hb
      have hl2 : s - 2 ^ p < s := hl.2
      rw [Bool.eq_false_iff]; intro e
      have := h2 (s - 2 ^ p) (by omega) e hl.1
      omega

end Go.Proofs.YtbkkdgmiokdbmaaGreat

/-! WALKS: impl's chapter 5: parts of a complex (written by genparti.py). -/

namespace Go.Proofs.YtbkkdgmiokdbmaaGreat
open Go.RowKit
open Sets

theorem own_has_cx {f : FuncId} {args : Array Value} {w : World} {n : Int} {L : List Int} {b : Bool} (h : Calls Tryz.prog f args w fun e w' => ∃ v, e = .returned (.tuple #[cx n v, .bool b]) ∧ OwnInts w' w.heap.size v L ∧ Below w.heap.size w w') :
    Calls Tryz.prog f args w fun e w' => ∃ v, e = .returned (.tuple #[cx n v, .bool b]) ∧ HasInts w' w.heap.size v L ∧ Below w.heap.size w w' :=
  h.mono fun _ _ ⟨v, he, ho, hb⟩ => ⟨v, he, ho.has hb.size, hb⟩
theorem pO_no {ok : Bool} {n : Int} {q : Nat → Bool} (h : ok = false) : partO ok n q = none := by unfold partO; rw [if_neg (by rw [h]; simp)]
theorem pO_yes {ok : Bool} {n : Int} {q : Nat → Bool} (h : ok = true) : partO ok n q = some (n, maxQ q) := by unfold partO; rw [if_pos h]
theorem part_le (ok : Bool) (n : Int) (q : Nat → Bool) : (oL (partO ok n q)).length ≤ 1048576 := by
  refine Nat.le_trans (m := 64) ?_ (by decide)
  cases ok
  · rw [pO_no rfl]; exact Nat.zero_le _
  · rw [pO_yes rfl]; exact maxQ_le q

/-- A family of sets of n points that holds with a set all of its subsets, made by MakeComplex. -/
def Fam (n : Int) (q : Nat → Bool) : Prop := Down q ∧ ∀ t, t < 64 → q t = true → setB n (t : Int) = true
theorem made_ord {n : Int} {q : Nat → Bool} (hn : inB 1 6 n = true) (h : Fam n q) : made n (ord q) = some (n, maxQ q) := by
  rw [made_yes ((setsOf_iff _ _).2 ⟨hn, ord_le _, fun x hx => ?_⟩), maximal_ord q h.1]
  obtain ⟨s, rfl, hs, hq⟩ := (mem_ord q x).1 hx
  exact h.2 s hs hq
theorem and_natP : ∀ a b : Nat, a < 64 → b < 64 → bits BinOp.and IntKind.i64 (a : Int) (b : Int) = ((a &&& b : Nat) : Int) := by
  refine fin64b ?_
  decide +kernel
theorem or_natP : ∀ a b : Nat, a < 64 → b < 64 → bits BinOp.or IntKind.i64 (a : Int) (b : Int) = ((a ||| b : Nat) : Int) := by
  refine fin64b ?_
  decide +kernel
theorem or_lt64 {s t : Nat} (hs : s < 64) (ht : t < 64) : s ||| t < 64 := Nat.or_lt_two_pow (n := 6) hs ht

/-! ### a family by its function value -/

/-! ### the seven families -/

theorem fam_of {n : Int} {xs : List Int} {q : Nat → Bool} (hd : Down q) (hc : isC n xs = true) (h : ∀ t, q t = true → inF xs t = true) : Fam n q := ⟨hd, fun t _ hq => inF_set hc t (h t hq)⟩
theorem sub_orl (s t : Nat) : sub s (s ||| t) = true := (sub_iff _ _).2 fun i h => by rw [Nat.testBit_or, h]; rfl
theorem star_fam {n : Int} {xs : List Int} (hc : isC n xs = true) (u : Nat) : Fam n (starQ xs u) := fam_of (starQ_down xs u) hc fun t h => inF_sub (sub_orl t u) h
theorem link_fam {n : Int} {xs : List Int} (hc : isC n xs = true) (u : Nat) : Fam n (linkQ xs u) := fam_of (linkQ_down xs u) hc fun t h => by
  unfold linkQ at h
  rw [Bool.and_eq_true] at h
  exact inF_sub (sub_orl t u) h.2
theorem del_fam {n : Int} {xs : List Int} (hc : isC n xs = true) (u : Nat) : Fam n (delQ xs u) := fam_of (delQ_down xs u) hc fun t h => by
  unfold delQ at h
  rw [Bool.and_eq_true] at h
  exact h.1
theorem ind_fam {n : Int} {xs : List Int} (hc : isC n xs = true) (u : Nat) : Fam n (indQ xs u) := fam_of (indQ_down xs u) hc fun t h => by
  unfold indQ at h
  rw [Bool.and_eq_true] at h
  exact h.1
theorem skel_fam {n : Int} {xs : List Int} (hc : isC n xs = true) (k : Int) : Fam n (skelQ xs k) := fam_of (skelQ_down xs k) hc fun t h => by
  unfold skelQ at h
  rw [Bool.and_eq_true] at h
  exact h.1
theorem and_fam {n : Int} {xs : List Int} (ys : List Int) (hc : isC n xs = true) : Fam n (andQ xs ys) := fam_of (andQ_down xs ys) hc fun t h => by
  unfold andQ at h
  rw [Bool.and_eq_true] at h
  exact h.1
theorem or_fam {n : Int} {xs ys : List Int} (hx : isC n xs = true) (hy : isC n ys = true) : Fam n (orQ xs ys) := ⟨orQ_down xs ys, fun t _ h => by
  unfold orQ at h
  rw [Bool.or_eq_true] at h
  exact h.elim (inF_set hx t) (inF_set hy t)⟩

end Go.Proofs.YtbkkdgmiokdbmaaGreat

/-! WALKS: spec.l7From, spec.FromMissing. -/

namespace Go.Proofs.YtbkkdgmiokdbmaaGreat
open Go.RowKit
open Sets

theorem fromS_no {n : Int} {xs : List Int} (h : setsOf n xs = false) : fromO n xs = none := by unfold fromO; rw [h]; rfl
theorem fromS_yes {n : Int} {xs : List Int} (h : setsOf n xs = true) : fromO n xs = some (n, maxQ (avoidQ n xs)) := by unfold fromO; rw [h]; rfl
theorem ok_atS {xs : List Int} (h : allOk xs = true) (k : Nat) (hk : k < xs.length) : ∃ t : Nat, xs.getD k 0 = (t : Int) ∧ t < 64 := by
  refine ok_nat h ?_
  rw [List.getD, List.getElem?_eq_getElem hk]; exact List.getElem_mem hk
theorem abv_take (xs : List Int) (k : Nat) (hk : k < xs.length) (s : Nat) : abv (xs.take (k + 1)) s = (abv (xs.take k) s || sub (xs.getD k 0).toNat s) := by
  have e : xs.take (k + 1) = xs.take k ++ [xs.getD k 0] := by
    rw [List.take_add_one, List.getD, List.getElem?_eq_getElem hk]; rfl
  rw [e]
  unfold abv
  rw [List.any_append]; simp
theorem abv_takeT (xs : List Int) (k : Nat) (hk : k < xs.length) (t : Nat) (ht : xs.getD k 0 = (t : Int)) (s : Nat) (b c : Bool) (hb : abv (xs.take k) s = b) (hc : sub t s = c) : abv (xs.take (k + 1)) s = (b || c) := by
  rw [abv_take xs k hk, hb, ht]
  show (b || sub t s) = _
  rw [hc]
theorem shl_powS (n : Int) (h1 : 1 ≤ n) (h2 : n ≤ 6) : wrap64 (2 ^ n.toNat) = ((2 ^ n.toNat : Nat) : Int) := by
  rcases seven n (by omega) h2 with rfl | rfl | rfl | rfl | rfl | rfl | rfl <;> decide +kernel

end Go.Proofs.YtbkkdgmiokdbmaaGreat

/-! WALKS: spec's chapter 9: a set's new names; RenameSet; a complex's new names; RenameComplex. -/

namespace Go.Proofs.YtbkkdgmiokdbmaaGreat
open Go.RowKit
open Sets Nam

/-- a list of names, as a row of numbers. -/
structure Nms (n : Nat) (xs : List Int) : Prop where
  len : xs.length = n
  lo : 1 ≤ n
  hi : n ≤ 6
  names : Names n (toN xs)
  at_ : ∀ i, i < n → ∃ t : Nat, xs.getD i 0 = (t : Int) ∧ t < n ∧ pt (toN xs) i = t
theorem Nms.of {n : Int} {xs : List Int} (h : nmsB n xs = true) : Nms n.toNat xs := by
  obtain ⟨h1, h2, h3, h4, h5⟩ := nms_names h
  exact ⟨by omega, by omega, by omega, h4, fun i hi => h5 i (by omega)⟩

theorem Nms.tolen {n : Nat} {xs : List Int} (_h : Nms n xs) : (toN xs).length = n := by unfold toN; rw [List.length_map, _h.len]

theorem bit_hit {s k : Nat} (hs : s < 64) (hb : s.testBit k = true) : bits BinOp.and IntKind.i64 ((s : Int) / 2 ^ k) 1 = 1 := by
  rw [shr_and s k hs, bit_div, if_pos hb]; rfl
theorem bit_miss {s k : Nat} (hs : s < 64) (hb : s.testBit k = false) : bits BinOp.and IntKind.i64 ((s : Int) / 2 ^ k) 1 = 0 := by
  rw [shr_and s k hs, bit_div, if_neg (by rw [hb]; simp)]; rfl
theorem wrap_up {u t : Nat} (hu : u < 64) (ht : t < 6) : wrap64 ((u : Int) + wrap64 (2 ^ t)) = ((u + 2 ^ t : Nat) : Int) := by
  have : t = 0 ∨ t = 1 ∨ t = 2 ∨ t = 3 ∨ t = 4 ∨ t = 5 := by omega
  rcases this with rfl | rfl | rfl | rfl | rfl | rfl <;> (unfold wrap64; omega)

theorem pow_le_of {t : Nat} (h : t < 6) : (2 : Nat) ^ t < 64 := Nat.pow_lt_pow_right (n := 6) (by decide) (by omega)

set_option maxRecDepth 100000 in
set_option maxHeartbeats 400000 in
theorem l9Set_any (s : Nat) (a : Option Addr) (c : Nat) (xs : List Int) (n : Nat) (hN : Nms n xs) (hs : s < 64) (w : World) (h : Ints w a xs) :
    Calls Tryz.prog 45 #[.int .i64 (s : Int), .slice a n c] w fun e w' => e = .returned (.int .i64 ((ren (toN xs) s : Nat) : Int)) ∧ w = w' := by
  have HH := Lib.hid h
  have HN := Lib.hid hN
  have hn1 := hN.lo
  have hn2 := hN.hi
  clear h hN
  go_enter Tryz.func45, Tryz.ntmps45
  go_wp2
  go_loop [5, 6] (fun o i => ∃ k : Nat, k ≤ n ∧ o = .int .i64 ((renU (toN xs) s k : Nat) : Int) ∧ i = .int .i64 (k : Int)) (fun _ i => n - (intOf i).toNat)
  case atStart => exact ⟨0, Nat.zero_le _, rfl, rfl⟩
  case round =>
    obtain ⟨k, hk, rfl, rfl⟩ := hrel
    by_cases hlt : k < n
    · obtain ⟨b1, o1, rfl, g1⟩ := HH.out k (by rw [HN.out.len]; exact hlt)
      obtain ⟨t, ht, htn, hp⟩ := HN.out.at_ k hlt
      rw [ht] at g1
      have hu := renU_lt HN.out.hi HN.out.names s k hk
      have hpw := pow_le_of (show t < 6 by omega)
      have hpi : ((2 ^ t : Nat) : Int) = 2 ^ t := by rw [Int.natCast_pow]; rfl
      have HT := Lib.hid ht
      have HP := Lib.hid hp
      have HPW := Lib.hid hpw
      have HPI := Lib.hid hpi
      clear ht hp hpw hpi
      cases hb : s.testBit k with
      | true =>
        have HU : Hid (renU (toN xs) s (k + 1) = renU (toN xs) s k + 2 ^ t) := by
          have := renU_hit HN.out.hi HN.out.names s hlt hb
          rw [HP.out] at this; exact this
        have hbit := bit_hit (k := k) hs hb
        clear hb
        generalize renU (toN xs) s k = u at *
        go_wp2
        go_round
        case rel => exact ⟨k + 1, by omega, by rw [HU.out]; exact (congrArg (Value.int .i64) (wrap_up hu (by omega))), by go_num⟩
        case measure => simp [intOf]; omega
      | false =>
        have HU := Lib.hid (renU_miss (toN xs) s hb)
        have hbit := bit_miss (k := k) hs hb
        clear hb
        generalize renU (toN xs) s k = u at *
        go_wp2
        go_round
        case rel => exact ⟨k + 1, by omega, by rw [HU.out], by go_num⟩
        case measure => simp [intOf]; omega
    · have : k = n := by omega
      subst this
      have HR : Hid (renU (toN xs) s k = ren (toN xs) s) := by
        have : renU (toN xs) s k = ren (toN xs) s := by unfold ren; rw [HN.out.tolen]
        exact this
      go_wp2
      go_ret
      exact ⟨by rw [HR.out]; rfl, rfl⟩

theorem renSO_yes {s : Int} {xs : List Int} (h1 : nmsB xs.length xs = true) (h2 : setB xs.length s = true) : renSO s xs = some (ren (toN xs) s.toNat) := by unfold renSO; rw [if_pos ⟨h1, h2⟩]
theorem renSO_no1 {s : Int} {xs : List Int} (h1 : nmsB xs.length xs = false) : renSO s xs = none := by unfold renSO; rw [if_neg (by rw [h1]; simp)]
theorem renSO_no2 {s : Int} {xs : List Int} (h1 : setB xs.length s = false) : renSO s xs = none := by unfold renSO; rw [if_neg (by rw [h1]; simp)]

set_option maxRecDepth 100000 in
set_option maxHeartbeats 1000000 in
theorem specRenameSet_any (s : Int) (a : Option Addr) (c : Nat) (xs : List Int) (hcap : xs.length ≤ c) (hlen : xs.length ≤ 1099511627776) (w : World) (h : Ints w a xs) :
    Calls Tryz.prog 10 #[.int .i64 s, .slice a xs.length c] w fun e w' => e = .returned (.tuple #[.int .i64 (((renSO s xs).getD 0 : Nat) : Int), .bool (renSO s xs).isSome]) ∧ Below w.heap.size w w' := by
  have HH := Lib.hid h
  clear h
  cases h1 : nmsB xs.length xs with
  | false =>
    rw [renSO_no1 h1]
    have H1 := Lib.hid h1
    clear h1
    go_enter Tryz.func10, Tryz.ntmps10
    go_wp2_with fail
    refine (l9Names_any _ _ _ xs hcap hlen (by omega) false H1.out _ HH.out).mono ?_
    rintro e w1 ⟨rfl, hb1⟩
    have HB1 := Lib.hid hb1
    clear hb1
    go_wp2
    go_ret2
    exact ⟨rfl, HB1.out⟩
  | true =>
    have HN := Lib.hid (Nms.of h1)
    have H1 := Lib.hid h1
    cases h2 : setB xs.length s with
    | false =>
      rw [renSO_no2 h2]
      have H2 := Lib.hid h2
      clear h1 h2
      go_enter Tryz.func10, Tryz.ntmps10
      go_wp2_with fail
      refine (l9Names_any _ _ _ xs hcap hlen (by omega) true H1.out _ HH.out).mono ?_
      rintro e w1 ⟨rfl, hb1⟩
      have HB1 := Lib.hid hb1
      clear hb1
      go_wp2_with fail
      refine (specIsSet_b _ s false H2.out _).mono ?_
      rintro e w2 ⟨rfl, rfl⟩
      go_wp2
      go_ret2
      exact ⟨rfl, HB1.out⟩
    | true =>
      rw [renSO_yes h1 h2]
      have H2 := Lib.hid h2
      obtain ⟨t, rfl⟩ : ∃ t : Nat, s = (t : Int) := ⟨s.toNat, by have := ((setB_iff _ _).1 h2).2.2.1; omega⟩
      have ht : t < 64 := by
        have := (okZ_iff _).1 (setB_ok h2)
        omega
      clear h1 h2
      go_enter Tryz.func10, Tryz.ntmps10
      go_wp2_with fail
      refine (l9Names_any _ _ _ xs hcap hlen (by omega) true H1.out _ HH.out).mono ?_
      rintro e w1 ⟨rfl, hb1⟩
      have HB1 := Lib.hid hb1
      clear hb1
      go_wp2_with fail
      refine (specIsSet_b _ (t : Int) true H2.out _).mono ?_
      rintro e w2 ⟨rfl, rfl⟩
      go_wp2_with fail
      refine (l9Set_any t _ _ xs xs.length HN.out ht _ (HH.out.keeps HB1.out)).mono ?_
      rintro e w3 ⟨rfl, rfl⟩
      go_wp2
      go_ret2
      exact ⟨rfl, HB1.out⟩

end Go.Proofs.YtbkkdgmiokdbmaaGreat
