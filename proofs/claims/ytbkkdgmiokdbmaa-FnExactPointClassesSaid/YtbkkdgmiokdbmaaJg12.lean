/-
  TEXTS of one claim, put together: WCx6, WCx7, Miss, WPartI.
-/
import Derived.Test.YtbkkdgmiokdbmaaJg11
import Derived.Test.YtbkkdgmiokdbmaaJg4
import Derived.Test.YtbkkdgmiokdbmaaJg10
import Derived.Test.YtbkkdgmiokdbmaaHas
import Derived.Deep.RegionHeld3
import Derived.Deep.RegionLaw
import Derived.Deep.AppendLies
/-! WALKS: complexes made of sets, by impl and by spec; the full complex and its border. -/

namespace Go.Proofs.Ytbkkdgmiokdbmaa
open Go.RowKit
open Sets

/-- Out of what is owned: the slice, its room, its block. -/
theorem OwnInts.atc {w : World} {base : Nat} {v : Value} {xs : List Int} (h : OwnInts w base v xs) : ∃ a c g, v = .slice a xs.length c ∧ xs.length ≤ c ∧ base ≤ g ∧ IntsAt w g a xs := by
  unfold OwnInts at h
  rcases h.2 with ⟨hv, h0⟩ | ⟨g, cap, cur, hv, _, _, hcap, _⟩
  · exact ⟨none, 0, base, by rw [hv, h0], by omega, Nat.le_refl _, fun j hj => by omega⟩
  · subst hv
    obtain ⟨h1, h2⟩ := World.ownsRow.lt h g rfl
    refine ⟨some ⟨g, 0, none⟩, cap, g, rfl, hcap, h1, fun j hj => ⟨rfl, h2, ?_, World.ownsRow.frozenAt h j⟩⟩
    rw [World.ownsRow.cellAt h j (by omega), ints_cell xs j hj]

theorem OwnInts.set {w : World} {base : Nat} {v : Value} {xs : List Int} (h : OwnInts w base v xs) (b o : Nat) (z : Value) (hb : b < base) : OwnInts (w.setCell ⟨b, o, none⟩ z) base v xs := by
  unfold OwnInts at *
  refine ⟨h.1, ?_⟩
  rcases h.2 with h0 | ⟨g, cap, cur, hv, h1, hh, hr⟩
  · exact .inl h0
  · refine .inr ⟨g, cap, cur, hv, h1, ?_, hr⟩
    simp only [World.setCell, Array.getElem?_modify]
    rw [if_neg (by omega)]
    exact hh

/-- Are they at most 64 sets of n points? -/
def setsOf (n : Int) (xs : List Int) : Bool := inB 1 6 n && decide (xs.length ≤ 64) && xs.all (setB n)
/-- MakeComplex. -/
def made (n : Int) (xs : List Int) : Option (Int × List Int) := if setsOf n xs = true then some (n, maximal xs) else none
/-- The points and the facets of a complex that may not be there. -/
def oN (o : Option (Int × List Int)) : Int := (o.map (·.1)).getD 0
def oL (o : Option (Int × List Int)) : List Int := (o.map (·.2)).getD []
theorem made_yes {n : Int} {xs : List Int} (h : setsOf n xs = true) : made n xs = some (n, maximal xs) := by unfold made; rw [if_pos h]
theorem made_no {n : Int} {xs : List Int} (h : setsOf n xs = false) : made n xs = none := by unfold made; rw [if_neg (by rw [h]; simp)]
theorem setsOf_iff (n : Int) (xs : List Int) : setsOf n xs = true ↔ inB 1 6 n = true ∧ xs.length ≤ 64 ∧ ∀ x, x ∈ xs → setB n x = true := by
  unfold setsOf; rw [Bool.and_eq_true, Bool.and_eq_true, decide_eq_true_iff, List.all_eq_true, and_assoc]
theorem setsOf_ok {n : Int} {xs : List Int} (h : setsOf n xs = true) : allOk xs = true := by
  unfold allOk; rw [List.all_eq_true]; exact fun x hx => setB_ok (((setsOf_iff n xs).1 h).2.2 x hx)
theorem made_isC {n : Int} {xs : List Int} (h : setsOf n xs = true) : isC n (maximal xs) = true := by
  have h' := (setsOf_iff n xs).1 h
  have hn := (inB_iff _ _ _).1 h'.1
  exact isC_maximal n xs hn.1 hn.2 h'.2.2
theorem all_any_not (xs : List Int) (q : Int → Bool) : xs.all q = !(xs.any fun x => !q x) := by
  rw [List.not_any_eq_all_not]; simp

end Go.Proofs.Ytbkkdgmiokdbmaa

/-! WALKS: the full complex and its border, by impl and by spec. -/

namespace Go.Proofs.Ytbkkdgmiokdbmaa
open Go.RowKit
open Sets

/-- FullComplex. -/
def full (n : Int) : Option (Int × List Int) := if inB 1 6 n = true then some (n, [2 ^ n.toNat - 1]) else none
/-- BorderComplex. -/
def border (n : Int) : Option (Int × List Int) := if inB 1 6 n = true then some (n, maximal (firsts (fun _ => true) (2 ^ n.toNat - 1))) else none
theorem full_no {n : Int} (h : inB 1 6 n = false) : full n = none := by unfold full; rw [if_neg (by rw [h]; simp)]
theorem border_no {n : Int} (h : inB 1 6 n = false) : border n = none := by unfold border; rw [if_neg (by rw [h]; simp)]
theorem six (n : Int) (h : inB 1 6 n = true) : n = 1 ∨ n = 2 ∨ n = 3 ∨ n = 4 ∨ n = 5 ∨ n = 6 := by
  have := (inB_iff _ _ _).1 h
  omega

theorem Ints.one (w : World) (x : Int) : Ints (w.alloc (Obj.cells #[Value.int IntKind.i64 x] 3)) (some ⟨w.heap.size, 0, none⟩) [x] := fun j hj => by
  obtain rfl : j = 0 := by simp at hj; omega
  exact ⟨_, _, rfl, by simp⟩

theorem full_1 : full 1 = some (1, [1]) := by decide +kernel
theorem made_full_1 : made 1 [1] = some (1, [1]) := by decide +kernel
theorem faces_full_1 : (faces 1 [1]).length = 2 := by decide +kernel
theorem made_border_1 : made 1 ((faces 1 [1]).take 1) = some (1, maximal (firsts (fun _ => true) 1)) := by decide +kernel
theorem border_1 : border 1 = some (1, maximal (firsts (fun _ => true) 1)) := by decide +kernel
theorem border_ok_1 : allOk (firsts (fun _ => true) 1) = true := by decide +kernel

theorem full_2 : full 2 = some (2, [3]) := by decide +kernel
theorem made_full_2 : made 2 [3] = some (2, [3]) := by decide +kernel
theorem faces_full_2 : (faces 2 [3]).length = 4 := by decide +kernel
theorem made_border_2 : made 2 ((faces 2 [3]).take 3) = some (2, maximal (firsts (fun _ => true) 3)) := by decide +kernel
theorem border_2 : border 2 = some (2, maximal (firsts (fun _ => true) 3)) := by decide +kernel
theorem border_ok_2 : allOk (firsts (fun _ => true) 3) = true := by decide +kernel

theorem full_3 : full 3 = some (3, [7]) := by decide +kernel
theorem made_full_3 : made 3 [7] = some (3, [7]) := by decide +kernel
theorem faces_full_3 : (faces 3 [7]).length = 8 := by decide +kernel
theorem made_border_3 : made 3 ((faces 3 [7]).take 7) = some (3, maximal (firsts (fun _ => true) 7)) := by decide +kernel
theorem border_3 : border 3 = some (3, maximal (firsts (fun _ => true) 7)) := by decide +kernel
theorem border_ok_3 : allOk (firsts (fun _ => true) 7) = true := by decide +kernel

theorem full_4 : full 4 = some (4, [15]) := by decide +kernel
theorem made_full_4 : made 4 [15] = some (4, [15]) := by decide +kernel
theorem faces_full_4 : (faces 4 [15]).length = 16 := by decide +kernel
theorem made_border_4 : made 4 ((faces 4 [15]).take 15) = some (4, maximal (firsts (fun _ => true) 15)) := by decide +kernel
theorem border_4 : border 4 = some (4, maximal (firsts (fun _ => true) 15)) := by decide +kernel
theorem border_ok_4 : allOk (firsts (fun _ => true) 15) = true := by decide +kernel

theorem full_5 : full 5 = some (5, [31]) := by decide +kernel
theorem made_full_5 : made 5 [31] = some (5, [31]) := by decide +kernel
theorem faces_full_5 : (faces 5 [31]).length = 32 := by decide +kernel
theorem made_border_5 : made 5 ((faces 5 [31]).take 31) = some (5, maximal (firsts (fun _ => true) 31)) := by decide +kernel
theorem border_5 : border 5 = some (5, maximal (firsts (fun _ => true) 31)) := by decide +kernel
theorem border_ok_5 : allOk (firsts (fun _ => true) 31) = true := by decide +kernel

theorem full_6 : full 6 = some (6, [63]) := by decide +kernel
theorem made_full_6 : made 6 [63] = some (6, [63]) := by decide +kernel
theorem faces_full_6 : (faces 6 [63]).length = 64 := by decide +kernel
theorem made_border_6 : made 6 ((faces 6 [63]).take 63) = some (6, maximal (firsts (fun _ => true) 63)) := by decide +kernel
theorem border_6 : border 6 = some (6, maximal (firsts (fun _ => true) 63)) := by decide +kernel
theorem border_ok_6 : allOk (firsts (fun _ => true) 63) = true := by decide +kernel

end Go.Proofs.Ytbkkdgmiokdbmaa

/-! SETS THAT ARE NO FACES, of no program: the least sets of a family; a complex is told by its least no-faces. -/

namespace Go.Proofs.Ytbkkdgmiokdbmaa
open Sets

/-! ### the least sets of a family -/

/-- The least sets of a family, in order. -/
def minQ (q : Nat → Bool) : List Int := ord fun s => q s && (List.range 64).all fun t => !(q t && sub t s && t != s)
theorem mem_minQ (q : Nat → Bool) (x : Int) : x ∈ minQ q ↔ ∃ s : Nat, x = (s : Int) ∧ s < 64 ∧ q s = true ∧ ∀ t, t < 64 → q t = true → sub t s = true → t = s := by
  unfold minQ
  rw [mem_ord]
  constructor
  · rintro ⟨s, rfl, hs, h⟩
    rw [Bool.and_eq_true, List.all_eq_true] at h
    refine ⟨s, rfl, hs, h.1, fun t ht h1 h2 => ?_⟩
    have := h.2 t (List.mem_range.2 ht)
    rw [h1, h2] at this
    simpa using this
  · rintro ⟨s, rfl, hs, h1, h2⟩
    refine ⟨s, rfl, hs, ?_⟩
    rw [Bool.and_eq_true, List.all_eq_true]
    refine ⟨h1, fun t ht => ?_⟩
    rw [Bool.not_eq_true', Bool.and_eq_false_iff]
    cases e1 : q t with
    | false => left; rfl
    | true =>
      cases e2 : sub t s with
      | false => left; rfl
      | true => right; rw [h2 t (List.mem_range.1 ht) e1 e2]; simp
theorem minQ_congr {p q : Nat → Bool} (h : ∀ s, s < 64 → p s = q s) : minQ p = minQ q := by
  refine rises_eq _ _ (ord_rises _) (ord_rises _) fun x => ?_
  rw [mem_minQ, mem_minQ]
  constructor
  · rintro ⟨s, e, hs, h1, h2⟩
    exact ⟨s, e, hs, by rw [← h s hs]; exact h1, fun t ht k1 k2 => h2 t ht (by rw [h t ht]; exact k1) k2⟩
  · rintro ⟨s, e, hs, h1, h2⟩
    exact ⟨s, e, hs, by rw [h s hs]; exact h1, fun t ht k1 k2 => h2 t ht (by rw [← h t ht]; exact k1) k2⟩
theorem minQ_le (q : Nat → Bool) : (minQ q).length ≤ 64 := ord_le _
theorem minQ_ok (q : Nat → Bool) : allOk (minQ q) = true := ord_ok _
theorem minQ_rises (q : Nat → Bool) : Rises (minQ q) := ord_rises _
/-- Each set of a family holds a least one. -/
theorem minQ_below (q : Nat → Bool) : ∀ (m t : Nat), t < 64 → t ≤ m → q t = true → ∃ u : Nat, u < 64 ∧ (u : Int) ∈ minQ q ∧ sub u t = true
  | m, t, ht, hm, hq => by
    by_cases h : ∀ v, v < 64 → q v = true → sub v t = true → v = t
    · exact ⟨t, ht, (mem_minQ q _).2 ⟨t, rfl, ht, hq, h⟩, sub_refl t⟩
    · have : ∃ v, v < 64 ∧ q v = true ∧ sub v t = true ∧ v ≠ t := by
        refine Classical.byContradiction fun k => h fun v h1 h2 h3 => Classical.byContradiction fun h4 => k ⟨v, h1, h2, h3, h4⟩
      obtain ⟨v, h1, h2, h3, h4⟩ := this
      have := sub_le h3
      cases m with
      | zero => omega
      | succ m =>
        obtain ⟨u, k1, k2, k3⟩ := minQ_below q m v h1 (by omega) h2
        exact ⟨u, k1, k2, sub_trans k3 h3⟩
/-- What MinimalSets keeps. -/
theorem mem_minimal (A : List Int) (h : allOk A = true) (x : Int) : x ∈ minimal A ↔ ∃ s : Nat, x = (s : Int) ∧ s < 64 ∧ (s : Int) ∈ A ∧ ∀ t : Nat, (t : Int) ∈ A → sub t s = true → t = s := by
  unfold minimal best
  rw [List.mem_filter, order_iff A h]
  constructor
  · rintro ⟨hx, hu⟩
    obtain ⟨s, rfl, hs⟩ := ok_nat h hx
    refine ⟨s, rfl, hs, hx, fun t ht k => ?_⟩
    unfold unbeaten at hu
    have := List.all_eq_true.1 hu (t : Int) ((order_iff A h _).2 ht)
    rw [Bool.not_eq_true', Bool.and_eq_false_iff] at this
    rcases this with e | e
    · have : (t : Int) = (s : Int) := by simpa using e
      omega
    · have e : sub t s = false := e
      rw [k] at e; cases e
  · rintro ⟨s, rfl, hs, hx, hu⟩
    refine ⟨hx, ?_⟩
    unfold unbeaten
    rw [List.all_eq_true]
    intro y hy
    have hy := (order_iff A h y).1 hy
    obtain ⟨v, rfl, hv⟩ := ok_nat h hy
    rw [Bool.not_eq_true', Bool.and_eq_false_iff]
    by_cases hne : v = s
    · left; subst hne; simp
    · right
      rw [Bool.eq_false_iff]
      intro k
      exact hne (hu v hy k)
theorem minimal_rises (A : List Int) : Rises (minimal A) := by
  unfold minimal best
  exact List.Pairwise.filter _ (order_rises A)
/-- The least sets of a list that holds a family. -/
theorem minimal_of (A : List Int) (q : Nat → Bool) (h : ∀ x, x ∈ A ↔ ∃ s : Nat, x = (s : Int) ∧ s < 64 ∧ q s = true) : minimal A = minQ q := by
  have hok : allOk A = true := by
    unfold allOk; rw [List.all_eq_true]; intro x hx
    obtain ⟨s, rfl, hs, _⟩ := (h x).1 hx
    exact (okZ_nat s).2 hs
  refine rises_eq _ _ (minimal_rises A) (minQ_rises q) fun x => ?_
  rw [mem_minimal A hok, mem_minQ]
  constructor
  · rintro ⟨s, rfl, hs, hx, hu⟩
    obtain ⟨s', e, _, hq⟩ := (h _).1 hx
    have : s = s' := by omega
    subst this
    exact ⟨s, rfl, hs, hq, fun t ht k1 k2 => hu t ((h _).2 ⟨t, rfl, ht, k1⟩) k2⟩
  · rintro ⟨s, rfl, hs, hq, hu⟩
    refine ⟨s, rfl, hs, (h _).2 ⟨s, rfl, hs, hq⟩, fun t ht k => ?_⟩
    obtain ⟨t', e, ht', hq'⟩ := (h _).1 ht
    have : t = t' := by omega
    subst this
    exact hu t ht' hq' k
theorem minimal_firsts (q : Nat → Bool) : best (fun s o => sub o s) (order (firsts q 64)) = minQ q := minimal_of _ q fun x => mem_firsts q 64 x

/-! ### what lies above a list -/

/-- Does the set hold one of the list? -/
def abv (xs : List Int) (s : Nat) : Bool := xs.any fun f => sub f.toNat s
theorem abv_iff (xs : List Int) (s : Nat) : abv xs s = true ↔ ∃ f, f ∈ xs ∧ sub f.toNat s = true := by unfold abv; rw [List.any_eq_true]
theorem abv_up {xs : List Int} {s t : Nat} (h : sub s t = true) (k : abv xs s = true) : abv xs t = true := by
  rw [abv_iff] at *
  obtain ⟨f, hf, e⟩ := k
  exact ⟨f, hf, sub_trans e h⟩

/-! ### a point less -/

/-- Does the set lose a point into the family? -/
def loses (f : Nat → Bool) (s : Nat) : Bool := (List.range 6).any fun p => ptB s p && f (s - 2 ^ p)
theorem less_sub : ∀ s : Fin 64, ∀ p : Fin 6, ptB s.val p.val = true → sub (s.val - 2 ^ p.val) s.val = true ∧ s.val - 2 ^ p.val < s.val := by decide +kernel
theorem less_has : ∀ t s : Fin 64, sub t.val s.val = true → t.val ≠ s.val → ((List.range 6).any fun p => ptB s.val p && sub t.val (s.val - 2 ^ p)) = true := by decide +kernel
theorem loses_iff (f : Nat → Bool) (s : Nat) : loses f s = true ↔ ∃ p, p < 6 ∧ ptB s p = true ∧ f (s - 2 ^ p) = true := by
  unfold loses; rw [List.any_eq_true]
  constructor
  · rintro ⟨p, hp, h⟩
    rw [Bool.and_eq_true] at h
    exact ⟨p, List.mem_range.1 hp, h.1, h.2⟩
  · rintro ⟨p, hp, h1, h2⟩
    exact ⟨p, List.mem_range.2 hp, by rw [h1, h2]; rfl⟩
theorem loses_hit {f : Nat → Bool} {s p : Nat} (hp : p < 6) (h1 : ptB s p = true) (h2 : f (s - 2 ^ p) = true) : loses f s = true := (loses_iff f s).2 ⟨p, hp, h1, h2⟩
theorem loses_miss {f : Nat → Bool} {s : Nat} (h : ∀ p, p < 6 → ptB s p = true → f (s - 2 ^ p) = false) : loses f s = false := by
  rw [Bool.eq_false_iff]; intro k
  obtain ⟨p, hp, h1, h2⟩ := (loses_iff f s).1 k
  rw [h p hp h1] at h2; cases h2
theorem loses_congr {f g : Nat → Bool} {s : Nat} (h : ∀ t, t < s → f t = g t) (hs : s < 64) : loses f s = loses g s := by
  rw [Bool.eq_iff_iff, loses_iff, loses_iff]
  constructor
  · rintro ⟨p, hp, h1, h2⟩
    have := (less_sub ⟨s, hs⟩ ⟨p, hp⟩ h1).2
    exact ⟨p, hp, h1, by rw [← h _ this]; exact h2⟩
  · rintro ⟨p, hp, h1, h2⟩
    have := (less_sub ⟨s, hs⟩ ⟨p, hp⟩ h1).2
    exact ⟨p, hp, h1, by rw [h _ this]; exact h2⟩
/-- What lies above a list is in it, or a point less lies above it. -/
theorem abv_step (xs : List Int) (h : allOk xs = true) (s : Nat) (hs : s < 64) : abv xs s = (inZ xs s || loses (abv xs) s) := by
  rw [Bool.eq_iff_iff, Bool.or_eq_true, abv_iff, loses_iff, inZ_iff]
  constructor
  · rintro ⟨f, hf, e⟩
    obtain ⟨t, rfl, ht⟩ := ok_nat h hf
    have e : sub t s = true := e
    by_cases hne : t = s
    · left; rw [← hne]; exact hf
    · right
      have := less_has ⟨t, ht⟩ ⟨s, hs⟩ e hne
      rw [List.any_eq_true] at this
      obtain ⟨p, hp, k⟩ := this
      rw [Bool.and_eq_true] at k
      exact ⟨p, List.mem_range.1 hp, k.1, (abv_iff _ _).2 ⟨_, hf, k.2⟩⟩
  · rintro (e | ⟨p, hp, h1, h2⟩)
    · exact ⟨_, e, sub_refl s⟩
    · have := (less_sub ⟨s, hs⟩ ⟨p, hp⟩ h1).1
      exact (abv_iff _ _).1 (abv_up this h2)

/-! ### the map that FromMissing fills: what it holds when the first k sets are settled -/

def settle (xs : List Int) (k s : Nat) : Bool := if s < k then abv xs s else inZ xs s
theorem settle_start (xs : List Int) : settle xs 0 = inZ xs := by funext s; unfold settle; rw [if_neg (by omega)]
theorem settle_loses (xs : List Int) (k : Nat) (hk : k < 64) : loses (settle xs k) k = loses (abv xs) k :=
  loses_congr (fun t ht => by unfold settle; rw [if_pos ht]) hk
theorem settle_hit (xs : List Int) (h : allOk xs = true) (k : Nat) (hk : k < 64) (e : loses (settle xs k) k = true) (s : Nat) : settle xs (k + 1) s = if s = k then true else settle xs k s := by
  rw [settle_loses xs k hk] at e
  unfold settle
  by_cases h1 : s = k
  · subst h1
    rw [if_pos rfl, if_pos (by omega), abv_step xs h s hk, e, Bool.or_true]
  · rw [if_neg h1]
    by_cases h2 : s < k
    · rw [if_pos h2, if_pos (by omega)]
    · rw [if_neg h2, if_neg (by omega)]
theorem settle_miss (xs : List Int) (h : allOk xs = true) (k : Nat) (hk : k < 64) (e : loses (settle xs k) k = false) (s : Nat) : settle xs (k + 1) s = settle xs k s := by
  rw [settle_loses xs k hk] at e
  unfold settle
  by_cases h1 : s = k
  · subst h1
    rw [if_pos (by omega), if_neg (by omega), abv_step xs h s hk, e, Bool.or_false]
  · by_cases h2 : s < k
    · rw [if_pos h2, if_pos (by omega)]
    · rw [if_neg h2, if_neg (by omega)]

/-! ### the chapter's answers -/

/-- The sets of the complex's points that are no faces. -/
def missQ (n : Int) (xs : List Int) (s : Nat) : Bool := setB n (s : Int) && !inF xs s
/-- MissingSets. -/
def missing (n : Int) (xs : List Int) : List Int := if isC n xs = true then minQ (missQ n xs) else []
theorem missing_le (n : Int) (xs : List Int) : (missing n xs).length ≤ 64 := by
  unfold missing; split
  · exact minQ_le _
  · simp
theorem missing_ok (n : Int) (xs : List Int) : allOk (missing n xs) = true := by
  unfold missing; split
  · exact minQ_ok _
  · rfl
theorem missing_rises (n : Int) (xs : List Int) : Rises (missing n xs) := by
  unfold missing; split
  · exact minQ_rises _
  · exact List.Pairwise.nil
theorem missing_yes {n : Int} {xs : List Int} (h : isC n xs = true) : missing n xs = minQ (missQ n xs) := by unfold missing; rw [if_pos h]
theorem missing_no {n : Int} {xs : List Int} (h : isC n xs = false) : missing n xs = [] := by unfold missing; rw [if_neg (by rw [h]; simp)]
theorem missing_set {n : Int} {xs : List Int} (x : Int) (hx : x ∈ missing n xs) : setB n x = true := by
  unfold missing at hx; split at hx
  · obtain ⟨s, rfl, _, h, _⟩ := (mem_minQ _ x).1 hx
    unfold missQ at h; rw [Bool.and_eq_true] at h; exact h.1
  · simp at hx
/-- Sets of n points that hold none of the list. -/
def avoidQ (n : Int) (xs : List Int) (s : Nat) : Bool := setB n (s : Int) && !abv xs s
theorem avoidQ_down (n : Int) (xs : List Int) : Down (avoidQ n xs) := fun s t _ _ h k => by
  unfold avoidQ at *
  rw [Bool.and_eq_true, Bool.not_eq_true'] at *
  refine ⟨setB_sub k.1 h, ?_⟩
  rw [Bool.eq_false_iff]; intro e
  rw [abv_up h e] at k; cases k.2
theorem avoidQ_set {n : Int} {xs : List Int} (s : Nat) (_ : s < 64) (h : avoidQ n xs s = true) : setB n (s : Int) = true := by
  unfold avoidQ at h; rw [Bool.and_eq_true] at h; exact h.1
/-- FromMissing. -/
def fromO (n : Int) (xs : List Int) := partO (setsOf n xs) n (avoidQ n xs)
/-- Those of at most two points. -/
def small (xs : List Int) : List Int := xs.filter fun x => decide (pc x.toNat ≤ 2)
/-- FlagOf. -/
def flagO (n : Int) (xs : List Int) := partO (isC n xs) n (avoidQ n (small (missing n xs)))
/-- GreatestMissing. -/
def great (n : Int) (xs : List Int) : Int := if (missing n xs).length = 0 then -1 else (pc ((missing n xs).getD ((missing n xs).length - 1) 0).toNat : Int)
/-- CompleteUpTo. -/
def fullTo (n : Int) (xs : List Int) : Int := if isC n xs = true then (if (missing n xs).length = 0 then n else (pc ((missing n xs).getD 0 0).toNat : Int) - 1) else -1
/-- IsFlag. -/
def flagB (n : Int) (xs : List Int) : Bool := isC n xs && decide (great n xs ≤ 2)

/-- The complex of a list that holds a family. -/
theorem maximal_of (A : List Int) (q : Nat → Bool) (hd : Down q) (h : ∀ x, x ∈ A ↔ ∃ s : Nat, x = (s : Int) ∧ s < 64 ∧ q s = true) : maximal A = maxQ q := by
  have hok : allOk A = true := by
    unfold allOk; rw [List.all_eq_true]; intro x hx
    obtain ⟨s, rfl, hs, _⟩ := (h x).1 hx
    exact (okZ_nat s).2 hs
  rw [maximal_maxQ A hok]
  refine maxQ_congr fun t ht => ?_
  rw [Bool.eq_iff_iff, inF_iff]
  constructor
  · rintro ⟨f, hf, e⟩
    obtain ⟨u, rfl, hu, hq⟩ := (h f).1 hf
    exact hd t u ht hu e hq
  · intro k
    exact ⟨(t : Int), (h _).2 ⟨t, rfl, ht, k⟩, sub_refl t⟩
theorem pow_le64 (n : Int) (h1 : 1 ≤ n) (h2 : n ≤ 6) : 2 ^ n.toNat ≤ 64 := by
  have : 2 ^ n.toNat ≤ 2 ^ 6 := Nat.pow_le_pow_right (by decide) (by omega)
  omega
theorem setB_lt (n : Int) (s : Nat) (h1 : 0 ≤ n) (h2 : n ≤ 6) : setB n (s : Int) = decide (s < 2 ^ n.toNat) := by
  rw [Bool.eq_iff_iff, setB_iff, decide_eq_true_iff]
  have e : ((2 ^ n.toNat : Nat) : Int) = 2 ^ n.toNat := by simp
  constructor
  · rintro ⟨_, _, _, h⟩
    omega
  · intro h
    exact ⟨h1, h2, by omega, by omega⟩
/-- The model's way to make a complex out of what may not be in it. -/
theorem maximal_avoid (n : Int) (xs : List Int) (h1 : 1 ≤ n) (h2 : n ≤ 6) : maximal (firsts (fun s => !abv xs s) (2 ^ n.toNat)) = maxQ (avoidQ n xs) := by
  refine maximal_of _ _ (avoidQ_down n xs) fun x => ?_
  rw [mem_firsts]
  have h64 := pow_le64 n h1 h2
  constructor
  · rintro ⟨t, rfl, ht, e⟩
    exact ⟨t, rfl, by omega, by unfold avoidQ; rw [e, setB_lt n t (by omega) h2]; simp [ht]⟩
  · rintro ⟨t, rfl, ht, e⟩
    unfold avoidQ at e
    rw [Bool.and_eq_true, setB_lt n t (by omega) h2, decide_eq_true_iff] at e
    exact ⟨t, rfl, e.1, e.2⟩
theorem firsts_ok_le (p : Nat → Bool) (k : Nat) (hk : k ≤ 64) : allOk (firsts p k) = true := by
  unfold allOk
  rw [List.all_eq_true]
  intro x hx
  obtain ⟨t, rfl, ht, _⟩ := (mem_firsts p k x).1 hx
  exact (okZ_nat t).2 (by omega)
/-- The program's way to find the least: a point less is always a face. -/
theorem minQ_loses {n : Int} {xs : List Int} (_ : isC n xs = true) : ord (fun s => missQ n xs s && !loses (missQ n xs) s) = minQ (missQ n xs) := by
  refine rises_eq _ _ (ord_rises _) (ord_rises _) fun x => ?_
  rw [mem_ord, mem_minQ]
  constructor
  · rintro ⟨s, rfl, hs, h⟩
    rw [Bool.and_eq_true, Bool.not_eq_true'] at h
    refine ⟨s, rfl, hs, h.1, fun t ht k1 k2 => Classical.byContradiction fun hne => ?_⟩
    have := less_has ⟨t, ht⟩ ⟨s, hs⟩ k2 hne
    rw [List.any_eq_true] at this
    obtain ⟨p, hp, k⟩ := this
    rw [Bool.and_eq_true] at k
    have hp := List.mem_range.1 hp
    have hl := less_sub ⟨s, hs⟩ ⟨p, hp⟩ k.1
    have k3 : sub t (s - 2 ^ p) = true := k.2
    have hm : missQ n xs (s - 2 ^ p) = true := by
      unfold missQ at *
      rw [Bool.and_eq_true, Bool.not_eq_true'] at *
      refine ⟨setB_sub h.1.1 hl.1, ?_⟩
      rw [Bool.eq_false_iff]; intro e
      rw [inF_sub k3 e] at k1; cases k1.2
    rw [loses_hit hp k.1 hm] at h
    cases h.2
  · rintro ⟨s, rfl, hs, h1, h2⟩
    refine ⟨s, rfl, hs, ?_⟩
    rw [h1, loses_miss]
    · rfl
    · intro p hp hb
      have hl := less_sub ⟨s, hs⟩ ⟨p, hp⟩ hb
      have hl2 : s - 2 ^ p < s := hl.2
      rw [Bool.eq_false_iff]; intro e
      have := h2 (s - 2 ^ p) (by omega) e hl.1
      omega

end Go.Proofs.Ytbkkdgmiokdbmaa

/-! WALKS: impl's chapter 5: parts of a complex (written by genparti.py). -/

namespace Go.Proofs.Ytbkkdgmiokdbmaa
open Go.RowKit
open Sets

theorem own_has_cx {f : FuncId} {args : Array Value} {w : World} {n : Int} {L : List Int} {b : Bool} (h : Calls Try.prog f args w fun e w' => ∃ v, e = .returned (.tuple #[cx n v, .bool b]) ∧ OwnInts w' w.heap.size v L ∧ Below w.heap.size w w') :
    Calls Try.prog f args w fun e w' => ∃ v, e = .returned (.tuple #[cx n v, .bool b]) ∧ HasInts w' w.heap.size v L ∧ Below w.heap.size w w' :=
  h.mono fun _ _ ⟨v, he, ho, hb⟩ => ⟨v, he, ho.has hb.size, hb⟩
theorem pO_no {ok : Bool} {n : Int} {q : Nat → Bool} (h : ok = false) : partO ok n q = none := by unfold partO; rw [if_neg (by rw [h]; simp)]
theorem pO_yes {ok : Bool} {n : Int} {q : Nat → Bool} (h : ok = true) : partO ok n q = some (n, maxQ q) := by unfold partO; rw [if_pos h]
theorem part_le (ok : Bool) (n : Int) (q : Nat → Bool) : (oL (partO ok n q)).length ≤ 1048576 := by
  refine Nat.le_trans (m := 64) ?_ (by decide)
  cases ok
  · rw [pO_no rfl]; exact Nat.zero_le _
  · rw [pO_yes rfl]; exact maxQ_le q

/-- A family of sets of n points that holds with a set all of its subsets, made by MakeComplex. -/
def Fam (n : Int) (q : Nat → Bool) : Prop := Down q ∧ ∀ t, t < 64 → q t = true → setB n (t : Int) = true
theorem made_ord {n : Int} {q : Nat → Bool} (hn : inB 1 6 n = true) (h : Fam n q) : made n (ord q) = some (n, maxQ q) := by
  rw [made_yes ((setsOf_iff _ _).2 ⟨hn, ord_le _, fun x hx => ?_⟩), maximal_ord q h.1]
  obtain ⟨s, rfl, hs, hq⟩ := (mem_ord q x).1 hx
  exact h.2 s hs hq
theorem and_natP : ∀ a b : Nat, a < 64 → b < 64 → bits BinOp.and IntKind.i64 (a : Int) (b : Int) = ((a &&& b : Nat) : Int) := by
  refine fin64b ?_
  decide +kernel
theorem or_natP : ∀ a b : Nat, a < 64 → b < 64 → bits BinOp.or IntKind.i64 (a : Int) (b : Int) = ((a ||| b : Nat) : Int) := by
  refine fin64b ?_
  decide +kernel
theorem or_lt64 {s t : Nat} (hs : s < 64) (ht : t < 64) : s ||| t < 64 := Nat.or_lt_two_pow (n := 6) hs ht

/-! ### a family by its function value -/

/-! ### the seven families -/

theorem fam_of {n : Int} {xs : List Int} {q : Nat → Bool} (hd : Down q) (hc : isC n xs = true) (h : ∀ t, q t = true → inF xs t = true) : Fam n q := ⟨hd, fun t _ hq => inF_set hc t (h t hq)⟩
theorem sub_orl (s t : Nat) : sub s (s ||| t) = true := (sub_iff _ _).2 fun i h => by rw [Nat.testBit_or, h]; rfl
theorem star_fam {n : Int} {xs : List Int} (hc : isC n xs = true) (u : Nat) : Fam n (starQ xs u) := fam_of (starQ_down xs u) hc fun t h => inF_sub (sub_orl t u) h
theorem link_fam {n : Int} {xs : List Int} (hc : isC n xs = true) (u : Nat) : Fam n (linkQ xs u) := fam_of (linkQ_down xs u) hc fun t h => by
  unfold linkQ at h
  rw [Bool.and_eq_true] at h
  exact inF_sub (sub_orl t u) h.2
theorem del_fam {n : Int} {xs : List Int} (hc : isC n xs = true) (u : Nat) : Fam n (delQ xs u) := fam_of (delQ_down xs u) hc fun t h => by
  unfold delQ at h
  rw [Bool.and_eq_true] at h
  exact h.1
theorem ind_fam {n : Int} {xs : List Int} (hc : isC n xs = true) (u : Nat) : Fam n (indQ xs u) := fam_of (indQ_down xs u) hc fun t h => by
  unfold indQ at h
  rw [Bool.and_eq_true] at h
  exact h.1
theorem skel_fam {n : Int} {xs : List Int} (hc : isC n xs = true) (k : Int) : Fam n (skelQ xs k) := fam_of (skelQ_down xs k) hc fun t h => by
  unfold skelQ at h
  rw [Bool.and_eq_true] at h
  exact h.1
theorem and_fam {n : Int} {xs : List Int} (ys : List Int) (hc : isC n xs = true) : Fam n (andQ xs ys) := fam_of (andQ_down xs ys) hc fun t h => by
  unfold andQ at h
  rw [Bool.and_eq_true] at h
  exact h.1
theorem or_fam {n : Int} {xs ys : List Int} (hx : isC n xs = true) (hy : isC n ys = true) : Fam n (orQ xs ys) := ⟨orQ_down xs ys, fun t _ h => by
  unfold orQ at h
  rw [Bool.or_eq_true] at h
  exact h.elim (inF_set hx t) (inF_set hy t)⟩

end Go.Proofs.Ytbkkdgmiokdbmaa
