/-
  TEXTS of one claim, put together: Part, Part2, WCx6, WPartS.
-/
import Derived.Test.YtcgfioakjmbciaaJg1
import Derived.Test.YtcgfioakjmbciaaJg5
/-! PARTS OF COMPLEXES, of no program: families of sets by predicates, their greatest sets. -/

namespace Go.Proofs.Ytcgfioakjmbciaa
open Sets

/-! ### subsets by bits -/

theorem sub_iff (a b : Nat) : sub a b = true ↔ ∀ i, a.testBit i = true → b.testBit i = true := by
  unfold sub
  rw [beq_iff_eq]
  constructor
  · intro h i hi
    have := congrArg (fun x => x.testBit i) h
    simp only [Nat.testBit_and] at this
    rw [hi] at this
    simpa using this
  · intro h
    apply Nat.eq_of_testBit_eq
    intro i
    rw [Nat.testBit_and]
    cases ha : a.testBit i with
    | false => rfl
    | true => rw [h i ha]; rfl
theorem sub_refl (a : Nat) : sub a a = true := by unfold sub; simp
theorem sub_trans {a b c : Nat} (h : sub a b = true) (k : sub b c = true) : sub a c = true := by
  rw [sub_iff] at *; exact fun i hi => k i (h i hi)
theorem sub_anti {a b : Nat} (h : sub a b = true) (k : sub b a = true) : a = b := by
  rw [sub_iff] at *
  apply Nat.eq_of_testBit_eq
  intro i
  rw [Bool.eq_iff_iff]
  exact ⟨h i, k i⟩
theorem sub_le {a b : Nat} (h : sub a b = true) : a ≤ b := by
  unfold sub at h
  rw [beq_iff_eq] at h
  rw [← h]; exact Nat.and_le_right
theorem sub_and (t f s : Nat) : sub t (f &&& s) = (sub t f && sub t s) := by
  rw [Bool.eq_iff_iff, Bool.and_eq_true, sub_iff, sub_iff, sub_iff]
  constructor
  · intro h
    refine ⟨fun i hi => ?_, fun i hi => ?_⟩ <;>
    · have := h i hi
      rw [Nat.testBit_and, Bool.and_eq_true] at this
      first | exact this.1 | exact this.2
  · intro h i hi
    rw [Nat.testBit_and, h.1 i hi, h.2 i hi]; rfl
theorem sub_or (t s f : Nat) : sub (t ||| s) f = (sub t f && sub s f) := by
  rw [Bool.eq_iff_iff, Bool.and_eq_true, sub_iff, sub_iff, sub_iff]
  constructor
  · intro h
    refine ⟨fun i hi => h i ?_, fun i hi => h i ?_⟩ <;> (rw [Nat.testBit_or, hi]; simp)
  · intro h i hi
    rw [Nat.testBit_or, Bool.or_eq_true] at hi
    rcases hi with e | e
    · exact h.1 i e
    · exact h.2 i e
/-- No point in common. -/
def apart (t s : Nat) : Bool := t &&& s == 0
theorem apart_iff (t s : Nat) : apart t s = true ↔ ∀ i, ¬(t.testBit i = true ∧ s.testBit i = true) := by
  unfold apart
  rw [beq_iff_eq]
  constructor
  · intro h i ⟨h1, h2⟩
    have := congrArg (fun x => x.testBit i) h
    simp only [Nat.testBit_and, Nat.zero_testBit, h1, h2] at this
    cases this
  · intro h
    apply Nat.eq_of_testBit_eq
    intro i
    rw [Nat.testBit_and, Nat.zero_testBit]
    cases h1 : t.testBit i with
    | false => rfl
    | true =>
      cases h2 : s.testBit i with
      | false => rfl
      | true => exact absurd ⟨h1, h2⟩ (h i)
theorem take_away (f s : Nat) (hf : f < 64) (hs : s < 64) (h : sub s f = true) : f - s = f ^^^ s := by
  have H : ∀ f s : Fin 64, sub s.val f.val = true → f.val - s.val = f.val ^^^ s.val := by decide +kernel
  exact H ⟨f, hf⟩ ⟨s, hs⟩ h
theorem sub_xor (t f s : Nat) (h : sub s f = true) : sub t (f ^^^ s) = (apart t s && sub t f) := by
  rw [sub_iff] at h
  rw [Bool.eq_iff_iff, Bool.and_eq_true, sub_iff, sub_iff, apart_iff]
  constructor
  · intro k
    refine ⟨fun i ⟨h1, h2⟩ => ?_, fun i hi => ?_⟩
    · have := k i h1
      rw [Nat.testBit_xor, h2, h i h2] at this
      cases this
    · have := k i hi
      rw [Nat.testBit_xor] at this
      cases h2 : s.testBit i with
      | true => exact h i h2
      | false => rw [h2] at this; simpa using this
  · rintro ⟨k1, k2⟩ i hi
    rw [Nat.testBit_xor, k2 i hi]
    cases h2 : s.testBit i with
    | true => exact absurd ⟨hi, h2⟩ (k1 i)
    | false => rfl
theorem apart_mono {t u s : Nat} (h : sub t u = true) (k : apart u s = true) : apart t s = true := by
  rw [sub_iff] at h; rw [apart_iff] at *
  exact fun i ⟨h1, h2⟩ => k i ⟨h i h1, h2⟩

/-! ### families closed downwards -/

def Down (q : Nat → Bool) : Prop := ∀ s t, s < 64 → t < 64 → sub s t = true → q t = true → q s = true
theorem inF_iff (xs : List Int) (s : Nat) : inF xs s = true ↔ ∃ f, f ∈ xs ∧ sub s f.toNat = true := by unfold inF; rw [List.any_eq_true]
theorem inF_down (xs : List Int) : Down (inF xs) := fun s t _ _ h k => by
  rw [inF_iff] at *
  obtain ⟨f, hf, e⟩ := k
  exact ⟨f, hf, sub_trans h e⟩
/-- The greatest sets of a family, in order. -/
def maxQ (q : Nat → Bool) : List Int := ord fun s => q s && (List.range 64).all fun t => !(q t && sub s t && t != s)
theorem mem_maxQ (q : Nat → Bool) (x : Int) : x ∈ maxQ q ↔ ∃ s : Nat, x = (s : Int) ∧ s < 64 ∧ q s = true ∧ ∀ t, t < 64 → q t = true → sub s t = true → t = s := by
  unfold maxQ
  rw [mem_ord]
  constructor
  · rintro ⟨s, rfl, hs, h⟩
    rw [Bool.and_eq_true, List.all_eq_true] at h
    refine ⟨s, rfl, hs, h.1, fun t ht h1 h2 => ?_⟩
    have := h.2 t (List.mem_range.2 ht)
    rw [h1, h2] at this
    simpa using this
  · rintro ⟨s, rfl, hs, h1, h2⟩
    refine ⟨s, rfl, hs, ?_⟩
    rw [Bool.and_eq_true, List.all_eq_true]
    refine ⟨h1, fun t ht => ?_⟩
    rw [Bool.not_eq_true', Bool.and_eq_false_iff]
    cases e1 : q t with
    | false => left; rfl
    | true =>
      cases e2 : sub s t with
      | false => left; rfl
      | true => right; rw [h2 t (List.mem_range.1 ht) e1 e2]; simp
theorem maxQ_congr {p q : Nat → Bool} (h : ∀ s, s < 64 → p s = q s) : maxQ p = maxQ q := by
  refine rises_eq _ _ (ord_rises _) (ord_rises _) fun x => ?_
  rw [mem_maxQ, mem_maxQ]
  constructor
  · rintro ⟨s, e, hs, h1, h2⟩
    exact ⟨s, e, hs, by rw [← h s hs]; exact h1, fun t ht k1 k2 => h2 t ht (by rw [h t ht]; exact k1) k2⟩
  · rintro ⟨s, e, hs, h1, h2⟩
    exact ⟨s, e, hs, by rw [h s hs]; exact h1, fun t ht k1 k2 => h2 t ht (by rw [← h t ht]; exact k1) k2⟩
theorem ok_nat {x : Int} {A : List Int} (h : allOk A = true) (hx : x ∈ A) : ∃ s : Nat, x = (s : Int) ∧ s < 64 := by
  unfold allOk at h
  exact okZ_cast x (List.all_eq_true.1 h x hx)
/-- The maximal sets of a list are told by what lies in it. -/
theorem maximal_maxQ (A : List Int) (h : allOk A = true) : maximal A = maxQ (inF A) := by
  refine rises_eq _ _ ?_ (ord_rises _) fun x => ?_
  · unfold maximal best
    exact List.Pairwise.filter _ (order_rises A)
  rw [mem_maxQ]
  unfold maximal best
  rw [List.mem_filter, order_iff A h]
  constructor
  · rintro ⟨hx, hu⟩
    obtain ⟨s, rfl, hs⟩ := ok_nat h hx
    refine ⟨s, rfl, hs, (inF_iff A s).2 ⟨_, hx, sub_refl s⟩, fun t ht h1 h2 => ?_⟩
    obtain ⟨f, hf, e⟩ := (inF_iff A t).1 h1
    obtain ⟨u, rfl, hu64⟩ := ok_nat h hf
    have e : sub t u = true := e
    by_cases hne : u = s
    · subst hne; exact sub_anti e h2
    · unfold unbeaten at hu
      have := List.all_eq_true.1 hu (u : Int) ((order_iff A h _).2 hf)
      rw [Bool.not_eq_true', Bool.and_eq_false_iff] at this
      rcases this with k | k
      · have : (u : Int) = (s : Int) := by simpa using k
        omega
      · have k : sub s u = false := k
        rw [sub_trans h2 e] at k; cases k
  · rintro ⟨s, rfl, hs, h1, h2⟩
    obtain ⟨f, hf, e⟩ := (inF_iff A s).1 h1
    obtain ⟨u, rfl, hu64⟩ := ok_nat h hf
    have e : sub s u = true := e
    have : u = s := h2 u hu64 ((inF_iff A u).2 ⟨_, hf, sub_refl u⟩) e
    subst this
    refine ⟨hf, ?_⟩
    unfold unbeaten
    rw [List.all_eq_true]
    intro y hy
    have hy := (order_iff A h y).1 hy
    obtain ⟨v, rfl, hv⟩ := ok_nat h hy
    rw [Bool.not_eq_true', Bool.and_eq_false_iff]
    by_cases hne : v = u
    · left; subst hne; simp
    · right
      rw [Bool.eq_false_iff]
      intro k
      exact hne (h2 v hv ((inF_iff A v).2 ⟨_, hy, sub_refl v⟩) k)
theorem inF_ord (q : Nat → Bool) (hd : Down q) (t : Nat) (ht : t < 64) : inF (ord q) t = q t := by
  rw [Bool.eq_iff_iff, inF_iff]
  constructor
  · rintro ⟨f, hf, e⟩
    obtain ⟨u, rfl, hu, hq⟩ := (mem_ord q f).1 hf
    exact hd t u ht hu e hq
  · intro h
    exact ⟨(t : Int), (mem_ord q _).2 ⟨t, rfl, ht, h⟩, sub_refl t⟩
theorem ord_ok (q : Nat → Bool) : allOk (ord q) = true := by
  unfold allOk
  rw [List.all_eq_true]
  intro x hx
  obtain ⟨s, rfl, hs, _⟩ := (mem_ord q x).1 hx
  exact (okZ_nat s).2 hs
theorem maximal_ord (q : Nat → Bool) (hd : Down q) : maximal (ord q) = maxQ q := by
  rw [maximal_maxQ _ (ord_ok q)]
  exact maxQ_congr fun s hs => inF_ord q hd s hs
/-- Each set of a family lies in a greatest one. -/
theorem maxQ_above (q : Nat → Bool) : ∀ (m t : Nat), t < 64 → 64 - t ≤ m → q t = true → ∃ u : Nat, u < 64 ∧ (u : Int) ∈ maxQ q ∧ sub t u = true
  | 0, t, ht, hm, _ => by omega
  | m + 1, t, ht, hm, hq => by
    by_cases h : ∀ v, v < 64 → q v = true → sub t v = true → v = t
    · exact ⟨t, ht, (mem_maxQ q _).2 ⟨t, rfl, ht, hq, h⟩, sub_refl t⟩
    · have : ∃ v, v < 64 ∧ q v = true ∧ sub t v = true ∧ v ≠ t := by
        refine Classical.byContradiction fun k => h fun v h1 h2 h3 => Classical.byContradiction fun h4 => k ⟨v, h1, h2, h3, h4⟩
      obtain ⟨v, h1, h2, h3, h4⟩ := this
      have := sub_le h3
      obtain ⟨u, k1, k2, k3⟩ := maxQ_above q m v h1 (by omega) h2
      exact ⟨u, k1, k2, sub_trans h3 k3⟩
theorem inF_maxQ (q : Nat → Bool) (hd : Down q) (t : Nat) (ht : t < 64) : inF (maxQ q) t = q t := by
  rw [Bool.eq_iff_iff, inF_iff]
  constructor
  · rintro ⟨f, hf, e⟩
    obtain ⟨u, rfl, hu, hq, _⟩ := (mem_maxQ q f).1 hf
    exact hd t u ht hu e hq
  · intro h
    obtain ⟨u, _, h2, h3⟩ := maxQ_above q 64 t ht (by omega) h
    exact ⟨_, h2, h3⟩
theorem maxQ_le (q : Nat → Bool) : (maxQ q).length ≤ 64 := ord_le _
theorem maxQ_ok (q : Nat → Bool) : allOk (maxQ q) = true := ord_ok _
/-- A complex is told by its faces. -/
theorem isC_maxQ {n : Int} {xs : List Int} (h : isC n xs = true) : maxQ (inF xs) = xs := by
  rw [← maximal_maxQ xs (isC_ok h), maximal_self h]
theorem maxQ_isC (n : Int) (q : Nat → Bool) (h1 : 1 ≤ n) (h2 : n ≤ 6) (hd : Down q) (h : ∀ s, s < 64 → q s = true → setB n (s : Int) = true) : isC n (maxQ q) = true := by
  rw [← maximal_ord q hd]
  refine isC_maximal n _ h1 h2 fun x hx => ?_
  obtain ⟨s, rfl, hs, hq⟩ := (mem_ord q x).1 hx
  exact h s hs hq
theorem maxQ_faces (n : Int) (q : Nat → Bool) (hd : Down q) (hc : isC n (maxQ q) = true) : faces n (maxQ q) = ord q := by
  unfold faces
  rw [if_pos hc]
  exact ord_congr fun t ht => inF_maxQ q hd t ht
/-- Faces of a complex are sets of its points. -/
theorem setB_sub {n : Int} {s t : Nat} (h : setB n (t : Int) = true) (k : sub s t = true) : setB n (s : Int) = true := by
  rw [setB_iff] at *
  have := sub_le k
  exact ⟨h.1, h.2.1, by omega, by have := h.2.2.2; omega⟩
theorem inF_set {n : Int} {xs : List Int} (h : isC n xs = true) (s : Nat) (k : inF xs s = true) : setB n (s : Int) = true := by
  obtain ⟨f, hf, e⟩ := (inF_iff xs s).1 k
  obtain ⟨t, rfl, _⟩ := ok_nat (isC_ok h) hf
  exact setB_sub (isC_set h _ hf) e

/-! ### the parts -/

def linkQ (xs : List Int) (s t : Nat) : Bool := apart t s && inF xs (t ||| s)
def starQ (xs : List Int) (s t : Nat) : Bool := inF xs (t ||| s)
def delQ (xs : List Int) (s t : Nat) : Bool := inF xs t && !sub s t
def skelQ (xs : List Int) (k : Int) (t : Nat) : Bool := inF xs t && decide ((pc t : Int) ≤ k)
def indQ (xs : List Int) (s t : Nat) : Bool := inF xs t && sub t s
def orQ (xs ys : List Int) (t : Nat) : Bool := inF xs t || inF ys t
def andQ (xs ys : List Int) (t : Nat) : Bool := inF xs t && inF ys t

theorem or_sub {s t : Nat} (h : sub s t = true) (u : Nat) : sub (s ||| u) (t ||| u) = true := by
  rw [sub_or, Bool.and_eq_true, sub_iff, sub_iff]
  rw [sub_iff] at h
  exact ⟨fun i hi => by rw [Nat.testBit_or, h i hi]; rfl, fun i hi => by rw [Nat.testBit_or, hi]; simp⟩
theorem inF_sub {xs : List Int} {s t : Nat} (h : sub s t = true) (k : inF xs t = true) : inF xs s = true := by
  rw [inF_iff] at *
  obtain ⟨f, hf, e⟩ := k
  exact ⟨f, hf, sub_trans h e⟩
theorem starQ_down (xs : List Int) (u : Nat) : Down (starQ xs u) := fun s t _ _ h k => by
  unfold starQ at *
  exact inF_sub (or_sub h u) k
theorem linkQ_down (xs : List Int) (u : Nat) : Down (linkQ xs u) := fun s t hs ht h k => by
  unfold linkQ at *
  rw [Bool.and_eq_true] at *
  exact ⟨apart_mono h k.1, starQ_down xs u s t hs ht h k.2⟩
theorem delQ_down (xs : List Int) (u : Nat) : Down (delQ xs u) := fun s t _ _ h k => by
  unfold delQ at *
  rw [Bool.and_eq_true, Bool.not_eq_true'] at *
  refine ⟨inF_sub h k.1, ?_⟩
  rw [Bool.eq_false_iff]; intro e
  rw [sub_trans e h] at k; cases k.2
theorem pc_sub {s t : Nat} (hs : s < 64) (ht : t < 64) (h : sub s t = true) : pc s ≤ pc t := by
  rcases sub_pc s t hs ht h with e | e
  · omega
  · rw [e]; exact Nat.le_refl _
theorem skelQ_down (xs : List Int) (k : Int) : Down (skelQ xs k) := fun s t hs ht h e => by
  unfold skelQ at *
  rw [Bool.and_eq_true, decide_eq_true_iff] at *
  have := pc_sub hs ht h
  exact ⟨inF_sub h e.1, by omega⟩
theorem indQ_down (xs : List Int) (u : Nat) : Down (indQ xs u) := fun s t _ _ h k => by
  unfold indQ at *
  rw [Bool.and_eq_true] at *
  exact ⟨inF_sub h k.1, sub_trans h k.2⟩
theorem orQ_down (xs ys : List Int) : Down (orQ xs ys) := fun s t _ _ h k => by
  unfold orQ at *
  rw [Bool.or_eq_true] at *
  exact k.imp (inF_sub h) (inF_sub h)
theorem andQ_down (xs ys : List Int) : Down (andQ xs ys) := fun s t _ _ h k => by
  unfold andQ at *
  rw [Bool.and_eq_true] at *
  exact ⟨inF_sub h k.1, inF_sub h k.2⟩

/-- A part: a complex of n points, or none. -/
def partO (ok : Bool) (n : Int) (q : Nat → Bool) : Option (Int × List Int) := if ok = true then some (n, maxQ q) else none
def linkO (n : Int) (xs : List Int) (s : Int) := partO (isC n xs && setB n s) n (linkQ xs s.toNat)
def starO (n : Int) (xs : List Int) (s : Int) := partO (isC n xs && setB n s) n (starQ xs s.toNat)
def delO (n : Int) (xs : List Int) (s : Int) := partO (isC n xs && setB n s) n (delQ xs s.toNat)
def skelO (n : Int) (xs : List Int) (k : Int) := partO (isC n xs && inB 0 6 k) n (skelQ xs k)
def indO (n : Int) (xs : List Int) (s : Int) := partO (isC n xs && setB n s) n (indQ xs s.toNat)
def bothOk (n m : Int) (xs ys : List Int) : Bool := isC n xs && isC m ys && n == m
def unionO (n m : Int) (xs ys : List Int) := partO (bothOk n m xs ys) n (orQ xs ys)
def meetO (n m : Int) (xs ys : List Int) := partO (bothOk n m xs ys) n (andQ xs ys)

end Go.Proofs.Ytcgfioakjmbciaa

/-! PARTS OF COMPLEXES, of no program: the lists out of which the model makes them. -/

namespace Go.Proofs.Ytcgfioakjmbciaa
open Sets

theorem tk_next (L : List Int) (k : Nat) (h : k < L.length) : L.take (k + 1) = L.take k ++ [L.getD k 0] := by
  rw [List.take_add_one, List.getD, List.getElem?_eq_getElem h]; rfl
/-- Those of the first k that meet p. -/
def keepL (p : Int → Bool) (L : List Int) (k : Nat) : List Int := (L.take k).filter p
theorem keepL_hit (p : Int → Bool) (L : List Int) (k : Nat) (h : k < L.length) (e : p (L.getD k 0) = true) : keepL p L (k + 1) = keepL p L k ++ [L.getD k 0] := by
  unfold keepL; rw [tk_next L k h, List.filter_append]; generalize L.getD k 0 = x at e ⊢; simp [e]
theorem keepL_miss (p : Int → Bool) (L : List Int) (k : Nat) (h : k < L.length) (e : p (L.getD k 0) = false) : keepL p L (k + 1) = keepL p L k := by
  unfold keepL; rw [tk_next L k h, List.filter_append]; generalize L.getD k 0 = x at e ⊢; simp [e]
theorem keepL_le (p : Int → Bool) (L : List Int) (k : Nat) : (keepL p L k).length ≤ k := by
  unfold keepL
  refine Nat.le_trans (List.length_filter_le _ _) ?_
  rw [List.length_take]; omega
theorem keepL_all (p : Int → Bool) (L : List Int) : keepL p L L.length = L.filter p := by unfold keepL; rw [List.take_length]
theorem filter_ok {L : List Int} (p : Int → Bool) (h : allOk L = true) : allOk (L.filter p) = true := by
  unfold allOk at *
  rw [List.all_eq_true] at *
  exact fun x hx => h x (List.mem_filter.1 hx).1

/-- The first k, each turned by f. -/
def mapL (f : Int → Int) (L : List Int) (k : Nat) : List Int := (L.take k).map f
theorem mapL_next (f : Int → Int) (L : List Int) (k : Nat) (h : k < L.length) : mapL f L (k + 1) = mapL f L k ++ [f (L.getD k 0)] := by
  unfold mapL; rw [tk_next L k h, List.map_append]; rfl
theorem mapL_le (f : Int → Int) (L : List Int) (k : Nat) : (mapL f L k).length ≤ k := by
  unfold mapL; rw [List.length_map, List.length_take]; omega
theorem mapL_all (f : Int → Int) (L : List Int) : mapL f L L.length = L.map f := by unfold mapL; rw [List.take_length]

/-! ### link -/

def linkL (s : Nat) (L : List Int) (k : Nat) : List Int := (keepL (fun f => sub s f.toNat) L k).map fun f => f - (s : Int)
theorem linkL_hit (s : Nat) (L : List Int) (k : Nat) (h : k < L.length) (e : sub s (L.getD k 0).toNat = true) : linkL s L (k + 1) = linkL s L k ++ [L.getD k 0 - (s : Int)] := by
  unfold linkL; rw [keepL_hit _ L k h e, List.map_append]; rfl
theorem linkL_miss (s : Nat) (L : List Int) (k : Nat) (h : k < L.length) (e : sub s (L.getD k 0).toNat = false) : linkL s L (k + 1) = linkL s L k := by
  unfold linkL; rw [keepL_miss _ L k h e]
theorem linkL_le (s : Nat) (L : List Int) (k : Nat) : (linkL s L k).length ≤ k := by
  unfold linkL; rw [List.length_map]; exact keepL_le _ _ _
theorem mem_linkL (s : Nat) (hs : s < 64) (L : List Int) (h : allOk L = true) (x : Int) : x ∈ linkL s L L.length ↔ ∃ f : Nat, (f : Int) ∈ L ∧ f < 64 ∧ sub s f = true ∧ x = ((f ^^^ s : Nat) : Int) := by
  unfold linkL
  rw [keepL_all, List.mem_map]
  constructor
  · rintro ⟨y, hy, rfl⟩
    rw [List.mem_filter] at hy
    obtain ⟨f, rfl, hf⟩ := ok_nat h hy.1
    have e : sub s f = true := hy.2
    have := sub_le e
    exact ⟨f, hy.1, hf, e, by rw [← take_away f s hf hs e]; omega⟩
  · rintro ⟨f, hf, hf64, e, rfl⟩
    have := sub_le e
    exact ⟨(f : Int), List.mem_filter.2 ⟨hf, e⟩, by rw [← take_away f s hf64 hs e]; omega⟩
theorem linkL_ok (s : Nat) (hs : s < 64) (L : List Int) (h : allOk L = true) : allOk (linkL s L L.length) = true := by
  unfold allOk
  rw [List.all_eq_true]
  intro x hx
  obtain ⟨f, _, hf, e, rfl⟩ := (mem_linkL s hs L h x).1 hx
  rw [← take_away f s hf hs e]
  exact (okZ_nat _).2 (by omega)
theorem linkL_inF (s : Nat) (hs : s < 64) (L : List Int) (h : allOk L = true) (t : Nat) : inF (linkL s L L.length) t = linkQ L s t := by
  unfold linkQ
  rw [Bool.eq_iff_iff, Bool.and_eq_true, inF_iff, inF_iff]
  constructor
  · rintro ⟨x, hx, e⟩
    obtain ⟨f, hf, hf64, k, rfl⟩ := (mem_linkL s hs L h x).1 hx
    have e : sub t (f ^^^ s) = true := e
    rw [sub_xor t f s k, Bool.and_eq_true] at e
    exact ⟨e.1, (f : Int), hf, by show sub (t ||| s) f = true; rw [sub_or, e.2, k]; rfl⟩
  · rintro ⟨ha, x, hx, e⟩
    obtain ⟨f, rfl, hf⟩ := ok_nat h hx
    have e : sub (t ||| s) f = true := e
    rw [sub_or, Bool.and_eq_true] at e
    exact ⟨_, (mem_linkL s hs L h _).2 ⟨f, hx, hf, e.2, rfl⟩, by show sub t (f ^^^ s) = true; rw [sub_xor t f s e.2, ha, e.1]; rfl⟩
theorem link_spec (s : Nat) (hs : s < 64) (L : List Int) (h : allOk L = true) : maximal (linkL s L L.length) = maxQ (linkQ L s) := by
  rw [maximal_maxQ _ (linkL_ok s hs L h)]
  exact maxQ_congr fun t _ => linkL_inF s hs L h t

/-! ### star -/

theorem star_spec (s : Nat) (L : List Int) (h : allOk L = true) : maximal (keepL (fun f => sub s f.toNat) L L.length) = maxQ (starQ L s) := by
  rw [keepL_all, maximal_maxQ _ (filter_ok _ h)]
  refine maxQ_congr fun t _ => ?_
  unfold starQ
  rw [Bool.eq_iff_iff, inF_iff, inF_iff]
  constructor
  · rintro ⟨x, hx, e⟩
    rw [List.mem_filter] at hx
    exact ⟨x, hx.1, by rw [sub_or, e, hx.2]; rfl⟩
  · rintro ⟨x, hx, e⟩
    rw [sub_or, Bool.and_eq_true] at e
    exact ⟨x, List.mem_filter.2 ⟨hx, e.2⟩, e.1⟩

/-! ### families of faces -/

/-- The greatest of those faces that meet a predicate. -/
theorem keep_spec (n : Int) (xs : List Int) (hc : isC n xs = true) (p : Nat → Bool) (hd : Down fun t => inF xs t && p t) :
    maximal (keepL (fun f => p f.toNat) (faces n xs) (faces n xs).length) = maxQ fun t => inF xs t && p t := by
  have hf : faces n xs = ord (inF xs) := by unfold faces; rw [if_pos hc]
  rw [keepL_all, hf]
  have e : (ord (inF xs)).filter (fun f => p f.toNat) = ord fun t => inF xs t && p t := by
    rw [ord_filter (inF xs), List.filter_filter, ord_filter fun t => inF xs t && p t]
    apply List.filter_congr
    intro x _
    rw [Bool.and_comm]
  rw [e]
  exact maximal_ord _ hd
theorem del_spec (n : Int) (xs : List Int) (hc : isC n xs = true) (s : Nat) : maximal (keepL (fun f => !sub s f.toNat) (faces n xs) (faces n xs).length) = maxQ (delQ xs s) :=
  keep_spec n xs hc (fun t => !sub s t) (delQ_down xs s)
theorem skel_spec (n : Int) (xs : List Int) (hc : isC n xs = true) (k : Int) : maximal (keepL (fun f => decide ((pc f.toNat : Int) ≤ k)) (faces n xs) (faces n xs).length) = maxQ (skelQ xs k) :=
  keep_spec n xs hc (fun t => decide ((pc t : Int) ≤ k)) (skelQ_down xs k)

/-! ### induced -/

def meetZ (s : Nat) (f : Int) : Int := ((f.toNat &&& s : Nat) : Int)
theorem map_ok {L : List Int} (s : Nat) (h : allOk L = true) : allOk (L.map (meetZ s)) = true := by
  unfold allOk
  rw [List.all_eq_true]
  intro x hx
  obtain ⟨y, hy, rfl⟩ := List.mem_map.1 hx
  obtain ⟨f, rfl, hf⟩ := ok_nat h hy
  exact (okZ_nat _).2 (Nat.lt_of_le_of_lt Nat.and_le_left hf)
theorem ind_spec (s : Nat) (L : List Int) (h : allOk L = true) : maximal (mapL (meetZ s) L L.length) = maxQ (indQ L s) := by
  rw [mapL_all, maximal_maxQ _ (map_ok s h)]
  refine maxQ_congr fun t _ => ?_
  unfold indQ
  rw [Bool.eq_iff_iff, Bool.and_eq_true, inF_iff, inF_iff]
  constructor
  · rintro ⟨x, hx, e⟩
    obtain ⟨y, hy, rfl⟩ := List.mem_map.1 hx
    have e : sub t (y.toNat &&& s) = true := e
    rw [sub_and, Bool.and_eq_true] at e
    exact ⟨⟨y, hy, e.1⟩, e.2⟩
  · rintro ⟨⟨y, hy, e⟩, k⟩
    exact ⟨_, List.mem_map.2 ⟨y, hy, rfl⟩, by show sub t (y.toNat &&& s) = true; rw [sub_and, e, k]; rfl⟩

/-! ### union and meet -/

theorem app_ok {xs ys : List Int} (hx : allOk xs = true) (hy : allOk ys = true) : allOk (xs ++ ys) = true := by
  unfold allOk at *; rw [List.all_append, hx, hy]; rfl
theorem union_spec (xs ys : List Int) (hx : allOk xs = true) (hy : allOk ys = true) : maximal (xs ++ ys) = maxQ (orQ xs ys) := by
  rw [maximal_maxQ _ (app_ok hx hy)]
  refine maxQ_congr fun t _ => ?_
  unfold orQ inF
  rw [List.any_append]
/-- The meets of the first i with all, and of the next with the first k. -/
def meetL (xs ys : List Int) (i k : Nat) : List Int := (xs.take i).flatMap (fun f => ys.map (meetZ f.toNat)) ++ mapL (meetZ (xs.getD i 0).toNat) ys k
theorem meetL_start (xs ys : List Int) : meetL xs ys 0 0 = [] := rfl
theorem meetL_next (xs ys : List Int) (i k : Nat) (h : k < ys.length) : meetL xs ys i (k + 1) = meetL xs ys i k ++ [meetZ (xs.getD i 0).toNat (ys.getD k 0)] := by
  unfold meetL; rw [mapL_next _ _ _ h, List.append_assoc]
theorem meetL_line (xs ys : List Int) (i : Nat) (h : i < xs.length) : meetL xs ys i ys.length = meetL xs ys (i + 1) 0 := by
  unfold meetL
  rw [mapL_all, tk_next xs i h, List.flatMap_append]
  simp [mapL]
theorem meetL_le (xs ys : List Int) (i k : Nat) : (meetL xs ys i k).length ≤ xs.length * ys.length + ys.length := by
  unfold meetL
  rw [List.length_append]
  have h1 : ((xs.take i).flatMap fun f => ys.map (meetZ f.toNat)).length = (xs.take i).length * ys.length := by
    generalize xs.take i = L
    induction L with
    | nil => simp
    | cons x L ih => rw [List.flatMap_cons, List.length_append, List.length_map, ih, List.length_cons, Nat.succ_mul, Nat.add_comm]
  have h2 : (mapL (meetZ (xs.getD i 0).toNat) ys k).length ≤ ys.length := by
    unfold mapL; rw [List.length_map, List.length_take]; omega
  have h3 : (xs.take i).length ≤ xs.length := by rw [List.length_take]; omega
  have := Nat.mul_le_mul_right ys.length h3
  omega
theorem mem_meetL (xs ys : List Int) (x : Int) : x ∈ meetL xs ys xs.length 0 ↔ ∃ f g : Int, f ∈ xs ∧ g ∈ ys ∧ x = meetZ f.toNat g := by
  unfold meetL
  rw [List.take_length]
  have e : mapL (meetZ (xs.getD xs.length 0).toNat) ys 0 = [] := rfl
  rw [e, List.append_nil, List.mem_flatMap]
  constructor
  · rintro ⟨f, hf, hx⟩
    obtain ⟨g, hg, rfl⟩ := List.mem_map.1 hx
    exact ⟨f, g, hf, hg, rfl⟩
  · rintro ⟨f, g, hf, hg, rfl⟩
    exact ⟨f, hf, List.mem_map.2 ⟨g, hg, rfl⟩⟩
theorem meetL_ok (xs ys : List Int) (hy : allOk ys = true) : allOk (meetL xs ys xs.length 0) = true := by
  unfold allOk
  rw [List.all_eq_true]
  intro x hx
  obtain ⟨f, g, _, hg, rfl⟩ := (mem_meetL xs ys x).1 hx
  obtain ⟨b, rfl, hb⟩ := ok_nat hy hg
  exact (okZ_nat _).2 (Nat.lt_of_le_of_lt Nat.and_le_left hb)
theorem meet_spec (xs ys : List Int) (hy : allOk ys = true) : maximal (meetL xs ys xs.length 0) = maxQ (andQ xs ys) := by
  rw [maximal_maxQ _ (meetL_ok xs ys hy)]
  refine maxQ_congr fun t _ => ?_
  unfold andQ
  rw [Bool.eq_iff_iff, Bool.and_eq_true, inF_iff, inF_iff, inF_iff]
  constructor
  · rintro ⟨x, hx, e⟩
    obtain ⟨f, g, hf, hg, rfl⟩ := (mem_meetL xs ys x).1 hx
    have e : sub t (g.toNat &&& f.toNat) = true := e
    rw [sub_and, Bool.and_eq_true] at e
    exact ⟨⟨f, hf, e.2⟩, g, hg, e.1⟩
  · rintro ⟨⟨f, hf, e1⟩, g, hg, e2⟩
    exact ⟨_, (mem_meetL xs ys _).2 ⟨f, g, hf, hg, rfl⟩, by show sub t (g.toNat &&& f.toNat) = true; rw [sub_and, e1, e2]; rfl⟩

end Go.Proofs.Ytcgfioakjmbciaa

/-! WALKS: complexes made of sets, by impl and by spec; the full complex and its border. -/

namespace Go.Proofs.Ytcgfioakjmbciaa
open Go.RowKit
open Sets

/-- Out of what is owned: the slice, its room, its block. -/
theorem OwnInts.atc {w : World} {base : Nat} {v : Value} {xs : List Int} (h : OwnInts w base v xs) : ∃ a c g, v = .slice a xs.length c ∧ xs.length ≤ c ∧ base ≤ g ∧ IntsAt w g a xs := by
  unfold OwnInts at h
  rcases h.2 with ⟨hv, h0⟩ | ⟨g, cap, cur, hv, _, _, hcap, _⟩
  · exact ⟨none, 0, base, by rw [hv, h0], by omega, Nat.le_refl _, fun j hj => by omega⟩
  · subst hv
    obtain ⟨h1, h2⟩ := World.ownsRow.lt h g rfl
    refine ⟨some ⟨g, 0, none⟩, cap, g, rfl, hcap, h1, fun j hj => ⟨rfl, h2, ?_, World.ownsRow.frozenAt h j⟩⟩
    rw [World.ownsRow.cellAt h j (by omega), ints_cell xs j hj]

theorem OwnInts.set {w : World} {base : Nat} {v : Value} {xs : List Int} (h : OwnInts w base v xs) (b o : Nat) (z : Value) (hb : b < base) : OwnInts (w.setCell ⟨b, o, none⟩ z) base v xs := by
  unfold OwnInts at *
  refine ⟨h.1, ?_⟩
  rcases h.2 with h0 | ⟨g, cap, cur, hv, h1, hh, hr⟩
  · exact .inl h0
  · refine .inr ⟨g, cap, cur, hv, h1, ?_, hr⟩
    simp only [World.setCell, Array.getElem?_modify]
    rw [if_neg (by omega)]
    exact hh

/-- Are they at most 64 sets of n points? -/
def setsOf (n : Int) (xs : List Int) : Bool := inB 1 6 n && decide (xs.length ≤ 64) && xs.all (setB n)
/-- MakeComplex. -/
def made (n : Int) (xs : List Int) : Option (Int × List Int) := if setsOf n xs = true then some (n, maximal xs) else none
/-- The points and the facets of a complex that may not be there. -/
def oN (o : Option (Int × List Int)) : Int := (o.map (·.1)).getD 0
def oL (o : Option (Int × List Int)) : List Int := (o.map (·.2)).getD []
theorem made_yes {n : Int} {xs : List Int} (h : setsOf n xs = true) : made n xs = some (n, maximal xs) := by unfold made; rw [if_pos h]
theorem made_no {n : Int} {xs : List Int} (h : setsOf n xs = false) : made n xs = none := by unfold made; rw [if_neg (by rw [h]; simp)]
theorem setsOf_iff (n : Int) (xs : List Int) : setsOf n xs = true ↔ inB 1 6 n = true ∧ xs.length ≤ 64 ∧ ∀ x, x ∈ xs → setB n x = true := by
  unfold setsOf; rw [Bool.and_eq_true, Bool.and_eq_true, decide_eq_true_iff, List.all_eq_true, and_assoc]
theorem setsOf_ok {n : Int} {xs : List Int} (h : setsOf n xs = true) : allOk xs = true := by
  unfold allOk; rw [List.all_eq_true]; exact fun x hx => setB_ok (((setsOf_iff n xs).1 h).2.2 x hx)
theorem made_isC {n : Int} {xs : List Int} (h : setsOf n xs = true) : isC n (maximal xs) = true := by
  have h' := (setsOf_iff n xs).1 h
  have hn := (inB_iff _ _ _).1 h'.1
  exact isC_maximal n xs hn.1 hn.2 h'.2.2
theorem all_any_not (xs : List Int) (q : Int → Bool) : xs.all q = !(xs.any fun x => !q x) := by
  rw [List.not_any_eq_all_not]; simp

set_option maxRecDepth 100000 in
set_option maxHeartbeats 2000000 in
theorem l3Make_any (n : Int) (a : Option Addr) (c : Nat) (xs : List Int) (hok : allOk xs = true) (hlen : xs.length ≤ 1099511627776) (w : World) (h : Ints w a xs) :
    Calls Try.prog 76 #[.int .i64 n, .slice a xs.length c] w fun e w' =>
      ∃ v, e = .returned (cx n v) ∧ OwnInts w' w.heap.size v (maximal xs) ∧ Below w.heap.size w w' := by
  have hb0 : Below w.heap.size w (w.alloc (Obj.cells #[Value.int IntKind.i64 0, Value.slice none 0 0] 26)) := (Below.refl _ _).alloc (Nat.le_refl _) _
  have htwo : Two (w.alloc (Obj.cells #[Value.int IntKind.i64 0, Value.slice none 0 0] 26)) w.heap.size (.int .i64 0) (.slice none 0 0) := Two.new _ _ _ _
  have H := Lib.hid (h.keeps hb0)
  have HB0 := Lib.hid hb0
  have HT := Lib.hid htwo
  have HOK := Lib.hid hok
  clear h hb0 htwo hok
  go_enter Try.func76, Try.ntmps76
  go_wp2_with fail
  refine (l2Extreme_true _ _ xs hlen HOK.out _ H.out).mono ?_
  rintro e w2 ⟨v, rfl, hO, hb2⟩
  have hsz1 := HT.out.1
  have hsz2 := hb2.size
  have HB2 : Hid (Below w.heap.size w w2) := HB0.out.trans (hb2.mono (by omega))
  have hO' : OwnInts w2 (w.heap.size + 1) v (maximal xs) := by
    have h2 := hO
    simp only [World.size_alloc] at h2
    exact h2
  obtain ⟨a2, c2, g2, rfl, _⟩ := hO'.atc
  have HO := Lib.hid hO'
  obtain ⟨t0, t1, t2, t3, t4⟩ := HT.out.keeps hb2
  clear hb2 hO hO'
  go_wp2
  refine ret_cx w.heap.size rfl rfl (x := .int .i64 n) (y := .slice a2 (maximal xs).length c2) (by go_simp) (by go_simp) rfl ?_
  exact ⟨_, rfl, (OwnInts.set (OwnInts.set HO.out _ _ _ (by omega)) _ _ _ (by omega)).lower (by omega), (HB2.out.setCell (by simp) _).setCell (by simp) _⟩

end Go.Proofs.Ytcgfioakjmbciaa

/-! WALKS: spec's chapter 5 (written by genpart.py). -/

namespace Go.Proofs.Ytcgfioakjmbciaa
open Go.RowKit
open Sets

theorem and_meet (f s : Nat) (hf : f < 64) (hs : s < 64) : bits BinOp.and IntKind.i64 (f : Int) (s : Int) = meetZ s (f : Int) := by
  have H : ∀ a b : Nat, a < 64 → b < 64 → bits BinOp.and IntKind.i64 (a : Int) (b : Int) = ((a &&& b : Nat) : Int) := by
    refine fin64b ?_
    decide +kernel
  exact H f s hf hs
theorem isC_at2 {xs : List Int} (h : allOk xs = true) (j : Nat) (hj : j < xs.length) : ∃ s : Nat, xs.getD j 0 = (s : Int) ∧ s < 64 :=
  okZ_cast _ (by unfold allOk at h; exact List.all_eq_true.1 h _ (by rw [List.getD, List.getElem?_eq_getElem hj]; exact List.getElem_mem hj))
/-- What writes into another row leave. -/
theorem IntsAt.off {w w' : World} {g : Nat} {row : Option Nat} {a : Option Addr} {xs : List Int} (h : IntsAt w g a xs) (hg : w.grownBy w' row) (hne : row ≠ some g) : IntsAt w' g a xs := fun j hj => by
  obtain ⟨e, hl, hc, hf⟩ := h j hj
  have hb := hg.block g hl (Ne.symm hne)
  have := hg.size
  exact ⟨e, by omega, by rw [World.cell?_of_block (w := w) (w' := w') (a := ⟨g, j, none⟩) hb]; exact hc, by rw [World.frozen?_of_block (w := w) (w' := w') (a := ⟨g, j, none⟩) hb]; exact hf⟩
theorem size_ok (n : Int) (xs : List Int) : allOk (faces n xs) = true := by
  unfold faces; split
  · exact ord_ok _
  · rfl
theorem l2Size_v (s p : Nat) (hp : pc s = p) (hs : s < 64) (w : World) : Calls Try.prog 55 #[.int .i64 (s : Int)] w fun e w' => e = .returned (.int .i64 (p : Int)) ∧ w = w' := by
  subst hp; exact l2Size_any s hs w

theorem partO_no {ok : Bool} {n : Int} {q : Nat → Bool} (h : ok = false) : partO ok n q = none := by unfold partO; rw [if_neg (by rw [h]; simp)]
theorem partO_yes {ok : Bool} {n : Int} {q : Nat → Bool} (h : ok = true) : partO ok n q = some (n, maxQ q) := by unfold partO; rw [if_pos h]


end Go.Proofs.Ytcgfioakjmbciaa
