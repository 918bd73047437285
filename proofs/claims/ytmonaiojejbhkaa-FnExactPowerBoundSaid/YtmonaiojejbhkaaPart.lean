/-
  PARTS OF COMPLEXES, of no program: families of sets by predicates, their greatest sets.
-/
import Derived.Test.YtmonaiojejbhkaaCplx
namespace Go.Proofs.Ytmonaiojejbhkaa
open Sets

/-! ### subsets by bits -/

theorem sub_iff (a b : Nat) : sub a b = true ↔ ∀ i, a.testBit i = true → b.testBit i = true := by
  unfold sub
  rw [beq_iff_eq]
  constructor
  · intro h i hi
    have := congrArg (fun x => x.testBit i) h
    simp only [Nat.testBit_and] at this
    rw [hi] at this
    simpa using this
  · intro h
    apply Nat.eq_of_testBit_eq
    intro i
    rw [Nat.testBit_and]
    cases ha : a.testBit i with
    | false => rfl
    | true => rw [h i ha]; rfl
theorem sub_refl (a : Nat) : sub a a = true := by unfold sub; simp
theorem sub_trans {a b c : Nat} (h : sub a b = true) (k : sub b c = true) : sub a c = true := by
  rw [sub_iff] at *; exact fun i hi => k i (h i hi)
theorem sub_anti {a b : Nat} (h : sub a b = true) (k : sub b a = true) : a = b := by
  rw [sub_iff] at *
  apply Nat.eq_of_testBit_eq
  intro i
  rw [Bool.eq_iff_iff]
  exact ⟨h i, k i⟩
theorem sub_le {a b : Nat} (h : sub a b = true) : a ≤ b := by
  unfold sub at h
  rw [beq_iff_eq] at h
  rw [← h]; exact Nat.and_le_right
theorem sub_and (t f s : Nat) : sub t (f &&& s) = (sub t f && sub t s) := by
  rw [Bool.eq_iff_iff, Bool.and_eq_true, sub_iff, sub_iff, sub_iff]
  constructor
  · intro h
    refine ⟨fun i hi => ?_, fun i hi => ?_⟩ <;>
    · have := h i hi
      rw [Nat.testBit_and, Bool.and_eq_true] at this
      first | exact this.1 | exact this.2
  · intro h i hi
    rw [Nat.testBit_and, h.1 i hi, h.2 i hi]; rfl
theorem sub_or (t s f : Nat) : sub (t ||| s) f = (sub t f && sub s f) := by
  rw [Bool.eq_iff_iff, Bool.and_eq_true, sub_iff, sub_iff, sub_iff]
  constructor
  · intro h
    refine ⟨fun i hi => h i ?_, fun i hi => h i ?_⟩ <;> (rw [Nat.testBit_or, hi]; simp)
  · intro h i hi
    rw [Nat.testBit_or, Bool.or_eq_true] at hi
    rcases hi with e | e
    · exact h.1 i e
    · exact h.2 i e
/-- No point in common. -/
def apart (t s : Nat) : Bool := t &&& s == 0
theorem apart_iff (t s : Nat) : apart t s = true ↔ ∀ i, ¬(t.testBit i = true ∧ s.testBit i = true) := by
  unfold apart
  rw [beq_iff_eq]
  constructor
  · intro h i ⟨h1, h2⟩
    have := congrArg (fun x => x.testBit i) h
    simp only [Nat.testBit_and, Nat.zero_testBit, h1, h2] at this
    cases this
  · intro h
    apply Nat.eq_of_testBit_eq
    intro i
    rw [Nat.testBit_and, Nat.zero_testBit]
    cases h1 : t.testBit i with
    | false => rfl
    | true =>
      cases h2 : s.testBit i with
      | false => rfl
      | true => exact absurd ⟨h1, h2⟩ (h i)
theorem take_away (f s : Nat) (hf : f < 64) (hs : s < 64) (h : sub s f = true) : f - s = f ^^^ s := by
  have H : ∀ f s : Fin 64, sub s.val f.val = true → f.val - s.val = f.val ^^^ s.val := by decide +kernel
  exact H ⟨f, hf⟩ ⟨s, hs⟩ h
theorem sub_xor (t f s : Nat) (h : sub s f = true) : sub t (f ^^^ s) = (apart t s && sub t f) := by
  rw [sub_iff] at h
  rw [Bool.eq_iff_iff, Bool.and_eq_true, sub_iff, sub_iff, apart_iff]
  constructor
  · intro k
    refine ⟨fun i ⟨h1, h2⟩ => ?_, fun i hi => ?_⟩
    · have := k i h1
      rw [Nat.testBit_xor, h2, h i h2] at this
      cases this
    · have := k i hi
      rw [Nat.testBit_xor] at this
      cases h2 : s.testBit i with
      | true => exact h i h2
      | false => rw [h2] at this; simpa using this
  · rintro ⟨k1, k2⟩ i hi
    rw [Nat.testBit_xor, k2 i hi]
    cases h2 : s.testBit i with
    | true => exact absurd ⟨hi, h2⟩ (k1 i)
    | false => rfl
theorem apart_mono {t u s : Nat} (h : sub t u = true) (k : apart u s = true) : apart t s = true := by
  rw [sub_iff] at h; rw [apart_iff] at *
  exact fun i ⟨h1, h2⟩ => k i ⟨h i h1, h2⟩

/-! ### families closed downwards -/

def Down (q : Nat → Bool) : Prop := ∀ s t, s < 64 → t < 64 → sub s t = true → q t = true → q s = true
theorem inF_iff (xs : List Int) (s : Nat) : inF xs s = true ↔ ∃ f, f ∈ xs ∧ sub s f.toNat = true := by unfold inF; rw [List.any_eq_true]
theorem inF_down (xs : List Int) : Down (inF xs) := fun s t _ _ h k => by
  rw [inF_iff] at *
  obtain ⟨f, hf, e⟩ := k
  exact ⟨f, hf, sub_trans h e⟩
/-- The greatest sets of a family, in order. -/
def maxQ (q : Nat → Bool) : List Int := ord fun s => q s && (List.range 64).all fun t => !(q t && sub s t && t != s)
theorem mem_maxQ (q : Nat → Bool) (x : Int) : x ∈ maxQ q ↔ ∃ s : Nat, x = (s : Int) ∧ s < 64 ∧ q s = true ∧ ∀ t, t < 64 → q t = true → sub s t = true → t = s := by
  unfold maxQ
  rw [mem_ord]
  constructor
  · rintro ⟨s, rfl, hs, h⟩
    rw [Bool.and_eq_true, List.all_eq_true] at h
    refine ⟨s, rfl, hs, h.1, fun t ht h1 h2 => ?_⟩
    have := h.2 t (List.mem_range.2 ht)
    rw [h1, h2] at this
    simpa using this
  · rintro ⟨s, rfl, hs, h1, h2⟩
    refine ⟨s, rfl, hs, ?_⟩
    rw [Bool.and_eq_true, List.all_eq_true]
    refine ⟨h1, fun t ht => ?_⟩
    rw [Bool.not_eq_true', Bool.and_eq_false_iff]
    cases e1 : q t with
    | false => left; rfl
    | true =>
      cases e2 : sub s t with
      | false => left; rfl
      | true => right; rw [h2 t (List.mem_range.1 ht) e1 e2]; simp
theorem maxQ_congr {p q : Nat → Bool} (h : ∀ s, s < 64 → p s = q s) : maxQ p = maxQ q := by
  refine rises_eq _ _ (ord_rises _) (ord_rises _) fun x => ?_
  rw [mem_maxQ, mem_maxQ]
  constructor
  · rintro ⟨s, e, hs, h1, h2⟩
    exact ⟨s, e, hs, by rw [← h s hs]; exact h1, fun t ht k1 k2 => h2 t ht (by rw [h t ht]; exact k1) k2⟩
  · rintro ⟨s, e, hs, h1, h2⟩
    exact ⟨s, e, hs, by rw [h s hs]; exact h1, fun t ht k1 k2 => h2 t ht (by rw [← h t ht]; exact k1) k2⟩
theorem ok_nat {x : Int} {A : List Int} (h : allOk A = true) (hx : x ∈ A) : ∃ s : Nat, x = (s : Int) ∧ s < 64 := by
  unfold allOk at h
  exact okZ_cast x (List.all_eq_true.1 h x hx)
/-- The maximal sets of a list are told by what lies in it. -/
theorem maximal_maxQ (A : List Int) (h : allOk A = true) : maximal A = maxQ (inF A) := by
  refine rises_eq _ _ ?_ (ord_rises _) fun x => ?_
  · unfold maximal best
    exact List.Pairwise.filter _ (order_rises A)
  rw [mem_maxQ]
  unfold maximal best
  rw [List.mem_filter, order_iff A h]
  constructor
  · rintro ⟨hx, hu⟩
    obtain ⟨s, rfl, hs⟩ := ok_nat h hx
    refine ⟨s, rfl, hs, (inF_iff A s).2 ⟨_, hx, sub_refl s⟩, fun t ht h1 h2 => ?_⟩
    obtain ⟨f, hf, e⟩ := (inF_iff A t).1 h1
    obtain ⟨u, rfl, hu64⟩ := ok_nat h hf
    have e : sub t u = true := e
    by_cases hne : u = s
    · subst hne; exact sub_anti e h2
    · unfold unbeaten at hu
      have := List.all_eq_true.1 hu (u : Int) ((order_iff A h _).2 hf)
      rw [Bool.not_eq_true', Bool.and_eq_false_iff] at this
      rcases this with k | k
      · have : (u : Int) = (s : Int) := by simpa using k
        omega
      · have k : sub s u = false := k
        rw [sub_trans h2 e] at k; cases k
  · rintro ⟨s, rfl, hs, h1, h2⟩
    obtain ⟨f, hf, e⟩ := (inF_iff A s).1 h1
    obtain ⟨u, rfl, hu64⟩ := ok_nat h hf
    have e : sub s u = true := e
    have : u = s := h2 u hu64 ((inF_iff A u).2 ⟨_, hf, sub_refl u⟩) e
    subst this
    refine ⟨hf, ?_⟩
    unfold unbeaten
    rw [List.all_eq_true]
    intro y hy
    have hy := (order_iff A h y).1 hy
    obtain ⟨v, rfl, hv⟩ := ok_nat h hy
    rw [Bool.not_eq_true', Bool.and_eq_false_iff]
    by_cases hne : v = u
    · left; subst hne; simp
    · right
      rw [Bool.eq_false_iff]
      intro k
      exact hne (h2 v hv ((inF_iff A v).2 ⟨_, hy, sub_refl v⟩) k)
theorem inF_ord (q : Nat → Bool) (hd : Down q) (t : Nat) (ht : t < 64) : inF (ord q) t = q t := by
  rw [Bool.eq_iff_iff, inF_iff]
  constructor
  · rintro ⟨f, hf, e⟩
    obtain ⟨u, rfl, hu, hq⟩ := (mem_ord q f).1 hf
    exact hd t u ht hu e hq
  · intro h
    exact ⟨(t : Int), (mem_ord q _).2 ⟨t, rfl, ht, h⟩, sub_refl t⟩
theorem ord_ok (q : Nat → Bool) : allOk (ord q) = true := by
  unfold allOk
  rw [List.all_eq_true]
  intro x hx
  obtain ⟨s, rfl, hs, _⟩ := (mem_ord q x).1 hx
  exact (okZ_nat s).2 hs
theorem maximal_ord (q : Nat → Bool) (hd : Down q) : maximal (ord q) = maxQ q := by
  rw [maximal_maxQ _ (ord_ok q)]
  exact maxQ_congr fun s hs => inF_ord q hd s hs
/-- Each set of a family lies in a greatest one. -/
theorem maxQ_above (q : Nat → Bool) : ∀ (m t : Nat), t < 64 → 64 - t ≤ m → q t = true → ∃ u : Nat, u < 64 ∧ (u : Int) ∈ maxQ q ∧ sub t u = true
  | 0, t, ht, hm, _ => by omega
  | m + 1, t, ht, hm, hq => by
    by_cases h : ∀ v, v < 64 → q v = true → sub t v = true → v = t
    · exact ⟨t, ht, (mem_maxQ q _).2 ⟨t, rfl, ht, hq, h⟩, sub_refl t⟩
    · have : ∃ v, v < 64 ∧ q v = true ∧ sub t v = true ∧ v ≠ t := by
        refine Classical.byContradiction fun k => h fun v h1 h2 h3 => Classical.byContradiction fun h4 => k ⟨v, h1, h2, h3, h4⟩
      obtain ⟨v, h1, h2, h3, h4⟩ := this
      have := sub_le h3
      obtain ⟨u, k1, k2, k3⟩ := maxQ_above q m v h1 (by omega) h2
      exact ⟨u, k1, k2, sub_trans h3 k3⟩
theorem inF_maxQ (q : Nat → Bool) (hd : Down q) (t : Nat) (ht : t < 64) : inF (maxQ q) t = q t := by
  rw [Bool.eq_iff_iff, inF_iff]
  constructor
  · rintro ⟨f, hf, e⟩
    obtain ⟨u, rfl, hu, hq, _⟩ := (mem_maxQ q f).1 hf
    exact hd t u ht hu e hq
  · intro h
    obtain ⟨u, _, h2, h3⟩ := maxQ_above q 64 t ht (by omega) h
    exact ⟨_, h2, h3⟩
theorem maxQ_le (q : Nat → Bool) : (maxQ q).length ≤ 64 := ord_le _
theorem maxQ_ok (q : Nat → Bool) : allOk (maxQ q) = true := ord_ok _
/-- A complex is told by its faces. -/
theorem isC_maxQ {n : Int} {xs : List Int} (h : isC n xs = true) : maxQ (inF xs) = xs := by
  rw [← maximal_maxQ xs (isC_ok h), maximal_self h]
theorem maxQ_isC (n : Int) (q : Nat → Bool) (h1 : 1 ≤ n) (h2 : n ≤ 6) (hd : Down q) (h : ∀ s, s < 64 → q s = true → setB n (s : Int) = true) : isC n (maxQ q) = true := by
  rw [← maximal_ord q hd]
  refine isC_maximal n _ h1 h2 fun x hx => ?_
  obtain ⟨s, rfl, hs, hq⟩ := (mem_ord q x).1 hx
  exact h s hs hq
theorem maxQ_faces (n : Int) (q : Nat → Bool) (hd : Down q) (hc : isC n (maxQ q) = true) : faces n (maxQ q) = ord q := by
  unfold faces
  rw [if_pos hc]
  exact ord_congr fun t ht => inF_maxQ q hd t ht
/-- Faces of a complex are sets of its points. -/
theorem setB_sub {n : Int} {s t : Nat} (h : setB n (t : Int) = true) (k : sub s t = true) : setB n (s : Int) = true := by
  rw [setB_iff] at *
  have := sub_le k
  exact ⟨h.1, h.2.1, by omega, by have := h.2.2.2; omega⟩
theorem inF_set {n : Int} {xs : List Int} (h : isC n xs = true) (s : Nat) (k : inF xs s = true) : setB n (s : Int) = true := by
  obtain ⟨f, hf, e⟩ := (inF_iff xs s).1 k
  obtain ⟨t, rfl, _⟩ := ok_nat (isC_ok h) hf
  exact setB_sub (isC_set h _ hf) e

/-! ### the parts -/

def linkQ (xs : List Int) (s t : Nat) : Bool := apart t s && inF xs (t ||| s)
def starQ (xs : List Int) (s t : Nat) : Bool := inF xs (t ||| s)
def delQ (xs : List Int) (s t : Nat) : Bool := inF xs t && !sub s t
def skelQ (xs : List Int) (k : Int) (t : Nat) : Bool := inF xs t && decide ((pc t : Int) ≤ k)
def indQ (xs : List Int) (s t : Nat) : Bool := inF xs t && sub t s
def orQ (xs ys : List Int) (t : Nat) : Bool := inF xs t || inF ys t
def andQ (xs ys : List Int) (t : Nat) : Bool := inF xs t && inF ys t

theorem or_sub {s t : Nat} (h : sub s t = true) (u : Nat) : sub (s ||| u) (t ||| u) = true := by
  rw [sub_or, Bool.and_eq_true, sub_iff, sub_iff]
  rw [sub_iff] at h
  exact ⟨fun i hi => by rw [Nat.testBit_or, h i hi]; rfl, fun i hi => by rw [Nat.testBit_or, hi]; simp⟩
theorem inF_sub {xs : List Int} {s t : Nat} (h : sub s t = true) (k : inF xs t = true) : inF xs s = true := by
  rw [inF_iff] at *
  obtain ⟨f, hf, e⟩ := k
  exact ⟨f, hf, sub_trans h e⟩
theorem starQ_down (xs : List Int) (u : Nat) : Down (starQ xs u) := fun s t _ _ h k => by
  unfold starQ at *
  exact inF_sub (or_sub h u) k
theorem linkQ_down (xs : List Int) (u : Nat) : Down (linkQ xs u) := fun s t hs ht h k => by
  unfold linkQ at *
  rw [Bool.and_eq_true] at *
  exact ⟨apart_mono h k.1, starQ_down xs u s t hs ht h k.2⟩
theorem delQ_down (xs : List Int) (u : Nat) : Down (delQ xs u) := fun s t _ _ h k => by
  unfold delQ at *
  rw [Bool.and_eq_true, Bool.not_eq_true'] at *
  refine ⟨inF_sub h k.1, ?_⟩
  rw [Bool.eq_false_iff]; intro e
  rw [sub_trans e h] at k; cases k.2
theorem pc_sub {s t : Nat} (hs : s < 64) (ht : t < 64) (h : sub s t = true) : pc s ≤ pc t := by
  rcases sub_pc s t hs ht h with e | e
  · omega
  · rw [e]; exact Nat.le_refl _
theorem skelQ_down (xs : List Int) (k : Int) : Down (skelQ xs k) := fun s t hs ht h e => by
  unfold skelQ at *
  rw [Bool.and_eq_true, decide_eq_true_iff] at *
  have := pc_sub hs ht h
  exact ⟨inF_sub h e.1, by omega⟩
theorem indQ_down (xs : List Int) (u : Nat) : Down (indQ xs u) := fun s t _ _ h k => by
  unfold indQ at *
  rw [Bool.and_eq_true] at *
  exact ⟨inF_sub h k.1, sub_trans h k.2⟩
theorem orQ_down (xs ys : List Int) : Down (orQ xs ys) := fun s t _ _ h k => by
  unfold orQ at *
  rw [Bool.or_eq_true] at *
  exact k.imp (inF_sub h) (inF_sub h)
theorem andQ_down (xs ys : List Int) : Down (andQ xs ys) := fun s t _ _ h k => by
  unfold andQ at *
  rw [Bool.and_eq_true] at *
  exact ⟨inF_sub h k.1, inF_sub h k.2⟩

/-- A part: a complex of n points, or none. -/
def partO (ok : Bool) (n : Int) (q : Nat → Bool) : Option (Int × List Int) := if ok = true then some (n, maxQ q) else none
def linkO (n : Int) (xs : List Int) (s : Int) := partO (isC n xs && setB n s) n (linkQ xs s.toNat)
def starO (n : Int) (xs : List Int) (s : Int) := partO (isC n xs && setB n s) n (starQ xs s.toNat)
def delO (n : Int) (xs : List Int) (s : Int) := partO (isC n xs && setB n s) n (delQ xs s.toNat)
def skelO (n : Int) (xs : List Int) (k : Int) := partO (isC n xs && inB 0 6 k) n (skelQ xs k)
def indO (n : Int) (xs : List Int) (s : Int) := partO (isC n xs && setB n s) n (indQ xs s.toNat)
def bothOk (n m : Int) (xs ys : List Int) : Bool := isC n xs && isC m ys && n == m
def unionO (n m : Int) (xs ys : List Int) := partO (bothOk n m xs ys) n (orQ xs ys)
def meetO (n m : Int) (xs ys : List Int) := partO (bothOk n m xs ys) n (andQ xs ys)

end Go.Proofs.Ytmonaiojejbhkaa
