/-
  TEXTS of one claim, put together: Part, Lin1.
-/
import Derived.Test.YthobncbggaggjaaJg2
import Derived.Test.YthobncbggaggjaaJg0
/-! PARTS OF COMPLEXES, of no program: families of sets by predicates, their greatest sets. -/

namespace Go.Proofs.Ythobncbggaggjaa
open Sets

/-! ### subsets by bits -/

theorem sub_iff (a b : Nat) : sub a b = true ↔ ∀ i, a.testBit i = true → b.testBit i = true := by
  unfold sub
  rw [beq_iff_eq]
  constructor
  · intro h i hi
    have := congrArg (fun x => x.testBit i) h
    simp only [Nat.testBit_and] at this
    rw [hi] at this
    simpa using this
  · intro h
    apply Nat.eq_of_testBit_eq
    intro i
    rw [Nat.testBit_and]
    cases ha : a.testBit i with
    | false => rfl
    | true => rw [h i ha]; rfl
theorem sub_refl (a : Nat) : sub a a = true := by unfold sub; simp
theorem sub_trans {a b c : Nat} (h : sub a b = true) (k : sub b c = true) : sub a c = true := by
  rw [sub_iff] at *; exact fun i hi => k i (h i hi)
theorem sub_anti {a b : Nat} (h : sub a b = true) (k : sub b a = true) : a = b := by
  rw [sub_iff] at *
  apply Nat.eq_of_testBit_eq
  intro i
  rw [Bool.eq_iff_iff]
  exact ⟨h i, k i⟩
theorem sub_le {a b : Nat} (h : sub a b = true) : a ≤ b := by
  unfold sub at h
  rw [beq_iff_eq] at h
  rw [← h]; exact Nat.and_le_right
theorem sub_and (t f s : Nat) : sub t (f &&& s) = (sub t f && sub t s) := by
  rw [Bool.eq_iff_iff, Bool.and_eq_true, sub_iff, sub_iff, sub_iff]
  constructor
  · intro h
    refine ⟨fun i hi => ?_, fun i hi => ?_⟩ <;>
    · have := h i hi
      rw [Nat.testBit_and, Bool.and_eq_true] at this
      first | exact this.1 | exact this.2
  · intro h i hi
    rw [Nat.testBit_and, h.1 i hi, h.2 i hi]; rfl
theorem sub_or (t s f : Nat) : sub (t ||| s) f = (sub t f && sub s f) := by
  rw [Bool.eq_iff_iff, Bool.and_eq_true, sub_iff, sub_iff, sub_iff]
  constructor
  · intro h
    refine ⟨fun i hi => h i ?_, fun i hi => h i ?_⟩ <;> (rw [Nat.testBit_or, hi]; simp)
  · intro h i hi
    rw [Nat.testBit_or, Bool.or_eq_true] at hi
    rcases hi with e | e
    · exact h.1 i e
    · exact h.2 i e
/-- No point in common. -/
def apart (t s : Nat) : Bool := t &&& s == 0
theorem apart_iff (t s : Nat) : apart t s = true ↔ ∀ i, ¬(t.testBit i = true ∧ s.testBit i = true) := by
  unfold apart
  rw [beq_iff_eq]
  constructor
  · intro h i ⟨h1, h2⟩
    have := congrArg (fun x => x.testBit i) h
    simp only [Nat.testBit_and, Nat.zero_testBit, h1, h2] at this
    cases this
  · intro h
    apply Nat.eq_of_testBit_eq
    intro i
    rw [Nat.testBit_and, Nat.zero_testBit]
    cases h1 : t.testBit i with
    | false => rfl
    | true =>
      cases h2 : s.testBit i with
      | false => rfl
      | true => exact absurd ⟨h1, h2⟩ (h i)
theorem take_away (f s : Nat) (hf : f < 64) (hs : s < 64) (h : sub s f = true) : f - s = f ^^^ s := by
  have H : ∀ f s : Fin 64, sub s.val f.val = true → f.val - s.val = f.val ^^^ s.val := by decide +kernel
  exact H ⟨f, hf⟩ ⟨s, hs⟩ h
theorem sub_xor (t f s : Nat) (h : sub s f = true) : sub t (f ^^^ s) = (apart t s && sub t f) := by
  rw [sub_iff] at h
  rw [Bool.eq_iff_iff, Bool.and_eq_true, sub_iff, sub_iff, apart_iff]
  constructor
  · intro k
    refine ⟨fun i ⟨h1, h2⟩ => ?_, fun i hi => ?_⟩
    · have := k i h1
      rw [Nat.testBit_xor, h2, h i h2] at this
      cases this
    · have := k i hi
      rw [Nat.testBit_xor] at this
      cases h2 : s.testBit i with
      | true => exact h i h2
      | false => rw [h2] at this; simpa using this
  · rintro ⟨k1, k2⟩ i hi
    rw [Nat.testBit_xor, k2 i hi]
    cases h2 : s.testBit i with
    | true => exact absurd ⟨hi, h2⟩ (k1 i)
    | false => rfl
theorem apart_mono {t u s : Nat} (h : sub t u = true) (k : apart u s = true) : apart t s = true := by
  rw [sub_iff] at h; rw [apart_iff] at *
  exact fun i ⟨h1, h2⟩ => k i ⟨h i h1, h2⟩

/-! ### families closed downwards -/

def Down (q : Nat → Bool) : Prop := ∀ s t, s < 64 → t < 64 → sub s t = true → q t = true → q s = true
theorem inF_iff (xs : List Int) (s : Nat) : inF xs s = true ↔ ∃ f, f ∈ xs ∧ sub s f.toNat = true := by unfold inF; rw [List.any_eq_true]
theorem inF_down (xs : List Int) : Down (inF xs) := fun s t _ _ h k => by
  rw [inF_iff] at *
  obtain ⟨f, hf, e⟩ := k
  exact ⟨f, hf, sub_trans h e⟩
/-- The greatest sets of a family, in order. -/
def maxQ (q : Nat → Bool) : List Int := ord fun s => q s && (List.range 64).all fun t => !(q t && sub s t && t != s)
theorem mem_maxQ (q : Nat → Bool) (x : Int) : x ∈ maxQ q ↔ ∃ s : Nat, x = (s : Int) ∧ s < 64 ∧ q s = true ∧ ∀ t, t < 64 → q t = true → sub s t = true → t = s := by
  unfold maxQ
  rw [mem_ord]
  constructor
  · rintro ⟨s, rfl, hs, h⟩
    rw [Bool.and_eq_true, List.all_eq_true] at h
    refine ⟨s, rfl, hs, h.1, fun t ht h1 h2 => ?_⟩
    have := h.2 t (List.mem_range.2 ht)
    rw [h1, h2] at this
    simpa using this
  · rintro ⟨s, rfl, hs, h1, h2⟩
    refine ⟨s, rfl, hs, ?_⟩
    rw [Bool.and_eq_true, List.all_eq_true]
    refine ⟨h1, fun t ht => ?_⟩
    rw [Bool.not_eq_true', Bool.and_eq_false_iff]
    cases e1 : q t with
    | false => left; rfl
    | true =>
      cases e2 : sub s t with
      | false => left; rfl
      | true => right; rw [h2 t (List.mem_range.1 ht) e1 e2]; simp
theorem maxQ_congr {p q : Nat → Bool} (h : ∀ s, s < 64 → p s = q s) : maxQ p = maxQ q := by
  refine rises_eq _ _ (ord_rises _) (ord_rises _) fun x => ?_
  rw [mem_maxQ, mem_maxQ]
  constructor
  · rintro ⟨s, e, hs, h1, h2⟩
    exact ⟨s, e, hs, by rw [← h s hs]; exact h1, fun t ht k1 k2 => h2 t ht (by rw [h t ht]; exact k1) k2⟩
  · rintro ⟨s, e, hs, h1, h2⟩
    exact ⟨s, e, hs, by rw [h s hs]; exact h1, fun t ht k1 k2 => h2 t ht (by rw [← h t ht]; exact k1) k2⟩
theorem ok_nat {x : Int} {A : List Int} (h : allOk A = true) (hx : x ∈ A) : ∃ s : Nat, x = (s : Int) ∧ s < 64 := by
  unfold allOk at h
  exact okZ_cast x (List.all_eq_true.1 h x hx)
/-- The maximal sets of a list are told by what lies in it. -/
theorem maximal_maxQ (A : List Int) (h : allOk A = true) : maximal A = maxQ (inF A) := by
  refine rises_eq _ _ ?_ (ord_rises _) fun x => ?_
  · unfold maximal best
    exact List.Pairwise.filter _ (order_rises A)
  rw [mem_maxQ]
  unfold maximal best
  rw [List.mem_filter, order_iff A h]
  constructor
  · rintro ⟨hx, hu⟩
    obtain ⟨s, rfl, hs⟩ := ok_nat h hx
    refine ⟨s, rfl, hs, (inF_iff A s).2 ⟨_, hx, sub_refl s⟩, fun t ht h1 h2 => ?_⟩
    obtain ⟨f, hf, e⟩ := (inF_iff A t).1 h1
    obtain ⟨u, rfl, hu64⟩ := ok_nat h hf
    have e : sub t u = true := e
    by_cases hne : u = s
    · subst hne; exact sub_anti e h2
    · unfold unbeaten at hu
      have := List.all_eq_true.1 hu (u : Int) ((order_iff A h _).2 hf)
      rw [Bool.not_eq_true', Bool.and_eq_false_iff] at this
      rcases this with k | k
      · have : (u : Int) = (s : Int) := by simpa using k
        omega
      · have k : sub s u = false := k
        rw [sub_trans h2 e] at k; cases k
  · rintro ⟨s, rfl, hs, h1, h2⟩
    obtain ⟨f, hf, e⟩ := (inF_iff A s).1 h1
    obtain ⟨u, rfl, hu64⟩ := ok_nat h hf
    have e : sub s u = true := e
    have : u = s := h2 u hu64 ((inF_iff A u).2 ⟨_, hf, sub_refl u⟩) e
    subst this
    refine ⟨hf, ?_⟩
    unfold unbeaten
    rw [List.all_eq_true]
    intro y hy
    have hy := (order_iff A h y).1 hy
    obtain ⟨v, rfl, hv⟩ := ok_nat h hy
    rw [Bool.not_eq_true', Bool.and_eq_false_iff]
    by_cases hne : v = u
    · left; subst hne; simp
    · right
      rw [Bool.eq_false_iff]
      intro k
      exact hne (h2 v hv ((inF_iff A v).2 ⟨_, hy, sub_refl v⟩) k)
theorem inF_ord (q : Nat → Bool) (hd : Down q) (t : Nat) (ht : t < 64) : inF (ord q) t = q t := by
  rw [Bool.eq_iff_iff, inF_iff]
  constructor
  · rintro ⟨f, hf, e⟩
    obtain ⟨u, rfl, hu, hq⟩ := (mem_ord q f).1 hf
    exact hd t u ht hu e hq
  · intro h
    exact ⟨(t : Int), (mem_ord q _).2 ⟨t, rfl, ht, h⟩, sub_refl t⟩
theorem ord_ok (q : Nat → Bool) : allOk (ord q) = true := by
  unfold allOk
  rw [List.all_eq_true]
  intro x hx
  obtain ⟨s, rfl, hs, _⟩ := (mem_ord q x).1 hx
  exact (okZ_nat s).2 hs
theorem maximal_ord (q : Nat → Bool) (hd : Down q) : maximal (ord q) = maxQ q := by
  rw [maximal_maxQ _ (ord_ok q)]
  exact maxQ_congr fun s hs => inF_ord q hd s hs
/-- Each set of a family lies in a greatest one. -/
theorem maxQ_above (q : Nat → Bool) : ∀ (m t : Nat), t < 64 → 64 - t ≤ m → q t = true → ∃ u : Nat, u < 64 ∧ (u : Int) ∈ maxQ q ∧ sub t u = true
  | 0, t, ht, hm, _ => by omega
  | m + 1, t, ht, hm, hq => by
    by_cases h : ∀ v, v < 64 → q v = true → sub t v = true → v = t
    · exact ⟨t, ht, (mem_maxQ q _).2 ⟨t, rfl, ht, hq, h⟩, sub_refl t⟩
    · have : ∃ v, v < 64 ∧ q v = true ∧ sub t v = true ∧ v ≠ t := by
        refine Classical.byContradiction fun k => h fun v h1 h2 h3 => Classical.byContradiction fun h4 => k ⟨v, h1, h2, h3, h4⟩
      obtain ⟨v, h1, h2, h3, h4⟩ := this
      have := sub_le h3
      obtain ⟨u, k1, k2, k3⟩ := maxQ_above q m v h1 (by omega) h2
      exact ⟨u, k1, k2, sub_trans h3 k3⟩
theorem inF_maxQ (q : Nat → Bool) (hd : Down q) (t : Nat) (ht : t < 64) : inF (maxQ q) t = q t := by
  rw [Bool.eq_iff_iff, inF_iff]
  constructor
  · rintro ⟨f, hf, e⟩
    obtain ⟨u, rfl, hu, hq, _⟩ := (mem_maxQ q f).1 hf
    exact hd t u ht hu e hq
  · intro h
    obtain ⟨u, _, h2, h3⟩ := maxQ_above q 64 t ht (by omega) h
    exact ⟨_, h2, h3⟩
theorem maxQ_le (q : Nat → Bool) : (maxQ q).length ≤ 64 := ord_le _
theorem maxQ_ok (q : Nat → Bool) : allOk (maxQ q) = true := ord_ok _
/-- A complex is told by its faces. -/
theorem isC_maxQ {n : Int} {xs : List Int} (h : isC n xs = true) : maxQ (inF xs) = xs := by
  rw [← maximal_maxQ xs (isC_ok h), maximal_self h]
theorem maxQ_isC (n : Int) (q : Nat → Bool) (h1 : 1 ≤ n) (h2 : n ≤ 6) (hd : Down q) (h : ∀ s, s < 64 → q s = true → setB n (s : Int) = true) : isC n (maxQ q) = true := by
  rw [← maximal_ord q hd]
  refine isC_maximal n _ h1 h2 fun x hx => ?_
  obtain ⟨s, rfl, hs, hq⟩ := (mem_ord q x).1 hx
  exact h s hs hq
theorem maxQ_faces (n : Int) (q : Nat → Bool) (hd : Down q) (hc : isC n (maxQ q) = true) : faces n (maxQ q) = ord q := by
  unfold faces
  rw [if_pos hc]
  exact ord_congr fun t ht => inF_maxQ q hd t ht
/-- Faces of a complex are sets of its points. -/
theorem setB_sub {n : Int} {s t : Nat} (h : setB n (t : Int) = true) (k : sub s t = true) : setB n (s : Int) = true := by
  rw [setB_iff] at *
  have := sub_le k
  exact ⟨h.1, h.2.1, by omega, by have := h.2.2.2; omega⟩
theorem inF_set {n : Int} {xs : List Int} (h : isC n xs = true) (s : Nat) (k : inF xs s = true) : setB n (s : Int) = true := by
  obtain ⟨f, hf, e⟩ := (inF_iff xs s).1 k
  obtain ⟨t, rfl, _⟩ := ok_nat (isC_ok h) hf
  exact setB_sub (isC_set h _ hf) e

/-! ### the parts -/

def linkQ (xs : List Int) (s t : Nat) : Bool := apart t s && inF xs (t ||| s)
def starQ (xs : List Int) (s t : Nat) : Bool := inF xs (t ||| s)
def delQ (xs : List Int) (s t : Nat) : Bool := inF xs t && !sub s t
def skelQ (xs : List Int) (k : Int) (t : Nat) : Bool := inF xs t && decide ((pc t : Int) ≤ k)
def indQ (xs : List Int) (s t : Nat) : Bool := inF xs t && sub t s
def orQ (xs ys : List Int) (t : Nat) : Bool := inF xs t || inF ys t
def andQ (xs ys : List Int) (t : Nat) : Bool := inF xs t && inF ys t

theorem or_sub {s t : Nat} (h : sub s t = true) (u : Nat) : sub (s ||| u) (t ||| u) = true := by
  rw [sub_or, Bool.and_eq_true, sub_iff, sub_iff]
  rw [sub_iff] at h
  exact ⟨fun i hi => by rw [Nat.testBit_or, h i hi]; rfl, fun i hi => by rw [Nat.testBit_or, hi]; simp⟩
theorem inF_sub {xs : List Int} {s t : Nat} (h : sub s t = true) (k : inF xs t = true) : inF xs s = true := by
  rw [inF_iff] at *
  obtain ⟨f, hf, e⟩ := k
  exact ⟨f, hf, sub_trans h e⟩
theorem starQ_down (xs : List Int) (u : Nat) : Down (starQ xs u) := fun s t _ _ h k => by
  unfold starQ at *
  exact inF_sub (or_sub h u) k
theorem linkQ_down (xs : List Int) (u : Nat) : Down (linkQ xs u) := fun s t hs ht h k => by
  unfold linkQ at *
  rw [Bool.and_eq_true] at *
  exact ⟨apart_mono h k.1, starQ_down xs u s t hs ht h k.2⟩
theorem delQ_down (xs : List Int) (u : Nat) : Down (delQ xs u) := fun s t _ _ h k => by
  unfold delQ at *
  rw [Bool.and_eq_true, Bool.not_eq_true'] at *
  refine ⟨inF_sub h k.1, ?_⟩
  rw [Bool.eq_false_iff]; intro e
  rw [sub_trans e h] at k; cases k.2
theorem pc_sub {s t : Nat} (hs : s < 64) (ht : t < 64) (h : sub s t = true) : pc s ≤ pc t := by
  rcases sub_pc s t hs ht h with e | e
  · omega
  · rw [e]; exact Nat.le_refl _
theorem skelQ_down (xs : List Int) (k : Int) : Down (skelQ xs k) := fun s t hs ht h e => by
  unfold skelQ at *
  rw [Bool.and_eq_true, decide_eq_true_iff] at *
  have := pc_sub hs ht h
  exact ⟨inF_sub h e.1, by omega⟩
theorem indQ_down (xs : List Int) (u : Nat) : Down (indQ xs u) := fun s t _ _ h k => by
  unfold indQ at *
  rw [Bool.and_eq_true] at *
  exact ⟨inF_sub h k.1, sub_trans h k.2⟩
theorem orQ_down (xs ys : List Int) : Down (orQ xs ys) := fun s t _ _ h k => by
  unfold orQ at *
  rw [Bool.or_eq_true] at *
  exact k.imp (inF_sub h) (inF_sub h)
theorem andQ_down (xs ys : List Int) : Down (andQ xs ys) := fun s t _ _ h k => by
  unfold andQ at *
  rw [Bool.and_eq_true] at *
  exact ⟨inF_sub h k.1, inF_sub h k.2⟩

/-- A part: a complex of n points, or none. -/
def partO (ok : Bool) (n : Int) (q : Nat → Bool) : Option (Int × List Int) := if ok = true then some (n, maxQ q) else none
def linkO (n : Int) (xs : List Int) (s : Int) := partO (isC n xs && setB n s) n (linkQ xs s.toNat)
def starO (n : Int) (xs : List Int) (s : Int) := partO (isC n xs && setB n s) n (starQ xs s.toNat)
def delO (n : Int) (xs : List Int) (s : Int) := partO (isC n xs && setB n s) n (delQ xs s.toNat)
def skelO (n : Int) (xs : List Int) (k : Int) := partO (isC n xs && inB 0 6 k) n (skelQ xs k)
def indO (n : Int) (xs : List Int) (s : Int) := partO (isC n xs && setB n s) n (indQ xs s.toNat)
def bothOk (n m : Int) (xs ys : List Int) : Bool := isC n xs && isC m ys && n == m
def unionO (n m : Int) (xs ys : List Int) := partO (bothOk n m xs ys) n (orQ xs ys)
def meetO (n m : Int) (xs ys : List Int) := partO (bothOk n m xs ys) n (andQ xs ys)

end Go.Proofs.Ythobncbggaggjaa

/-! LINEAR ALGEBRA modulo a prime, of no program, part 1: counting (bijections, pairs, fibres), vectors, rows. -/

namespace Go.Proofs.Ythobncbggaggjaa
namespace Lin

/-- S has c elements. -/
def Card {α : Type} (S : α → Prop) (c : Nat) : Prop := ∃ l : List α, l.Nodup ∧ (∀ x, x ∈ l ↔ S x) ∧ l.length = c

theorem Card.unique {α : Type} {S : α → Prop} {c d : Nat} (h : Card S c) (h' : Card S d) : c = d := by
  obtain ⟨l, hn, hm, rfl⟩ := h
  obtain ⟨l', hn', hm', rfl⟩ := h'
  exact ((List.perm_ext_iff_of_nodup hn hn').2 fun a => by rw [hm, hm']).length_eq

theorem Card.congr {α : Type} {S T : α → Prop} {c : Nat} (h : Card S c) (e : ∀ x, S x ↔ T x) : Card T c := by
  obtain ⟨l, hn, hm, rfl⟩ := h
  exact ⟨l, hn, fun x => by rw [hm, e], rfl⟩

theorem nodup_map_of {α β : Type} (f : α → β) : ∀ (l : List α), l.Nodup → (∀ a ∈ l, ∀ b ∈ l, f a = f b → a = b) → (l.map f).Nodup := by
  intro l hl h
  unfold List.Nodup at hl ⊢
  rw [List.pairwise_map]
  exact hl.imp_of_mem fun ha hb hab he => hab (h _ ha _ hb he)

theorem Card.bij {α β : Type} {S : α → Prop} {T : β → Prop} {c : Nat} (h : Card S c) (f : α → β) (g : β → α) (hf : ∀ x, S x → T (f x)) (hg : ∀ y, T y → S (g y))
    (hgf : ∀ x, S x → g (f x) = x) (hfg : ∀ y, T y → f (g y) = y) : Card T c := by
  obtain ⟨l, hn, hm, rfl⟩ := h
  refine ⟨l.map f, nodup_map_of f l hn fun a ha b hb e => ?_, fun y => ?_, List.length_map ..⟩
  · rw [← hgf a ((hm a).1 ha), ← hgf b ((hm b).1 hb), e]
  · rw [List.mem_map]
    constructor
    · rintro ⟨x, hx, rfl⟩
      exact hf x ((hm x).1 hx)
    · intro hy
      exact ⟨g y, (hm _).2 (hg y hy), hfg y hy⟩

theorem Card.prod {α β : Type} {S : α → Prop} {T : β → Prop} {c d : Nat} (h : Card S c) (h' : Card T d) : Card (fun z : α × β => S z.1 ∧ T z.2) (c * d) := by
  obtain ⟨l, hn, hm, rfl⟩ := h
  obtain ⟨l', hn', hm', rfl⟩ := h'
  have key : ∀ l : List α, l.Nodup → (l.flatMap fun a => l'.map fun b => (a, b)).Nodup ∧ (∀ z, z ∈ (l.flatMap fun a => l'.map fun b => (a, b)) ↔ z.1 ∈ l ∧ z.2 ∈ l') ∧ (l.flatMap fun a => l'.map fun b => (a, b)).length = l.length * l'.length := by
    intro l
    induction l with
    | nil => intro _; exact ⟨List.nodup_nil, by simp, by simp⟩
    | cons a l ih =>
      intro hl
      obtain ⟨h1, h2⟩ := List.nodup_cons.1 hl
      obtain ⟨i1, i2, i3⟩ := ih h2
      rw [List.flatMap_cons]
      refine ⟨?_, ?_, ?_⟩
      · rw [List.nodup_append]
        refine ⟨nodup_map_of _ _ hn' (by simp), i1, ?_⟩
        intro x hx y hy e
        subst e
        rw [List.mem_map] at hx
        obtain ⟨b, _, rfl⟩ := hx
        exact h1 ((i2 _).1 hy).1
      · intro z
        rw [List.mem_append, i2, List.mem_map, List.mem_cons]
        obtain ⟨z1, z2⟩ := z
        simp only [Prod.mk.injEq]
        constructor
        · rintro (⟨b, hb, rfl, rfl⟩ | ⟨h, h'⟩)
          · exact ⟨.inl rfl, hb⟩
          · exact ⟨.inr h, h'⟩
        · rintro ⟨rfl | h, h'⟩
          · exact .inl ⟨z2, h', rfl, rfl⟩
          · exact .inr ⟨h, h'⟩
      · rw [List.length_append, i3, List.length_map, List.length_cons, Nat.add_mul, Nat.one_mul, Nat.add_comm]
  obtain ⟨k1, k2, k3⟩ := key l hn
  exact ⟨_, k1, fun z => by rw [k2, hm, hm'], k3⟩

/-- A set whose fibres under f have d elements each has d times as many as the image. -/
theorem Card.fibre {α β : Type} {S : α → Prop} {T : β → Prop} {c d : Nat} (f : α → β) (hT : Card T c) (hf : ∀ x, S x → T (f x)) (hd : ∀ y, T y → Card (fun x => S x ∧ f x = y) d) : Card S (c * d) := by
  obtain ⟨l, hn, hm, rfl⟩ := hT
  have key : ∀ l : List β, l.Nodup → (∀ y ∈ l, T y) → ∃ L : List α, L.Nodup ∧ (∀ x, x ∈ L ↔ S x ∧ f x ∈ l) ∧ L.length = l.length * d := by
    intro l
    induction l with
    | nil => intro _ _; exact ⟨[], List.nodup_nil, by simp, by simp⟩
    | cons y l ih =>
      intro hl hy
      obtain ⟨h1, h2⟩ := List.nodup_cons.1 hl
      obtain ⟨L, i1, i2, i3⟩ := ih h2 fun z hz => hy z (List.mem_cons_of_mem _ hz)
      obtain ⟨M, j1, j2, j3⟩ := hd y (hy y (List.mem_cons_self ..))
      refine ⟨M ++ L, ?_, fun x => ?_, ?_⟩
      · rw [List.nodup_append]
        refine ⟨j1, i1, fun a ha b hb e => ?_⟩
        subst e
        have e := ((j2 _).1 ha).2
        subst e
        exact h1 ((i2 _).1 hb).2
      · rw [List.mem_append, j2, i2, List.mem_cons]
        constructor
        · rintro (⟨a, b⟩ | ⟨a, b⟩)
          · exact ⟨a, .inl b⟩
          · exact ⟨a, .inr b⟩
        · rintro ⟨a, b | b⟩
          · exact .inl ⟨a, b⟩
          · exact .inr ⟨a, b⟩
      · rw [List.length_append, i3, j3, List.length_cons, Nat.add_mul, Nat.one_mul, Nat.add_comm]
  obtain ⟨L, k1, k2, k3⟩ := key l hn fun y hy => (hm y).1 hy
  exact ⟨L, k1, fun x => by rw [k2, hm]; exact ⟨fun h => h.1, fun h => ⟨h, hf x h⟩⟩, k3⟩

/-- The elements of a counted set that satisfy a condition are counted, too. -/
theorem Card.sub {α : Type} {S T : α → Prop} {c : Nat} (h : Card S c) (hT : ∀ x, T x → S x) : ∃ d, d ≤ c ∧ Card T d := by
  classical
  obtain ⟨l, hn, hm, rfl⟩ := h
  refine ⟨(l.filter fun x => decide (T x)).length, List.length_filter_le .., _, hn.filter _, fun x => ?_, rfl⟩
  rw [List.mem_filter, hm, decide_eq_true_eq]
  exact ⟨fun h => h.2, fun h => ⟨hT x h, h⟩⟩

theorem Card.pos {α : Type} {S : α → Prop} {c : Nat} (h : Card S c) (x : α) (hx : S x) : 0 < c := by
  obtain ⟨l, _, hm, rfl⟩ := h
  exact List.length_pos_of_mem ((hm x).2 hx)

/-- As many and contained: the same. -/
theorem Card.eq_of_le {α : Type} {S T : α → Prop} {c : Nat} (h : Card S c) (h' : Card T c) (hT : ∀ x, T x → S x) : ∀ x, S x → T x := by
  classical
  obtain ⟨l, hn, hm, hl⟩ := h
  intro x hx
  have hsub : Card T (l.filter fun x => decide (T x)).length := ⟨_, hn.filter _, fun x => by
    rw [List.mem_filter, hm, decide_eq_true_eq]
    exact ⟨fun h => h.2, fun h => ⟨hT x h, h⟩⟩, rfl⟩
  have e := h'.unique hsub
  rw [← hl] at e
  have := (List.length_filter_eq_length_iff.1 e.symm) x ((hm x).2 hx)
  exact of_decide_eq_true this

theorem pow_inj {p a b : Nat} (hp : 1 < p) (h : p ^ a = p ^ b) : a = b := by
  rcases Nat.lt_trichotomy a b with hh | hh | hh
  · exact absurd h (Nat.ne_of_lt (Nat.pow_lt_pow_right hp hh))
  · exact hh
  · exact absurd h.symm (Nat.ne_of_lt (Nat.pow_lt_pow_right hp hh))

/-! ### vectors -/

/-- x has numbers from 0 to p - 1 at the places J, and 0 elsewhere. -/
def Vec (p : Nat) (J : List Nat) (x : Nat → Int) : Prop := (∀ j ∈ J, 0 ≤ x j ∧ x j < p) ∧ ∀ j, j ∉ J → x j = 0

/-- The vector x with v at the place c. -/
def upd (x : Nat → Int) (c : Nat) (v : Int) : Nat → Int := fun j => if j = c then v else x j
theorem upd_same (x : Nat → Int) (c : Nat) (v : Int) : upd x c v c = v := if_pos rfl
theorem upd_other (x : Nat → Int) {c j : Nat} (v : Int) (h : j ≠ c) : upd x c v j = x j := if_neg h

theorem card_num (p : Nat) : Card (fun a : Int => 0 ≤ a ∧ a < p) p := by
  refine ⟨(List.range p).map Int.ofNat, nodup_map_of _ _ List.nodup_range fun a _ b _ e => Int.ofNat.inj e, fun x => ?_, by simp⟩
  rw [List.mem_map]
  constructor
  · rintro ⟨a, ha, rfl⟩
    have := List.mem_range.1 ha
    exact ⟨Int.natCast_nonneg a, Int.ofNat_lt.2 this⟩
  · rintro ⟨h0, h1⟩
    exact ⟨x.toNat, List.mem_range.2 (by omega), Int.toNat_of_nonneg h0⟩

theorem card_vec (p : Nat) : ∀ J : List Nat, J.Nodup → Card (Vec p J) (p ^ J.length)
  | [], _ => ⟨[fun _ => 0], by simp, fun x => by
      rw [List.mem_singleton]
      constructor
      · rintro rfl; exact ⟨by simp, fun _ _ => rfl⟩
      · intro h; exact funext fun j => h.2 j (by simp), rfl⟩
  | c :: J, h => by
    obtain ⟨h1, h2⟩ := List.nodup_cons.1 h
    have ih := card_vec p J h2
    have hp := (card_num p).prod ih
    rw [List.length_cons, Nat.pow_succ, Nat.mul_comm]
    refine hp.bij (fun z => upd z.2 c z.1) (fun x => (x c, upd x c 0)) ?_ ?_ ?_ ?_
    · rintro ⟨a, x⟩ ⟨ha, hx⟩
      dsimp only at ha hx ⊢
      refine ⟨fun j hj => ?_, fun j hj => ?_⟩
      · by_cases e : j = c
        · subst e; rw [upd_same]; exact ha
        · rw [upd_other _ _ e]; exact hx.1 j ((List.mem_cons.1 hj).resolve_left e)
      · rw [upd_other _ _ (fun e => hj (List.mem_cons.2 (.inl e)))]
        exact hx.2 j fun hm => hj (List.mem_cons_of_mem _ hm)
    · intro x hx
      refine ⟨hx.1 c (List.mem_cons_self ..), fun j hj => ?_, fun j hj => ?_⟩
      · dsimp only; rw [upd_other _ _ (fun e : j = c => h1 (e ▸ hj))]; exact hx.1 j (List.mem_cons_of_mem _ hj)
      · by_cases e : j = c
        · dsimp only; rw [e, upd_same]
        · dsimp only; rw [upd_other _ _ e]; exact hx.2 j fun hm => (List.mem_cons.1 hm).elim e hj
    · rintro ⟨a, x⟩ ⟨ha, hx⟩
      dsimp only
      rw [upd_same]
      congr 1
      funext j
      by_cases e : j = c
      · rw [e, upd_same]; exact (hx.2 c h1).symm
      · rw [upd_other _ _ e, upd_other _ _ e]
    · intro x hx
      dsimp only
      funext j
      by_cases e : j = c
      · rw [e, upd_same]
      · rw [upd_other _ _ e, upd_other _ _ e]

/-- The product of a row and a vector. -/
def dot : List Int → (Nat → Int) → Int
  | [], _ => 0
  | a :: r, x => a * x 0 + dot r (fun j => x (j + 1))

/-- The vectors that a matrix of n columns sends to 0. -/
def Ker (p : Nat) (n : Nat) (M : List (List Int)) (x : Nat → Int) : Prop := Vec p (List.range n) x ∧ ∀ r ∈ M, (p : Int) ∣ dot r x

def scl (p b : Int) (r : List Int) : List Int := r.map fun x => x * b % p
def elim (p f : Int) (x r : List Int) : List Int := List.zipWith (fun a b => (a - f * b) % p) x r

theorem dvd_emod_sub (a p : Int) : p ∣ a % p - a := ⟨-(a / p), by have := Int.emod_add_mul_ediv a p; grind⟩
theorem dvd_of_emod {a b p : Int} (h : p ∣ a - b) : p ∣ a ↔ p ∣ b := by
  obtain ⟨k, hk⟩ := h
  constructor
  · rintro ⟨m, hm⟩; exact ⟨m - k, by grind⟩
  · rintro ⟨m, hm⟩; exact ⟨m + k, by grind⟩

theorem dot_scl (p b : Int) : ∀ (r : List Int) (x : Nat → Int), p ∣ dot (scl p b r) x - b * dot r x
  | [], x => ⟨0, by simp [scl, dot]⟩
  | a :: r, x => by
    obtain ⟨k, hk⟩ := dot_scl p b r fun j => x (j + 1)
    obtain ⟨m, hm⟩ := dvd_emod_sub (a * b) p
    refine ⟨m * x 0 + k, ?_⟩
    show (a * b % p * x 0 + dot (scl p b r) fun j => x (j + 1)) - b * (a * x 0 + dot r fun j => x (j + 1)) = _
    grind

theorem dot_elim (p f : Int) : ∀ (u r : List Int) (x : Nat → Int), u.length = r.length → p ∣ dot (elim p f u r) x - (dot u x - f * dot r x)
  | [], [], x, _ => ⟨0, by simp [elim, dot]⟩
  | [], _ :: _, _, h => by simp at h
  | _ :: _, [], _, h => by simp at h
  | a :: u, b :: r, x, h => by
    obtain ⟨k, hk⟩ := dot_elim p f u r (fun j => x (j + 1)) (by simpa using h)
    obtain ⟨m, hm⟩ := dvd_emod_sub (a - f * b) p
    refine ⟨m * x 0 + k, ?_⟩
    show ((a - f * b) % p * x 0 + dot (elim p f u r) fun j => x (j + 1)) - ((a * x 0 + dot u fun j => x (j + 1)) - f * (b * x 0 + dot r fun j => x (j + 1))) = _
    grind

theorem dot_zero : ∀ r : List Int, dot r (fun _ => 0) = 0
  | [] => rfl
  | a :: r => by show a * 0 + dot r (fun _ => 0) = 0; rw [dot_zero r]; simp

theorem dot_congr : ∀ (r : List Int) (x y : Nat → Int), (∀ j, j < r.length → x j = y j) → dot r x = dot r y
  | [], _, _, _ => rfl
  | a :: r, x, y, h => by
    show a * x 0 + _ = a * y 0 + _
    rw [h 0 (by simp), dot_congr r (fun j => x (j + 1)) (fun j => y (j + 1)) fun j hj => h (j + 1) (by simpa using hj)]

theorem dot_upd : ∀ (r : List Int) (x : Nat → Int) (c : Nat) (v : Int), dot r (upd x c v) = dot r x + r.getD c 0 * (v - x c)
  | [], x, c, v => by simp [dot]
  | a :: r, x, 0, v => by
    show a * upd x 0 v 0 + dot r (fun j => upd x 0 v (j + 1)) = _
    rw [upd_same, show (fun j => upd x 0 v (j + 1)) = fun j => x (j + 1) from funext fun j => upd_other _ _ (by omega)]
    show _ = (a * x 0 + dot r fun j => x (j + 1)) + a * (v - x 0)
    grind
  | a :: r, x, c + 1, v => by
    show a * upd x (c + 1) v 0 + dot r (fun j => upd x (c + 1) v (j + 1)) = _
    rw [upd_other _ _ (by omega), show (fun j => upd x (c + 1) v (j + 1)) = upd (fun j => x (j + 1)) c v from funext fun j => by unfold upd; simp, dot_upd r]
    show _ = (a * x 0 + dot r fun j => x (j + 1)) + r.getD c 0 * (v - x (c + 1))
    grind

/-! ### what the steps leave as it is -/

theorem dvd_cancel {p f b y : Int} (h : p ∣ f * b - 1) : p ∣ b * y ↔ p ∣ y := by
  obtain ⟨k, hk⟩ := h
  constructor
  · rintro ⟨m, hm⟩; exact ⟨f * m - k * y, by grind⟩
  · rintro ⟨m, hm⟩; exact ⟨b * m, by grind⟩

theorem ker_scl {p f b : Int} (h : p ∣ f * b - 1) (r : List Int) (x : Nat → Int) : p ∣ dot (scl p b r) x ↔ p ∣ dot r x := by
  rw [dvd_of_emod (dot_scl p b r x), dvd_cancel h]

theorem ker_elim {p f : Int} (u r : List Int) (x : Nat → Int) (hl : u.length = r.length) (hr : p ∣ dot r x) : p ∣ dot (elim p f u r) x ↔ p ∣ dot u x := by
  rw [dvd_of_emod (dot_elim p f u r x hl)]
  obtain ⟨k, hk⟩ := hr
  constructor
  · rintro ⟨m, hm⟩; exact ⟨m + f * k, by grind⟩
  · rintro ⟨m, hm⟩; exact ⟨m - f * k, by grind⟩

end Lin
end Go.Proofs.Ythobncbggaggjaa
