/-
  TEXTS of one claim, put together: Part, WSet3, WCx1, WWhere.
-/
import Derived.Test.YtfnpkglijknnoaaJg2
import Derived.Laws.ResultCell
import Derived.WalkMore
import Derived.Shelf.Abstract
/-! PARTS OF COMPLEXES, of no program: families of sets by predicates, their greatest sets. -/

namespace Go.Proofs.Ytfnpkglijknnoaa
open Sets

/-! ### subsets by bits -/

theorem sub_iff (a b : Nat) : sub a b = true ↔ ∀ i, a.testBit i = true → b.testBit i = true := by
  unfold sub
  rw [beq_iff_eq]
  constructor
  · intro h i hi
    have := congrArg (fun x => x.testBit i) h
    simp only [Nat.testBit_and] at this
    rw [hi] at this
    simpa using this
  · intro h
    apply Nat.eq_of_testBit_eq
    intro i
    rw [Nat.testBit_and]
    cases ha : a.testBit i with
    | false => rfl
    | true => rw [h i ha]; rfl
theorem sub_refl (a : Nat) : sub a a = true := by unfold sub; simp
theorem sub_trans {a b c : Nat} (h : sub a b = true) (k : sub b c = true) : sub a c = true := by
  rw [sub_iff] at *; exact fun i hi => k i (h i hi)
theorem sub_anti {a b : Nat} (h : sub a b = true) (k : sub b a = true) : a = b := by
  rw [sub_iff] at *
  apply Nat.eq_of_testBit_eq
  intro i
  rw [Bool.eq_iff_iff]
  exact ⟨h i, k i⟩
theorem sub_le {a b : Nat} (h : sub a b = true) : a ≤ b := by
  unfold sub at h
  rw [beq_iff_eq] at h
  rw [← h]; exact Nat.and_le_right
theorem sub_and (t f s : Nat) : sub t (f &&& s) = (sub t f && sub t s) := by
  rw [Bool.eq_iff_iff, Bool.and_eq_true, sub_iff, sub_iff, sub_iff]
  constructor
  · intro h
    refine ⟨fun i hi => ?_, fun i hi => ?_⟩ <;>
    · have := h i hi
      rw [Nat.testBit_and, Bool.and_eq_true] at this
      first | exact this.1 | exact this.2
  · intro h i hi
    rw [Nat.testBit_and, h.1 i hi, h.2 i hi]; rfl
theorem sub_or (t s f : Nat) : sub (t ||| s) f = (sub t f && sub s f) := by
  rw [Bool.eq_iff_iff, Bool.and_eq_true, sub_iff, sub_iff, sub_iff]
  constructor
  · intro h
    refine ⟨fun i hi => h i ?_, fun i hi => h i ?_⟩ <;> (rw [Nat.testBit_or, hi]; simp)
  · intro h i hi
    rw [Nat.testBit_or, Bool.or_eq_true] at hi
    rcases hi with e | e
    · exact h.1 i e
    · exact h.2 i e
/-- No point in common. -/
def apart (t s : Nat) : Bool := t &&& s == 0
theorem apart_iff (t s : Nat) : apart t s = true ↔ ∀ i, ¬(t.testBit i = true ∧ s.testBit i = true) := by
  unfold apart
  rw [beq_iff_eq]
  constructor
  · intro h i ⟨h1, h2⟩
    have := congrArg (fun x => x.testBit i) h
    simp only [Nat.testBit_and, Nat.zero_testBit, h1, h2] at this
    cases this
  · intro h
    apply Nat.eq_of_testBit_eq
    intro i
    rw [Nat.testBit_and, Nat.zero_testBit]
    cases h1 : t.testBit i with
    | false => rfl
    | true =>
      cases h2 : s.testBit i with
      | false => rfl
      | true => exact absurd ⟨h1, h2⟩ (h i)
theorem take_away (f s : Nat) (hf : f < 64) (hs : s < 64) (h : sub s f = true) : f - s = f ^^^ s := by
  have H : ∀ f s : Fin 64, sub s.val f.val = true → f.val - s.val = f.val ^^^ s.val := by decide +kernel
  exact H ⟨f, hf⟩ ⟨s, hs⟩ h
theorem sub_xor (t f s : Nat) (h : sub s f = true) : sub t (f ^^^ s) = (apart t s && sub t f) := by
  rw [sub_iff] at h
  rw [Bool.eq_iff_iff, Bool.and_eq_true, sub_iff, sub_iff, apart_iff]
  constructor
  · intro k
    refine ⟨fun i ⟨h1, h2⟩ => ?_, fun i hi => ?_⟩
    · have := k i h1
      rw [Nat.testBit_xor, h2, h i h2] at this
      cases this
    · have := k i hi
      rw [Nat.testBit_xor] at this
      cases h2 : s.testBit i with
      | true => exact h i h2
      | false => rw [h2] at this; simpa using this
  · rintro ⟨k1, k2⟩ i hi
    rw [Nat.testBit_xor, k2 i hi]
    cases h2 : s.testBit i with
    | true => exact absurd ⟨hi, h2⟩ (k1 i)
    | false => rfl
theorem apart_mono {t u s : Nat} (h : sub t u = true) (k : apart u s = true) : apart t s = true := by
  rw [sub_iff] at h; rw [apart_iff] at *
  exact fun i ⟨h1, h2⟩ => k i ⟨h i h1, h2⟩

/-! ### families closed downwards -/

def Down (q : Nat → Bool) : Prop := ∀ s t, s < 64 → t < 64 → sub s t = true → q t = true → q s = true
theorem inF_iff (xs : List Int) (s : Nat) : inF xs s = true ↔ ∃ f, f ∈ xs ∧ sub s f.toNat = true := by unfold inF; rw [List.any_eq_true]
theorem inF_down (xs : List Int) : Down (inF xs) := fun s t _ _ h k => by
  rw [inF_iff] at *
  obtain ⟨f, hf, e⟩ := k
  exact ⟨f, hf, sub_trans h e⟩
/-- The greatest sets of a family, in order. -/
def maxQ (q : Nat → Bool) : List Int := ord fun s => q s && (List.range 64).all fun t => !(q t && sub s t && t != s)
theorem mem_maxQ (q : Nat → Bool) (x : Int) : x ∈ maxQ q ↔ ∃ s : Nat, x = (s : Int) ∧ s < 64 ∧ q s = true ∧ ∀ t, t < 64 → q t = true → sub s t = true → t = s := by
  unfold maxQ
  rw [mem_ord]
  constructor
  · rintro ⟨s, rfl, hs, h⟩
    rw [Bool.and_eq_true, List.all_eq_true] at h
    refine ⟨s, rfl, hs, h.1, fun t ht h1 h2 => ?_⟩
    have := h.2 t (List.mem_range.2 ht)
    rw [h1, h2] at this
    simpa using this
  · rintro ⟨s, rfl, hs, h1, h2⟩
    refine ⟨s, rfl, hs, ?_⟩
    rw [Bool.and_eq_true, List.all_eq_true]
    refine ⟨h1, fun t ht => ?_⟩
    rw [Bool.not_eq_true', Bool.and_eq_false_iff]
    cases e1 : q t with
    | false => left; rfl
    | true =>
      cases e2 : sub s t with
      | false => left; rfl
      | true => right; rw [h2 t (List.mem_range.1 ht) e1 e2]; simp
theorem maxQ_congr {p q : Nat → Bool} (h : ∀ s, s < 64 → p s = q s) : maxQ p = maxQ q := by
  refine rises_eq _ _ (ord_rises _) (ord_rises _) fun x => ?_
  rw [mem_maxQ, mem_maxQ]
  constructor
  · rintro ⟨s, e, hs, h1, h2⟩
    exact ⟨s, e, hs, by rw [← h s hs]; exact h1, fun t ht k1 k2 => h2 t ht (by rw [h t ht]; exact k1) k2⟩
  · rintro ⟨s, e, hs, h1, h2⟩
    exact ⟨s, e, hs, by rw [h s hs]; exact h1, fun t ht k1 k2 => h2 t ht (by rw [← h t ht]; exact k1) k2⟩
theorem ok_nat {x : Int} {A : List Int} (h : allOk A = true) (hx : x ∈ A) : ∃ s : Nat, x = (s : Int) ∧ s < 64 := by
  unfold allOk at h
  exact okZ_cast x (List.all_eq_true.1 h x hx)
/-- The maximal sets of a list are told by what lies in it. -/
theorem maximal_maxQ (A : List Int) (h : allOk A = true) : maximal A = maxQ (inF A) := by
  refine rises_eq _ _ ?_ (ord_rises _) fun x => ?_
  · unfold maximal best
    exact List.Pairwise.filter _ (order_rises A)
  rw [mem_maxQ]
  unfold maximal best
  rw [List.mem_filter, order_iff A h]
  constructor
  · rintro ⟨hx, hu⟩
    obtain ⟨s, rfl, hs⟩ := ok_nat h hx
    refine ⟨s, rfl, hs, (inF_iff A s).2 ⟨_, hx, sub_refl s⟩, fun t ht h1 h2 => ?_⟩
    obtain ⟨f, hf, e⟩ := (inF_iff A t).1 h1
    obtain ⟨u, rfl, hu64⟩ := ok_nat h hf
    have e : sub t u = true := e
    by_cases hne : u = s
    · subst hne; exact sub_anti e h2
    · unfold unbeaten at hu
      have := List.all_eq_true.1 hu (u : Int) ((order_iff A h _).2 hf)
      rw [Bool.not_eq_true', Bool.and_eq_false_iff] at this
      rcases this with k | k
      · have : (u : Int) = (s : Int) := by simpa using k
        omega
      · have k : sub s u = false := k
        rw [sub_trans h2 e] at k; cases k
  · rintro ⟨s, rfl, hs, h1, h2⟩
    obtain ⟨f, hf, e⟩ := (inF_iff A s).1 h1
    obtain ⟨u, rfl, hu64⟩ := ok_nat h hf
    have e : sub s u = true := e
    have : u = s := h2 u hu64 ((inF_iff A u).2 ⟨_, hf, sub_refl u⟩) e
    subst this
    refine ⟨hf, ?_⟩
    unfold unbeaten
    rw [List.all_eq_true]
    intro y hy
    have hy := (order_iff A h y).1 hy
    obtain ⟨v, rfl, hv⟩ := ok_nat h hy
    rw [Bool.not_eq_true', Bool.and_eq_false_iff]
    by_cases hne : v = u
    · left; subst hne; simp
    · right
      rw [Bool.eq_false_iff]
      intro k
      exact hne (h2 v hv ((inF_iff A v).2 ⟨_, hy, sub_refl v⟩) k)
theorem inF_ord (q : Nat → Bool) (hd : Down q) (t : Nat) (ht : t < 64) : inF (ord q) t = q t := by
  rw [Bool.eq_iff_iff, inF_iff]
  constructor
  · rintro ⟨f, hf, e⟩
    obtain ⟨u, rfl, hu, hq⟩ := (mem_ord q f).1 hf
    exact hd t u ht hu e hq
  · intro h
    exact ⟨(t : Int), (mem_ord q _).2 ⟨t, rfl, ht, h⟩, sub_refl t⟩
theorem ord_ok (q : Nat → Bool) : allOk (ord q) = true := by
  unfold allOk
  rw [List.all_eq_true]
  intro x hx
  obtain ⟨s, rfl, hs, _⟩ := (mem_ord q x).1 hx
  exact (okZ_nat s).2 hs
theorem maximal_ord (q : Nat → Bool) (hd : Down q) : maximal (ord q) = maxQ q := by
  rw [maximal_maxQ _ (ord_ok q)]
  exact maxQ_congr fun s hs => inF_ord q hd s hs
/-- Each set of a family lies in a greatest one. -/
theorem maxQ_above (q : Nat → Bool) : ∀ (m t : Nat), t < 64 → 64 - t ≤ m → q t = true → ∃ u : Nat, u < 64 ∧ (u : Int) ∈ maxQ q ∧ sub t u = true
  | 0, t, ht, hm, _ => by omega
  | m + 1, t, ht, hm, hq => by
    by_cases h : ∀ v, v < 64 → q v = true → sub t v = true → v = t
    · exact ⟨t, ht, (mem_maxQ q _).2 ⟨t, rfl, ht, hq, h⟩, sub_refl t⟩
    · have : ∃ v, v < 64 ∧ q v = true ∧ sub t v = true ∧ v ≠ t := by
        refine Classical.byContradiction fun k => h fun v h1 h2 h3 => Classical.byContradiction fun h4 => k ⟨v, h1, h2, h3, h4⟩
      obtain ⟨v, h1, h2, h3, h4⟩ := this
      have := sub_le h3
      obtain ⟨u, k1, k2, k3⟩ := maxQ_above q m v h1 (by omega) h2
      exact ⟨u, k1, k2, sub_trans h3 k3⟩
theorem inF_maxQ (q : Nat → Bool) (hd : Down q) (t : Nat) (ht : t < 64) : inF (maxQ q) t = q t := by
  rw [Bool.eq_iff_iff, inF_iff]
  constructor
  · rintro ⟨f, hf, e⟩
    obtain ⟨u, rfl, hu, hq, _⟩ := (mem_maxQ q f).1 hf
    exact hd t u ht hu e hq
  · intro h
    obtain ⟨u, _, h2, h3⟩ := maxQ_above q 64 t ht (by omega) h
    exact ⟨_, h2, h3⟩
theorem maxQ_le (q : Nat → Bool) : (maxQ q).length ≤ 64 := ord_le _
theorem maxQ_ok (q : Nat → Bool) : allOk (maxQ q) = true := ord_ok _
/-- A complex is told by its faces. -/
theorem isC_maxQ {n : Int} {xs : List Int} (h : isC n xs = true) : maxQ (inF xs) = xs := by
  rw [← maximal_maxQ xs (isC_ok h), maximal_self h]
theorem maxQ_isC (n : Int) (q : Nat → Bool) (h1 : 1 ≤ n) (h2 : n ≤ 6) (hd : Down q) (h : ∀ s, s < 64 → q s = true → setB n (s : Int) = true) : isC n (maxQ q) = true := by
  rw [← maximal_ord q hd]
  refine isC_maximal n _ h1 h2 fun x hx => ?_
  obtain ⟨s, rfl, hs, hq⟩ := (mem_ord q x).1 hx
  exact h s hs hq
theorem maxQ_faces (n : Int) (q : Nat → Bool) (hd : Down q) (hc : isC n (maxQ q) = true) : faces n (maxQ q) = ord q := by
  unfold faces
  rw [if_pos hc]
  exact ord_congr fun t ht => inF_maxQ q hd t ht
/-- Faces of a complex are sets of its points. -/
theorem setB_sub {n : Int} {s t : Nat} (h : setB n (t : Int) = true) (k : sub s t = true) : setB n (s : Int) = true := by
  rw [setB_iff] at *
  have := sub_le k
  exact ⟨h.1, h.2.1, by omega, by have := h.2.2.2; omega⟩
theorem inF_set {n : Int} {xs : List Int} (h : isC n xs = true) (s : Nat) (k : inF xs s = true) : setB n (s : Int) = true := by
  obtain ⟨f, hf, e⟩ := (inF_iff xs s).1 k
  obtain ⟨t, rfl, _⟩ := ok_nat (isC_ok h) hf
  exact setB_sub (isC_set h _ hf) e

/-! ### the parts -/

def linkQ (xs : List Int) (s t : Nat) : Bool := apart t s && inF xs (t ||| s)
def starQ (xs : List Int) (s t : Nat) : Bool := inF xs (t ||| s)
def delQ (xs : List Int) (s t : Nat) : Bool := inF xs t && !sub s t
def skelQ (xs : List Int) (k : Int) (t : Nat) : Bool := inF xs t && decide ((pc t : Int) ≤ k)
def indQ (xs : List Int) (s t : Nat) : Bool := inF xs t && sub t s
def orQ (xs ys : List Int) (t : Nat) : Bool := inF xs t || inF ys t
def andQ (xs ys : List Int) (t : Nat) : Bool := inF xs t && inF ys t

theorem or_sub {s t : Nat} (h : sub s t = true) (u : Nat) : sub (s ||| u) (t ||| u) = true := by
  rw [sub_or, Bool.and_eq_true, sub_iff, sub_iff]
  rw [sub_iff] at h
  exact ⟨fun i hi => by rw [Nat.testBit_or, h i hi]; rfl, fun i hi => by rw [Nat.testBit_or, hi]; simp⟩
theorem inF_sub {xs : List Int} {s t : Nat} (h : sub s t = true) (k : inF xs t = true) : inF xs s = true := by
  rw [inF_iff] at *
  obtain ⟨f, hf, e⟩ := k
  exact ⟨f, hf, sub_trans h e⟩
theorem starQ_down (xs : List Int) (u : Nat) : Down (starQ xs u) := fun s t _ _ h k => by
  unfold starQ at *
  exact inF_sub (or_sub h u) k
theorem linkQ_down (xs : List Int) (u : Nat) : Down (linkQ xs u) := fun s t hs ht h k => by
  unfold linkQ at *
  rw [Bool.and_eq_true] at *
  exact ⟨apart_mono h k.1, starQ_down xs u s t hs ht h k.2⟩
theorem delQ_down (xs : List Int) (u : Nat) : Down (delQ xs u) := fun s t _ _ h k => by
  unfold delQ at *
  rw [Bool.and_eq_true, Bool.not_eq_true'] at *
  refine ⟨inF_sub h k.1, ?_⟩
  rw [Bool.eq_false_iff]; intro e
  rw [sub_trans e h] at k; cases k.2
theorem pc_sub {s t : Nat} (hs : s < 64) (ht : t < 64) (h : sub s t = true) : pc s ≤ pc t := by
  rcases sub_pc s t hs ht h with e | e
  · omega
  · rw [e]; exact Nat.le_refl _
theorem skelQ_down (xs : List Int) (k : Int) : Down (skelQ xs k) := fun s t hs ht h e => by
  unfold skelQ at *
  rw [Bool.and_eq_true, decide_eq_true_iff] at *
  have := pc_sub hs ht h
  exact ⟨inF_sub h e.1, by omega⟩
theorem indQ_down (xs : List Int) (u : Nat) : Down (indQ xs u) := fun s t _ _ h k => by
  unfold indQ at *
  rw [Bool.and_eq_true] at *
  exact ⟨inF_sub h k.1, sub_trans h k.2⟩
theorem orQ_down (xs ys : List Int) : Down (orQ xs ys) := fun s t _ _ h k => by
  unfold orQ at *
  rw [Bool.or_eq_true] at *
  exact k.imp (inF_sub h) (inF_sub h)
theorem andQ_down (xs ys : List Int) : Down (andQ xs ys) := fun s t _ _ h k => by
  unfold andQ at *
  rw [Bool.and_eq_true] at *
  exact ⟨inF_sub h k.1, inF_sub h k.2⟩

/-- A part: a complex of n points, or none. -/
def partO (ok : Bool) (n : Int) (q : Nat → Bool) : Option (Int × List Int) := if ok = true then some (n, maxQ q) else none
def linkO (n : Int) (xs : List Int) (s : Int) := partO (isC n xs && setB n s) n (linkQ xs s.toNat)
def starO (n : Int) (xs : List Int) (s : Int) := partO (isC n xs && setB n s) n (starQ xs s.toNat)
def delO (n : Int) (xs : List Int) (s : Int) := partO (isC n xs && setB n s) n (delQ xs s.toNat)
def skelO (n : Int) (xs : List Int) (k : Int) := partO (isC n xs && inB 0 6 k) n (skelQ xs k)
def indO (n : Int) (xs : List Int) (s : Int) := partO (isC n xs && setB n s) n (indQ xs s.toNat)
def bothOk (n m : Int) (xs ys : List Int) : Bool := isC n xs && isC m ys && n == m
def unionO (n m : Int) (xs ys : List Int) := partO (bothOk n m xs ys) n (orQ xs ys)
def meetO (n m : Int) (xs ys : List Int) := partO (bothOk n m xs ys) n (andQ xs ys)

end Go.Proofs.Ytfnpkglijknnoaa

/-! WALKS: the points of a set; its subsets; lists in order. -/

namespace Go.Proofs.Ytfnpkglijknnoaa
open Go.RowKit
open Sets

/-- Is point i in s? -/
def ptB (s i : Nat) : Bool := s / 2 ^ i % 2 == 1

theorem shr_and (s i : Nat) (hs : s < 64) : bits BinOp.and IntKind.i64 ((s : Int) / 2 ^ i) 1 = ((s / 2 ^ i % 2 : Nat) : Int) := by
  have h : s / 2 ^ i < 64 := Nat.lt_of_le_of_lt (Nat.div_le_self _ _) hs
  have := and_one (s / 2 ^ i) h
  rw [← this]
  congr 1
theorem ptB_int (s i : Nat) (hs : s < 64) : (bits BinOp.and IntKind.i64 ((s : Int) / 2 ^ i) 1 == 1) = ptB s i := by
  rw [shr_and s i hs]
  unfold ptB
  rw [Bool.eq_iff_iff, beq_iff_eq, beq_iff_eq]
  omega

set_option maxRecDepth 100000 in
set_option maxHeartbeats 2000000 in
theorem hasPoint_any (s i : Nat) (hs : s < 64) (hi : i < 6) (w : World) : Calls Try.prog 70 #[.int .i64 (s : Int), .int .i64 (i : Int)] w fun e w' => e = .returned (.bool (ptB s i)) ∧ w = w' := by
  go_enter Try.func70, Try.ntmps70
  go_wp2
  go_ret
  exact ⟨ret_bool (ptB_int s i hs), rfl⟩

theorem hasPoint_b (s i : Nat) (b : Bool) (hb : ptB s i = b) (hs : s < 64) (hi : i < 6) (w : World) : Calls Try.prog 70 #[.int .i64 (s : Int), .int .i64 (i : Int)] w fun e w' => e = .returned (.bool b) ∧ w = w' := by
  subst hb; exact hasPoint_any s i hs hi w

theorem pts_hit (s i : Nat) (h : ptB s i = true) : pts s (i + 1) = pts s i ++ [(i : Int)] := by
  rw [pts_next, if_pos (by unfold ptB at h; simpa using h)]
theorem pts_miss (s i : Nat) (h : ptB s i = false) : pts s (i + 1) = pts s i := by
  rw [pts_next, if_neg (by unfold ptB at h; simpa using h), List.append_nil]

theorem points_nat (s : Nat) (h : s < 64) : points (s : Int) = pts s 6 := by unfold points; rw [if_pos ((okZ_nat s).2 h)]; rfl
theorem points_no (x : Int) (h : okZ x = false) : points x = [] := by unfold points; rw [if_neg (by rw [h]; simp)]

end Go.Proofs.Ytfnpkglijknnoaa

/-! WALKS: the law's own functions at complexes: sizes, copies, equality, marks, what is held. -/

namespace Go.Proofs.Ytfnpkglijknnoaa
open Go.RowKit
open Sets

/-- A block of two cells that can be written. -/
def Two (w : World) (b : Nat) (x y : Value) : Prop := b < w.heap.size ∧ w.cell? ⟨b, 0, none⟩ = some x ∧ w.cell? ⟨b, 1, none⟩ = some y ∧ w.frozen? ⟨b, 0, none⟩ = false ∧ w.frozen? ⟨b, 1, none⟩ = false
theorem Two.new (w : World) (x y : Value) (t : TypeId) : Two (w.alloc (.cells #[x, y] t)) w.heap.size x y := by
  refine ⟨by simp, ?_, ?_, World.frozen?_alloc_at _ _ _ _ rfl, World.frozen?_alloc_at _ _ _ _ rfl⟩
  · rw [World.cell?_alloc_new]; rfl
  · rw [World.cell?_alloc_new]; rfl
theorem Two.keeps {w w' : World} {b : Nat} {x y : Value} (h : Two w b x y) (hb : Below w.heap.size w w') : Two w' b x y := by
  obtain ⟨h1, h2, h3, h4, h5⟩ := h
  refine ⟨by have := hb.size; omega, ?_, ?_, ?_, ?_⟩
  · rw [hb.cell (p := ⟨b, 0, none⟩) h1]; exact h2
  · rw [hb.cell (p := ⟨b, 1, none⟩) h1]; exact h3
  · rw [hb.frozen (p := ⟨b, 0, none⟩) h1]; exact h4
  · rw [hb.frozen (p := ⟨b, 1, none⟩) h1]; exact h5
theorem Two.alloc {w : World} {b : Nat} {x y : Value} (h : Two w b x y) (o : Obj) : Two (w.alloc o) b x y := h.keeps ((Below.refl _ _).alloc (Nat.le_refl _) _)
theorem Two.set1 {w : World} {b : Nat} {x y : Value} (h : Two w b x y) (z : Value) : Two (w.setCell ⟨b, 1, none⟩ z) b x z := by
  obtain ⟨h1, h2, h3, h4, h5⟩ := h
  refine ⟨by simp [World.setCell]; exact h1, ?_, World.cell?_setCell_same _ _ _ h3, by rw [World.frozen?_setCell]; exact h4, by rw [World.frozen?_setCell]; exact h5⟩
  rw [World.cell?_setCell_other _ _ _ _ (by simp)]; exact h2

theorem IntsAt.set {w : World} {g b : Nat} {a : Option Addr} {xs : List Int} (h : IntsAt w g a xs) (hne : g ≠ b) (o : Nat) (v : Value) : IntsAt (w.setCell ⟨b, o, none⟩ v) g a xs := h.far (Mem.but_setCell _ _ _ _) hne

/-! ### a complex as a result -/

theorem results_one {fn : Func} {p : Tmp} {ty : TypeId} (h : fn.results = #[.cell p ty]) (tmps : Array Value) (P : Program) (w : World) :
    (results fn tmps).run P w = ((asAddr (tmps.getD p undef)).run P w).andThen fun a w₁ => (loadVar ty a).run P w₁ := by
  simp only [results, h]
  simp [Sem.run_bind, Result.andThen]

theorem cx_load (w : World) (b : Nat) (x y : Value) (h0 : w.cell? ⟨b, 0, none⟩ = some x) (h1 : w.cell? ⟨b, 1, none⟩ = some y) :
    (loadVar 26 ⟨b, 0, none⟩).run Try.prog w = .ok (.agg #[x, y]) w := by
  go_simp

theorem ret_cx {fn : Func} {p : Tmp} {R : Ending → World → Prop} {a : Act} {w : World} {x y : Value} (b : Nat) (h : fn.results = #[.cell p 26]) (hp : a.tmps.getD p undef = .pointer (some ⟨b, 0, none⟩))
    (h0 : w.cell? ⟨b, 0, none⟩ = some x) (h1 : w.cell? ⟨b, 1, none⟩ = some y) (hd : a.defers = []) (hR : R (.returned (.agg #[x, y])) w) : bodyPost Try.prog fn R .ret a w :=
  bodyPost_ret (by rw [results_one h, hp]; simp [asAddr, Result.andThen, cx_load w b x y h0 h1]) hd hR

theorem ret_cx2 {fn : Func} {p u : Tmp} {R : Ending → World → Prop} {a : Act} {w : World} {x y z : Value} (b : Nat) (h : fn.results = #[.cell p 26, .tmp u]) (hp : a.tmps.getD p undef = .pointer (some ⟨b, 0, none⟩)) (hu : a.tmps.getD u undef = z)
    (h0 : w.cell? ⟨b, 0, none⟩ = some x) (h1 : w.cell? ⟨b, 1, none⟩ = some y) (hd : a.defers = []) (hR : R (.returned (.tuple #[.agg #[x, y], z])) w) : bodyPost Try.prog fn R .ret a w :=
  bodyPost_ret (by rw [results_cell_tmp h, hp, hu]; simp [asAddr, Result.andThen, cx_load w b x y h0 h1]) hd hR

/-- A complex as a value. -/
abbrev cx (n : Int) (v : Value) : Value := .agg #[.int .i64 n, v]

set_option maxRecDepth 100000 in
theorem szInt_any (a : Option Addr) (c : Nat) (xs : List Int) (left : Nat) (hl : left ≤ 1048576) (hlen : xs.length ≤ 9223372036854775807) (w : World) :
    Calls Try.prog 64 #[.slice a xs.length c, .int .i64 (left : Int)] w fun e w' => e = .returned (.int .i64 (if xs.length ≤ left then (left : Int) - xs.length else -1)) ∧ w = w' := by
  by_cases h : xs.length ≤ left
  · rw [if_pos h]
    go_enter Try.func64, Try.ntmps64
    go_wp2
    go_ret
    exact ⟨rfl, rfl⟩
  · rw [if_neg h]
    go_enter Try.func64, Try.ntmps64
    go_wp2
    go_ret
    exact ⟨rfl, rfl⟩

set_option maxRecDepth 100000 in
theorem szCx_any (n : Int) (a : Option Addr) (c : Nat) (xs : List Int) (left : Nat) (hl : left ≤ 1048576) (hlen : xs.length ≤ 9223372036854775807) (w : World) :
    Calls Try.prog 31 #[cx n (.slice a xs.length c), .int .i64 (left : Int)] w fun e w' => e = .returned (.int .i64 (if xs.length ≤ left then (left : Int) - xs.length else -1)) ∧ Below w.heap.size w w' := by
  have hc := fun w => szInt_any a c xs left hl hlen w
  by_cases h : xs.length ≤ left
  · rw [if_pos h] at hc ⊢
    have HC := Lib.hid hc
    clear hc
    go_enter Try.func31, Try.ntmps31
    go_wp2_with fail
    refine (HC.out _).mono ?_
    rintro e w' ⟨rfl, rfl⟩
    go_wp2
    go_ret
    exact ⟨rfl, (Below.refl _ _).alloc (Nat.le_refl _) _⟩
  · rw [if_neg h] at hc ⊢
    have HC := Lib.hid hc
    clear hc
    go_enter Try.func31, Try.ntmps31
    go_wp2_with fail
    refine (HC.out _).mono ?_
    rintro e w' ⟨rfl, rfl⟩
    go_wp2
    go_ret
    exact ⟨rfl, (Below.refl _ _).alloc (Nat.le_refl _) _⟩

set_option maxRecDepth 100000 in
set_option maxHeartbeats 1000000 in
/-- toComplex: the same numbers in a new row. -/
theorem toCx_any (n : Int) (a : Option Addr) (c : Nat) (xs : List Int) (hlen : xs.length ≤ 1048576) (w : World) (h : Ints w a xs) :
    Calls Try.prog 32 #[cx n (.slice a xs.length c)] w fun e w' => ∃ g, e = .returned (cx n (.slice (some ⟨g, 0, none⟩) xs.length xs.length)) ∧ w.heap.size ≤ g ∧ g < w'.heap.size ∧ IntsAt w' g (some ⟨g, 0, none⟩) xs ∧ Below w.heap.size w w' := by
  have H := Lib.hid h
  clear h
  go_enter Try.func32, Try.ntmps32
  go_wp2_with fail
  refine (toInt_any _ _ xs hlen _ (H.out.keeps ((((Below.refl _ _).alloc (Nat.le_refl _) _).alloc (by simp) _).alloc (by simp; omega) _))).mono ?_
  rintro e w1 ⟨rfl, hlt1, hr1, hb1⟩
  have hR := Two.keeps (((Two.new (w.alloc (Obj.cells #[Value.int IntKind.i64 n, Value.slice a xs.length c] 40)) (.int .i64 0) (.slice none 0 0) 26)).alloc (Obj.cells #[Value.int IntKind.i64 n, Value.slice none 0 0] 26)) hb1
  have hO := Two.keeps (Two.new ((w.alloc (Obj.cells #[Value.int IntKind.i64 n, Value.slice a xs.length c] 40)).alloc (Obj.cells #[Value.int IntKind.i64 0, Value.slice none 0 0] 26)) (.int .i64 n) (.slice none 0 0) 26) hb1
  simp at hR hO
  have hO2 := Lib.hid hO
  obtain ⟨q1, q2, q3, q4, q5⟩ := hR
  obtain ⟨o1, o2, o3, o4, o5⟩ := hO
  have hr2 := hr1
  simp at hr2
  have R1 := Lib.hid hr2
  have hb2 : Below w.heap.size w w1 := ((((Below.refl _ _).alloc (Nat.le_refl _) _).alloc (by simp) _).alloc (by simp; omega) _).trans (hb1.mono (by simp; omega))
  have B1 := Lib.hid hb2
  simp at hlt1
  clear hr1 hr2 hb1 hb2
  go_wp2
  refine ret_cx (w.heap.size + 1) rfl rfl (x := .int .i64 n) (y := .slice (some ⟨w.heap.size + 1 + 1 + 1, 0, none⟩) xs.length xs.length) (by go_simp) (by go_simp) rfl ?_
  refine ⟨w.heap.size + 1 + 1 + 1, rfl, by omega, by simp [World.setCell]; exact hlt1, ?_, ?_⟩
  · exact ((R1.out.set (by omega) _ _).set (by omega) _ _).set (by omega) _ _
  · exact ((B1.out.setCell (by dsimp only; omega) _).setCell (by dsimp only; omega) _).setCell (by dsimp only; omega) _

set_option maxRecDepth 100000 in
set_option maxHeartbeats 1000000 in
theorem eqCx_any (n : Int) (a1 a2 : Option Addr) (c1 c2 : Nat) (xs : List Int) (hlen : xs.length ≤ 1099511627776) (w : World) (h1 : Ints w a1 xs) (h2 : Ints w a2 xs) :
    Calls Try.prog 34 #[cx n (.slice a1 xs.length c1), cx n (.slice a2 xs.length c2)] w fun e w' => e = .returned (.bool true) ∧ Below w.heap.size w w' := by
  have H1 := Lib.hid h1
  have H2 := Lib.hid h2
  clear h1 h2
  go_enter Try.func34, Try.ntmps34
  go_wp2_with fail
  refine (eqInt_any _ _ _ _ xs hlen _ (H1.out.keeps (((Below.refl _ _).alloc (Nat.le_refl _) _).alloc (by simp) _)) (H2.out.keeps (((Below.refl _ _).alloc (Nat.le_refl _) _).alloc (by simp) _))).mono ?_
  rintro e w1 ⟨rfl, hb1⟩
  go_wp2
  go_ret
  exact ⟨rfl, (((Below.refl _ _).alloc (Nat.le_refl _) _).alloc (by simp) _).trans (hb1.mono (by simp; omega))⟩

set_option maxRecDepth 100000 in
theorem markCx_any (n : Int) (g : Nat) (a : Option Addr) (c : Nat) (xs : List Int) (k : Int) (m : Nat) (hkm : k = (m : Int)) (hn : xs.length ≤ 1099511627776) (hk2 : m ≤ 1099511627776) (w : World) (h : IntsAt w g a xs) :
    Calls Try.prog 35 #[cx n (.slice a xs.length c), .int .i64 k] w fun e w' =>
      e = .returned (.int .i64 ((m + xs.length : Nat) : Int)) ∧ IntsAt w' g a (imarks m xs.length) ∧ w.grownBy w' (some g) := by
  subst hkm
  have hb0 : Below w.heap.size w (w.alloc (Obj.cells #[Value.int IntKind.i64 n, Value.slice a xs.length c] 26)) := (Below.refl _ _).alloc (Nat.le_refl _) _
  have hc := markInt_any g a c xs (m : Int) m rfl hn hk2 _ (h.keeps hb0)
  have HC := Lib.hid hc
  have HB := Lib.hid hb0
  clear hc h hb0
  go_enter Try.func35, Try.ntmps35
  go_wp2_with fail
  refine HC.out.mono ?_
  rintro e w1 ⟨rfl, hr, hg⟩
  have HR := Lib.hid hr
  have HG := Lib.hid hg
  clear hr hg
  go_wp2
  go_ret
  exact ⟨rfl, HR.out, (Mem.but_of_below HB.out _).trans HG.out⟩

set_option maxRecDepth 100000 in
theorem heldCx_any (x : Int) (g : Nat) (a : Option Addr) (c n : Nat) (k : Int) (m : Nat) (hkm : k = (m : Int)) (hn : n ≤ 1099511627776) (hk2 : m ≤ 1099511627776) (w : World) (h : IntsAt w g a (imarks m n)) :
    Calls Try.prog 39 #[cx x (.slice a n c), .int .i64 k] w fun e w' =>
      e = .returned (.int .i64 ((m + n : Nat) : Int)) ∧ Below w.heap.size w w' := by
  subst hkm
  have hb0 : Below w.heap.size w (w.alloc (Obj.cells #[Value.int IntKind.i64 x, Value.slice a n c] 26)) := (Below.refl _ _).alloc (Nat.le_refl _) _
  have hc := heldInt_any g a c n (m : Int) m rfl hn hk2 _ (h.keeps hb0)
  have HC := Lib.hid hc
  have HB := Lib.hid hb0
  clear hc h hb0
  go_enter Try.func39, Try.ntmps39
  go_wp2_with fail
  refine HC.out.mono ?_
  rintro e w1 ⟨rfl, hb1⟩
  go_wp2
  go_ret
  exact ⟨rfl, HB.out.trans (hb1.mono (by simp))⟩

end Go.Proofs.Ytfnpkglijknnoaa

/-! WALKS: impl.setsWhere: the sets that meet a predicate, in order. -/

namespace Go.Proofs.Ytfnpkglijknnoaa
open Go.RowKit
open Sets

/-- What is asked of the predicate: at every set, in every later world, it answers p and leaves all as it was. -/
def Pred (g : Nat) (lb : Array Value) (p : Nat → Bool) (w : World) : Prop :=
  ∀ (W : World) (s : Nat), s < 64 → Below w.heap.size w W → Calls Try.prog g (#[.int .i64 (s : Int)] ++ lb) W fun e w' => e = .returned (.bool (p s)) ∧ W = w'
theorem Pred.at {g : Nat} {lb : Array Value} {p : Nat → Bool} {w : World} (h : Pred g lb p w) (W : World) (s : Nat) (b : Bool) (hb : p s = b) (hs : s < 64) (hB : Below w.heap.size w W) :
    Calls Try.prog g (#[.int .i64 (s : Int)] ++ lb) W fun e w' => e = .returned (.bool b) ∧ W = w' := by
  subst hb; exact h W s hs hB

set_option maxRecDepth 100000 in
set_option maxHeartbeats 4000000 in
theorem setsWhere_any (g : Nat) (lb : Array Value) (p : Nat → Bool) (w : World) (eg : ∀ args w, (callFunc g args).run Try.prog w = .ok (.enter g args) w) (hp : Pred g lb p w) :
    Calls Try.prog 44 #[.func (.func g) #[] lb] w fun e w' => ∃ v, e = .returned v ∧ OwnInts w' w.heap.size v (ord p) ∧ Below w.heap.size w w' := by
  obtain ⟨i0, hi, hz0, hz1, hz2⟩ := info_parts info_int
  have HPR := Lib.hid hp
  clear hp
  go_enter Try.func44, Try.ntmps44
  go_wp2
  go_loopw [3, 6] (fun v i wr => ∃ k : Nat, k ≤ 7 ∧ i = .int .i64 (k : Int) ∧ OwnInts wr w.heap.size v (upto p k 0) ∧ Below w.heap.size w wr) (fun _ i _ => 7 - (intOf i).toNat)
  case atStart => exact ⟨0, by omega, rfl, OwnInts.nil _ _, Below.refl _ _⟩
  case round =>
    obtain ⟨k, hk, rfl, hO, hB⟩ := hrel
    have HO := Lib.hid hO
    clear hO
    obtain ⟨wo, rfl⟩ : ∃ wo : World, wo = wr := ⟨_, rfl⟩
    by_cases hlt : k < 7
    · have hlt7 : decide ((k : Int) < 7) = true := by simp; omega
      go_wp2
      go_loopw [3, 9] (fun v i wr => ∃ n : Nat, n ≤ 64 ∧ i = .int .i64 (n : Int) ∧ OwnInts wr w.heap.size v (upto p k n) ∧ Below w.heap.size w wr) (fun _ i _ => 64 - (intOf i).toNat)
      case atStart => exact ⟨0, by omega, rfl, HO.out, hB⟩
      case round =>
        clear hB HO
        obtain ⟨n, hn, rfl, hO, hB⟩ := hrel
        unfold OwnInts at hO
        have HO := Lib.hid hO
        clear hO
        have hsz := hB.size
        have hl := upto_length p k n
        by_cases hln : n < 64
        · have hpn := pc_le n
          by_cases hq : pc n = k
          · have hq' : ((pc n : Int) == (k : Int)) = true := by rw [hq]; simp
            have HQ := Lib.hid hq
            clear hq
            cases hp : p n with
            | true =>
              have HP := Lib.hid hp
              clear hp
              go_wp2_with fail
              refine (implSizeOf_nat n hln _).mono ?_
              rintro e w' ⟨rfl, rfl⟩
              go_wp2_with (first | (at_builtin; refine wpList_append_own _ rfl _ _ 24 rfl w.heap.size 3 i0 (.int .i64 0) 1 8 Try.underlying24 hi hz0 hz1 hz2 rfl (by decide) _ _ _ rfl (HO.out.alloc _) ⟨wr.heap.size, 0, none⟩ 1 1 [.int .i64 (n : Int)] rfl rfl ?c1 ?c2 ?c3 ?c4 ?c5 ?_) | (go_at_fn g; refine (HPR.out.at _ n true HP.out hln hB).mono ?_; rintro e w' ⟨rfl, rfl⟩))
              case c1 => intro j u hj; exact Mem.cell_new wr _ _ j u hj
              case c2 => intro u hu; simp at hu; subst hu; rfl
              case c3 => unfold maxLen; omega
              case c4 => omega
              case c5 => simp; omega
              intro v' w1 hown1 hgrow _
              have hB1 : Below w.heap.size w w1 := (hB.alloc hsz _).grown hgrow (by simp; omega) (fun g hg => (HO.out.lt g hg).1)
              have H1 := Lib.hid hown1
              clear hown1 hgrow
              go_wp2
              go_roundw
              case rel => exact ⟨n + 1, by omega, by go_num, by rw [upto_hit p k n HQ.out HP.out]; exact OwnInts.next H1.out, hB1⟩
              case measure => simp [intOf]; omega
            | false =>
              have HP := Lib.hid hp
              clear hp
              go_wp2_with fail
              refine (implSizeOf_nat n hln _).mono ?_
              rintro e w' ⟨rfl, rfl⟩
              go_wp2_with (go_at_fn g; refine (HPR.out.at _ n false HP.out hln hB).mono ?_; rintro e w' ⟨rfl, rfl⟩)
              go_roundw
              case rel => exact ⟨n + 1, by omega, by go_num, by rw [upto_miss p k n (fun h => by rw [HP.out] at h; simp at h)]; exact HO.out, hB⟩
              case measure => simp [intOf]; omega
          · have hq' : ((pc n : Int) == (k : Int)) = false := by simp; omega
            have HQ := Lib.hid hq
            clear hq
            go_wp2_with fail
            refine (implSizeOf_nat n hln _).mono ?_
            rintro e w' ⟨rfl, rfl⟩
            go_wp2
            go_roundw
            case rel => exact ⟨n + 1, by omega, by go_num, by rw [upto_miss p k n (fun h => HQ.out h.1)]; exact HO.out, hB⟩
            case measure => simp [intOf]; omega
        · have E := Lib.hid (show n = 64 by omega)
          go_wp2
          go_roundw
          case rel =>
            have h2 := HO.out
            rw [E.out, upto_line] at h2
            exact ⟨k + 1, by omega, by go_num, h2, hB⟩
          case measure => simp [intOf]; omega
    · have E := Lib.hid (show k = 7 by omega)
      go_wp2
      go_ret
      have h2 := HO.out
      rw [E.out, upto_end] at h2
      exact ⟨_, rfl, h2, hB⟩

end Go.Proofs.Ytfnpkglijknnoaa
