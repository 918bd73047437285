/-
  JOINS, of no program: the faces of joins, of disjoint unions, of cross complexes.
-/
import Derived.Test.YthobncbggaggjaaPart
import Derived.Test.YthobncbggaggjaaHom2
namespace Go.Proofs.Ythobncbggaggjaa
namespace Join
open Sets Lin Hom

theorem sub_parts {n f g s : Nat} (hf : f < 2 ^ n) : sub s (f + 2 ^ n * g) = (sub (s % 2 ^ n) f && sub (s / 2 ^ n) g) := by
  rw [Bool.eq_iff_iff, Bool.and_eq_true, sub_iff, sub_iff, sub_iff, Nat.add_comm]
  constructor
  · intro h
    constructor
    · intro i hi
      rw [Nat.testBit_mod_two_pow, Bool.and_eq_true, decide_eq_true_eq] at hi
      have := h i hi.2
      rwa [Nat.testBit_two_pow_mul_add _ hf, if_pos hi.1] at this
    · intro i hi
      rw [Nat.testBit_div_two_pow] at hi
      have := h _ hi
      rwa [Nat.testBit_two_pow_mul_add _ hf, if_neg (by omega), show i + n - n = i by omega] at this
  · rintro ⟨h1, h2⟩ i hi
    rw [Nat.testBit_two_pow_mul_add _ hf]
    by_cases e : i < n
    · rw [if_pos e]; exact h1 i (by rw [Nat.testBit_mod_two_pow, decide_eq_true e, hi]; rfl)
    · rw [if_neg e]; exact h2 (i - n) (by rw [Nat.testBit_div_two_pow, show i - n + n = i by omega]; exact hi)

/-- The sets of a join: each facet of the one with each of the other. -/
def pairs (n : Nat) (xs ys : List Int) : List Int := xs.flatMap fun x => ys.map fun y => x + 2 ^ n * y
def disQ (n : Nat) (q r : Nat → Bool) (s : Nat) : Bool := (decide (s < 2 ^ n) && q s) || (s % 2 ^ n == 0 && r (s / 2 ^ n))
def both (n : Nat) (xs ys : List Int) : List Int := xs ++ ys.map fun y => 2 ^ n * y

theorem inF_pairs {n : Nat} {xs ys : List Int} (hx : ∀ x, x ∈ xs → ∃ f : Nat, x = (f : Int) ∧ f < 2 ^ n) (hy : ∀ y, y ∈ ys → ∃ g : Nat, y = (g : Int)) (s : Nat) : inF (pairs n xs ys) s = joinQ n (inF xs) (inF ys) s := by
  unfold joinQ
  rw [Bool.eq_iff_iff, Bool.and_eq_true, inF_iff, inF_iff, inF_iff]
  unfold pairs
  constructor
  · rintro ⟨z, hz, hs⟩
    obtain ⟨x, hx', hz⟩ := List.mem_flatMap.1 hz
    obtain ⟨y, hy', rfl⟩ := List.mem_map.1 hz
    obtain ⟨f, rfl, hf⟩ := hx x hx'
    obtain ⟨g, rfl⟩ := hy y hy'
    have e : ((f : Int) + 2 ^ n * (g : Int)).toNat = f + 2 ^ n * g := by
      rw [show (2 : Int) ^ n * (g : Int) = ((2 ^ n * g : Nat) : Int) by push_cast; rfl]; omega
    rw [e, sub_parts hf, Bool.and_eq_true] at hs
    exact ⟨⟨_, hx', hs.1⟩, ⟨_, hy', hs.2⟩⟩
  · rintro ⟨⟨x, hx', h1⟩, ⟨y, hy', h2⟩⟩
    obtain ⟨f, rfl, hf⟩ := hx x hx'
    obtain ⟨g, rfl⟩ := hy y hy'
    refine ⟨(f : Int) + 2 ^ n * (g : Int), List.mem_flatMap.2 ⟨_, hx', List.mem_map.2 ⟨_, hy', rfl⟩⟩, ?_⟩
    have e : ((f : Int) + 2 ^ n * (g : Int)).toNat = f + 2 ^ n * g := by
      rw [show (2 : Int) ^ n * (g : Int) = ((2 ^ n * g : Nat) : Int) by push_cast; rfl]; omega
    rw [e, sub_parts hf, Bool.and_eq_true]
    exact ⟨h1, h2⟩

theorem inF_both {n : Nat} {xs ys : List Int} (hx : ∀ x, x ∈ xs → ∃ f : Nat, x = (f : Int) ∧ f < 2 ^ n) (hy : ∀ y, y ∈ ys → ∃ g : Nat, y = (g : Int)) (s : Nat) : inF (both n xs ys) s = disQ n (inF xs) (inF ys) s := by
  have h2 := Nat.two_pow_pos n
  unfold disQ both
  rw [Bool.eq_iff_iff, Bool.or_eq_true, Bool.and_eq_true, Bool.and_eq_true, decide_eq_true_eq, beq_iff_eq, inF_iff, inF_iff, inF_iff]
  have e : ∀ g : Nat, ((2 : Int) ^ n * (g : Int)).toNat = 0 + 2 ^ n * g := fun g => by
    rw [show (2 : Int) ^ n * (g : Int) = ((2 ^ n * g : Nat) : Int) by push_cast; rfl]; omega
  have z : ∀ t : Nat, sub t 0 = true ↔ t = 0 := fun t => ⟨fun h => by have := sub_le h; omega, fun h => by rw [h]; exact sub_refl 0⟩
  constructor
  · rintro ⟨z', hz, hs⟩
    rcases List.mem_append.1 hz with hz | hz
    · obtain ⟨f, rfl, hf⟩ := hx z' hz
      have := sub_le hs
      exact .inl ⟨by simp at this; omega, _, hz, hs⟩
    · obtain ⟨y, hy', rfl⟩ := List.mem_map.1 hz
      obtain ⟨g, rfl⟩ := hy y hy'
      rw [e, sub_parts h2, Bool.and_eq_true, z] at hs
      exact .inr ⟨hs.1, _, hy', hs.2⟩
  · rintro (⟨hl, x, hx', h⟩ | ⟨h0, y, hy', h⟩)
    · exact ⟨x, List.mem_append_left _ hx', h⟩
    · obtain ⟨g, rfl⟩ := hy y hy'
      exact ⟨_, List.mem_append_right _ (List.mem_map.2 ⟨_, hy', rfl⟩), by rw [e, sub_parts h2, Bool.and_eq_true, z]; exact ⟨h0, h⟩⟩

theorem sub_mod {n s t : Nat} (h : sub s t = true) : sub (s % 2 ^ n) (t % 2 ^ n) = true := by
  rw [sub_iff] at h ⊢
  intro i hi
  rw [Nat.testBit_mod_two_pow, Bool.and_eq_true] at hi ⊢
  exact ⟨hi.1, h i hi.2⟩
theorem sub_div {n s t : Nat} (h : sub s t = true) : sub (s / 2 ^ n) (t / 2 ^ n) = true := by
  rw [sub_iff] at h ⊢
  intro i hi
  rw [Nat.testBit_div_two_pow] at hi ⊢
  exact h _ hi
theorem joinQ_down {n : Nat} {q r : Nat → Bool} (hq : Down q) (hr : Down r) : Down (joinQ n q r) := fun s t hs ht h k => by
  unfold joinQ at k ⊢
  rw [Bool.and_eq_true] at k ⊢
  have hm := fun x => Nat.mod_le x (2 ^ n)
  have hd := fun x => Nat.div_le_self x (2 ^ n)
  have a1 := hm s
  have a2 := hm t
  have a3 := hd s
  have a4 := hd t
  exact ⟨hq _ _ (by omega) (by omega) (sub_mod h) k.1, hr _ _ (by omega) (by omega) (sub_div h) k.2⟩
theorem disQ_down {n : Nat} {q r : Nat → Bool} (hq : Down q) (hr : Down r) : Down (disQ n q r) := fun s t hs ht h k => by
  unfold disQ at k ⊢
  rw [Bool.or_eq_true, Bool.and_eq_true, Bool.and_eq_true, decide_eq_true_eq, beq_iff_eq] at k ⊢
  have hd := fun x => Nat.div_le_self x (2 ^ n)
  have a3 := hd s
  have a4 := hd t
  have a5 := sub_le h
  rcases k with ⟨k1, k2⟩ | ⟨k1, k2⟩
  · exact .inl ⟨by omega, hq s t hs ht h k2⟩
  · refine .inr ⟨?_, hr _ _ (by omega) (by omega) (sub_div h) k2⟩
    have := sub_le (sub_mod (n := n) h)
    omega

/-- The sets that contain no two points 2 i and 2 i + 1, of k pairs. -/
def crossQ (k s : Nat) : Bool := (List.range k).all fun i => !(s / 2 ^ (2 * i) % 4 == 3)

def joinOk (n m : Int) (xs ys : List Int) : Bool := isC n xs && isC m ys && decide (n + m ≤ 6)
def joinO (n m : Int) (xs ys : List Int) := partO (joinOk n m xs ys) (n + m) (joinQ n.toNat (inF xs) (inF ys))
def disO (n m : Int) (xs ys : List Int) := partO (joinOk n m xs ys) (n + m) (disQ n.toNat (inF xs) (inF ys))
def crossO (k : Int) := partO (inB 1 3 k) (2 * k) fun s => decide (s < 2 ^ (2 * k.toNat)) && crossQ k.toNat s
/-- The points of all facets. -/
def conePts (n : Int) (xs : List Int) : Nat := if isC n xs = true ∧ xs ≠ [] then xs.foldl (fun a x => a &&& x.toNat) 63 else 0

theorem card_ord (q : Nat → Bool) : Card (fun s => s < 64 ∧ q s = true) (ord q).length := by
  refine Card.bij (S := fun x : Int => x ∈ ord q) ⟨ord q, ?_, fun _ => Iff.rfl, rfl⟩ Int.toNat (fun s : Nat => (s : Int)) ?_ ?_ ?_ ?_
  · exact (ord_rises q).imp fun {a b} h e => by subst e; exact befZ_asym h h
  · intro x hx
    obtain ⟨s, rfl, h1, h2⟩ := (mem_ord q x).1 hx
    exact ⟨h1, h2⟩
  · rintro s ⟨h1, h2⟩
    exact (mem_ord q _).2 ⟨s, rfl, h1, h2⟩
  · intro x hx
    obtain ⟨s, rfl, h1, h2⟩ := (mem_ord q x).1 hx
    rfl
  · rintro s _
    rfl
/-- FACES OF A JOIN ARE PAIRS OF FACES. -/
theorem join_faces {n m : Nat} (hnm : n + m ≤ 6) {q r : Nat → Bool} (hq : Low n q) (hr : Low m r) : (ord (joinQ n q r)).length = (ord q).length * (ord r).length := by
  refine (card_ord _).unique (((card_ord q).prod (card_ord r)).bij (fun z => z.1 + 2 ^ n * z.2) (fun s => (s % 2 ^ n, s / 2 ^ n)) ?_ ?_ ?_ ?_)
  all_goals have h2 := Nat.two_pow_pos n
  · rintro ⟨a, b⟩ ⟨⟨ha, qa⟩, ⟨hb, rb⟩⟩
    dsimp only at ha qa hb rb ⊢
    have la := hq a ha qa
    have lb := hr b hb rb
    have e1 : (a + 2 ^ n * b) % 2 ^ n = a := by rw [Nat.add_mul_mod_self_left]; exact Nat.mod_eq_of_lt la
    have e2 : (a + 2 ^ n * b) / 2 ^ n = b := by rw [Nat.add_mul_div_left _ _ h2, Nat.div_eq_of_lt la, Nat.zero_add]
    refine ⟨?_, by unfold joinQ; rw [e1, e2, qa, rb]; rfl⟩
    have : 2 ^ n * (b + 1) ≤ 2 ^ n * 2 ^ m := Nat.mul_le_mul_left _ (by omega)
    rw [← Nat.pow_add, Nat.mul_add] at this
    have := Nat.pow_le_pow_right (n := 2) (by decide) hnm
    omega
  · rintro s ⟨h, k⟩
    unfold joinQ at k
    rw [Bool.and_eq_true] at k
    have a1 := Nat.mod_le s (2 ^ n)
    have a2 := Nat.div_le_self s (2 ^ n)
    exact ⟨⟨by dsimp only; omega, k.1⟩, ⟨by dsimp only; omega, k.2⟩⟩
  · rintro ⟨a, b⟩ ⟨⟨ha, qa⟩, _⟩
    dsimp only at ha qa ⊢
    have la := hq a ha qa
    rw [Nat.add_mul_mod_self_left, Nat.mod_eq_of_lt la, Nat.add_mul_div_left _ _ h2, Nat.div_eq_of_lt la, Nat.zero_add]
  · rintro s _
    exact Nat.mod_add_div s (2 ^ n)

end Join
end Go.Proofs.Ythobncbggaggjaa
