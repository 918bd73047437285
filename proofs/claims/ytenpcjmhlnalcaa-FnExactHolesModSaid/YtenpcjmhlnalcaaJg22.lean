/-
  TEXTS of one claim, put together: HlC, Join1, Hom5, Hom6.
-/
import Derived.Test.YtenpcjmhlnalcaaJg19
import Derived.Test.YtenpcjmhlnalcaaJg5
import Derived.Test.YtenpcjmhlnalcaaJg18
import Derived.Test.YtenpcjmhlnalcaaJg8
import Derived.Test.YtenpcjmhlnalcaaWHol
/-! HOLES: a cone at any point has none. -/

namespace Go.Proofs.Ytenpcjmhlnalcaa
open Sets Lin

namespace Hom

theorem Card.inj_le {α β : Type} {S : α → Prop} {T : β → Prop} {c d : Nat} (h : Card S c) (h' : Card T d) (f : α → β) (hf : ∀ x, S x → T (f x)) (hi : ∀ x y, S x → S y → f x = f y → x = y) : c ≤ d := by
  obtain ⟨l, hn, hm, rfl⟩ := h
  have h2 : Card (fun z => z ∈ l.map f) l.length := ⟨l.map f, nodup_map_of f l hn fun a ha b hb e => hi a b ((hm a).1 ha) ((hm b).1 hb) e, fun _ => Iff.rfl, List.length_map ..⟩
  refine h'.mono h2 fun z hz => ?_
  obtain ⟨x, hx, rfl⟩ := List.mem_map.1 hz
  exact hf x ((hm x).1 hx)

/-- The faces of k points without the point m. -/
def offJ (q : Nat → Bool) (m k : Nat) : List Nat := (J q k).filter fun s => s &&& m == 0
def onJ (q : Nat → Bool) (m k : Nat) : List Nat := (J q k).filter fun s => !(s &&& m == 0)
theorem off_on (q : Nat → Bool) (m k : Nat) : (offJ q m k).length + (onJ q m k).length = fN q k := by
  unfold offJ onJ fN
  generalize J q k = l
  induction l with
  | nil => rfl
  | cons s l ih =>
    rw [List.filter_cons, List.filter_cons]
    cases (s &&& m == 0) with
    | true => simp only [if_true, Bool.not_true, Bool.false_eq_true, if_false, List.length_cons]; omega
    | false => simp only [if_true, Bool.not_false, Bool.false_eq_true, if_false, List.length_cons]; omega
theorem pt_add : ∀ (v : Fin 6) (s : Fin 64), s.val &&& 2 ^ v.val = 0 → (s.val ||| 2 ^ v.val) < 64 ∧ pc (s.val ||| 2 ^ v.val) = pc s.val + 1 ∧ (s.val ||| 2 ^ v.val) &&& 2 ^ v.val ≠ 0 ∧ (s.val ||| 2 ^ v.val) ^^^ 2 ^ v.val = s.val := by decide +kernel
theorem pt_off : ∀ (v : Fin 6) (s : Fin 64), s.val &&& 2 ^ v.val ≠ 0 → (s.val ^^^ 2 ^ v.val) < 64 ∧ pc (s.val ^^^ 2 ^ v.val) + 1 = pc s.val ∧ (s.val ^^^ 2 ^ v.val) &&& 2 ^ v.val = 0 ∧ (s.val ^^^ 2 ^ v.val) ||| 2 ^ v.val = s.val ∧ sub (s.val ^^^ 2 ^ v.val) s.val = true := by decide +kernel
theorem pt_only : ∀ (v : Fin 6) (t s : Fin 64), t.val &&& 2 ^ v.val = 0 → sub t.val s.val = true → pc s.val = pc t.val + 1 → s.val &&& 2 ^ v.val ≠ 0 → s.val = t.val ||| 2 ^ v.val := by decide +kernel
theorem on_off {q : Nat → Bool} (hq : Down q) (v : Fin 6) (hc : ∀ s, s < 64 → q s = true → q (s ||| 2 ^ v.val) = true) (k : Nat) : (onJ q (2 ^ v.val) (k + 1)).length = (offJ q (2 ^ v.val) k).length := by
  have h1 : Card (fun s => s ∈ offJ q (2 ^ v.val) k) (offJ q (2 ^ v.val) k).length := ⟨_, (J_nodup q k).filter _, fun _ => Iff.rfl, rfl⟩
  have h2 : Card (fun s => s ∈ onJ q (2 ^ v.val) (k + 1)) (onJ q (2 ^ v.val) (k + 1)).length := ⟨_, (J_nodup q (k + 1)).filter _, fun _ => Iff.rfl, rfl⟩
  have m1 : ∀ s, s ∈ offJ q (2 ^ v.val) k ↔ (s < 64 ∧ pc s = k ∧ q s = true) ∧ s &&& 2 ^ v.val = 0 := fun s => by
    unfold offJ; rw [List.mem_filter, mem_J, beq_iff_eq]
  have m2 : ∀ s, s ∈ onJ q (2 ^ v.val) (k + 1) ↔ (s < 64 ∧ pc s = k + 1 ∧ q s = true) ∧ s &&& 2 ^ v.val ≠ 0 := fun s => by
    unfold onJ; rw [List.mem_filter, mem_J]; simp
  refine (h2.unique (h1.bij (fun s => s ||| 2 ^ v.val) (fun s => s ^^^ 2 ^ v.val) ?_ ?_ ?_ ?_))
  · intro s hs
    obtain ⟨⟨a1, a2, a3⟩, a4⟩ := (m1 s).1 hs
    obtain ⟨b1, b2, b3, _⟩ := pt_add v ⟨s, a1⟩ a4
    exact (m2 _).2 ⟨⟨b1, b2.trans (by rw [← a2]), hc s a1 a3⟩, b3⟩
  · intro s hs
    obtain ⟨⟨a1, a2, a3⟩, a4⟩ := (m2 s).1 hs
    obtain ⟨b1, b2, b3, _, b5⟩ := pt_off v ⟨s, a1⟩ a4
    try dsimp only at b2
    exact (m1 _).2 ⟨⟨b1, by omega, hq _ s b1 a1 b5 a3⟩, b3⟩
  · intro s hs
    obtain ⟨⟨a1, _, _⟩, a4⟩ := (m1 s).1 hs
    exact (pt_add v ⟨s, a1⟩ a4).2.2.2
  · intro s hs
    obtain ⟨⟨a1, _, _⟩, a4⟩ := (m2 s).1 hs
    exact (pt_off v ⟨s, a1⟩ a4).2.2.2.1
theorem on_zero (q : Nat → Bool) (m : Nat) : onJ q m 0 = [] := by
  unfold onJ
  rw [List.filter_eq_nil_iff]
  intro s hs
  obtain ⟨h1, h2, _⟩ := (mem_J q 0 s).1 hs
  have := pc_zero ⟨s, h1⟩
  try dsimp only at this
  rw [h2] at this
  have h0 : s = 0 := by simpa using this.symm
  subst h0
  simp
/-- A cycle of a cone is told by what lies off the apex. -/
theorem cone_rank {p : Nat} (hP : IsP p) {q : Nat → Bool} (hq : Down q) (v : Fin 6) (hc : ∀ s, s < 64 → q s = true → q (s ||| 2 ^ v.val) = true) (k : Nat) : (offJ q (2 ^ v.val) k).length ≤ rk p q (k + 1) := by
  obtain ⟨h1, l1⟩ := card_cyc hP hq (k + 1)
  have hn : (offJ q (2 ^ v.val) (k + 1)).Nodup := (J_nodup q (k + 1)).filter _
  have hle := Card.inj_le h1 (card_vec p _ hn) (fun y s => if s ∈ offJ q (2 ^ v.val) (k + 1) then y s else 0)
    (fun y hy => ⟨fun s hs => by dsimp only; rw [if_pos hs]; exact hy.1.1 s (List.mem_filter.1 hs).1, fun s hs => if_neg hs⟩)
    (fun x y hx hy e => by
      have hA : ∀ s, s ∈ offJ q (2 ^ v.val) (k + 1) → x s = y s := fun s hs => by
        have := congrFun e s
        try dsimp only at this
        rw [if_pos hs, if_pos hs] at this
        exact this
      funext s
      by_cases hs : s ∈ J q (k + 1)
      · by_cases hm : s &&& 2 ^ v.val = 0
        · exact hA s (List.mem_filter.2 ⟨hs, by rw [hm]; rfl⟩)
        · obtain ⟨a1, a2, a3⟩ := (mem_J q (k + 1) s).1 hs
          obtain ⟨b1, b2, b3, b4, b5⟩ := pt_off v ⟨s, a1⟩ hm
          try dsimp only at b1 b2 b3 b4 b5
          obtain ⟨t, ht⟩ : ∃ t, s ^^^ 2 ^ v.val = t := ⟨_, rfl⟩
          rw [ht] at b1 b2 b3 b4 b5
          have hsum : bd x t - bd y t = sgn t s * (x s - y s) := by
            have e1 : bd x t = bd (fun u => (x u - y u) + y u) t := bd_congr t fun u _ _ _ => by omega
            have e2 : bd (fun u => x u - y u) t = sm (J q (k + 1)) fun u => sgn t u * (x u - y u) := by
              unfold bd S J
              rw [sm_filter]
              refine sm_congr _ _ _ fun u hu => ?_
              split
              · rfl
              · rename_i hn
                have hu2 : u ∉ J q (k + 1) := fun hm2 => by unfold J at hm2; exact absurd (List.mem_filter.1 hm2).2 hn
                show sgn t u * (x u - y u) = 0
                rw [hx.1.2 u hu2, hy.1.2 u hu2]; simp
            rw [e1, bd_add, e2]
            rw [sm_one s (fun u => sgn t u * (x u - y u)) _ (J_nodup q (k + 1)) hs fun u hu hus => by
              obtain ⟨u1, u2, _⟩ := (mem_J q (k + 1) u).1 hu
              try dsimp only
              by_cases hum : u &&& 2 ^ v.val = 0
              · rw [hA u (List.mem_filter.2 ⟨hu, by rw [hum]; rfl⟩)]; simp
              · rw [sgn_zero fun hh => hus ((pt_only v ⟨t, b1⟩ ⟨u, u1⟩ b3 hh.1 hh.2 hum).trans b4)]; simp]
            omega
          have hd : (p : Int) ∣ sgn t s * (x s - y s) := by
            rw [← hsum]; exact Int.dvd_sub (hx.2 t b1) (hy.2 t b1)
          have hs1 : sgn t s = 1 ∨ sgn t s = -1 := by
            unfold sgn
            rw [if_pos ⟨b5, by omega⟩]
            omega
          refine vec_ext hx.1 hy.1 s ?_
          rcases hs1 with h | h
          · rw [h, Int.one_mul] at hd; exact hd
          · rw [h] at hd
            have : (p : Int) ∣ -(-1 * (x s - y s)) := Int.dvd_neg.2 hd
            rw [show -(-1 * (x s - y s)) = x s - y s by omega] at this
            exact this
      · rw [hx.1.2 s hs, hy.1.2 s hs])
  have := (Nat.pow_le_pow_iff_right hP.1).1 hle
  have e1 := off_on q (2 ^ v.val) (k + 1)
  have e2 := on_off hq v hc k
  unfold fN at e1
  omega
/-- CONES HAVE NO HOLES. -/
theorem cone_none {p : Nat} (hP : IsP p) {q : Nat → Bool} (hq : Down q) (v : Fin 6) (hc : ∀ s, s < 64 → q s = true → q (s ||| 2 ^ v.val) = true) (k : Nat) : hol p q k = 0 := by
  have r0 := cone_rank hP hq v hc k
  have n0 := rk_rk hP hq k
  cases k with
  | zero =>
    have e1 := off_on q (2 ^ v.val) 0
    rw [on_zero] at e1
    have : rk p q 0 = 0 := rfl
    unfold hol
    simp at e1
    omega
  | succ k =>
    have r1 := cone_rank hP hq v hc (k)
    have e1 := off_on q (2 ^ v.val) (k + 1)
    have e2 := on_off hq v hc k
    unfold hol
    omega

end Hom
end Go.Proofs.Ytenpcjmhlnalcaa

/-! JOINS, of no program: the faces of joins, of disjoint unions, of cross complexes. -/

namespace Go.Proofs.Ytenpcjmhlnalcaa
namespace Join
open Sets Lin Hom

theorem sub_parts {n f g s : Nat} (hf : f < 2 ^ n) : sub s (f + 2 ^ n * g) = (sub (s % 2 ^ n) f && sub (s / 2 ^ n) g) := by
  rw [Bool.eq_iff_iff, Bool.and_eq_true, sub_iff, sub_iff, sub_iff, Nat.add_comm]
  constructor
  · intro h
    constructor
    · intro i hi
      rw [Nat.testBit_mod_two_pow, Bool.and_eq_true, decide_eq_true_eq] at hi
      have := h i hi.2
      rwa [Nat.testBit_two_pow_mul_add _ hf, if_pos hi.1] at this
    · intro i hi
      rw [Nat.testBit_div_two_pow] at hi
      have := h _ hi
      rwa [Nat.testBit_two_pow_mul_add _ hf, if_neg (by omega), show i + n - n = i by omega] at this
  · rintro ⟨h1, h2⟩ i hi
    rw [Nat.testBit_two_pow_mul_add _ hf]
    by_cases e : i < n
    · rw [if_pos e]; exact h1 i (by rw [Nat.testBit_mod_two_pow, decide_eq_true e, hi]; rfl)
    · rw [if_neg e]; exact h2 (i - n) (by rw [Nat.testBit_div_two_pow, show i - n + n = i by omega]; exact hi)

/-- The sets of a join: each facet of the one with each of the other. -/
def pairs (n : Nat) (xs ys : List Int) : List Int := xs.flatMap fun x => ys.map fun y => x + 2 ^ n * y
def disQ (n : Nat) (q r : Nat → Bool) (s : Nat) : Bool := (decide (s < 2 ^ n) && q s) || (s % 2 ^ n == 0 && r (s / 2 ^ n))
def both (n : Nat) (xs ys : List Int) : List Int := xs ++ ys.map fun y => 2 ^ n * y

theorem inF_pairs {n : Nat} {xs ys : List Int} (hx : ∀ x, x ∈ xs → ∃ f : Nat, x = (f : Int) ∧ f < 2 ^ n) (hy : ∀ y, y ∈ ys → ∃ g : Nat, y = (g : Int)) (s : Nat) : inF (pairs n xs ys) s = joinQ n (inF xs) (inF ys) s := by
  unfold joinQ
  rw [Bool.eq_iff_iff, Bool.and_eq_true, inF_iff, inF_iff, inF_iff]
  unfold pairs
  constructor
  · rintro ⟨z, hz, hs⟩
    obtain ⟨x, hx', hz⟩ := List.mem_flatMap.1 hz
    obtain ⟨y, hy', rfl⟩ := List.mem_map.1 hz
    obtain ⟨f, rfl, hf⟩ := hx x hx'
    obtain ⟨g, rfl⟩ := hy y hy'
    have e : ((f : Int) + 2 ^ n * (g : Int)).toNat = f + 2 ^ n * g := by
      rw [show (2 : Int) ^ n * (g : Int) = ((2 ^ n * g : Nat) : Int) by push_cast; rfl]; omega
    rw [e, sub_parts hf, Bool.and_eq_true] at hs
    exact ⟨⟨_, hx', hs.1⟩, ⟨_, hy', hs.2⟩⟩
  · rintro ⟨⟨x, hx', h1⟩, ⟨y, hy', h2⟩⟩
    obtain ⟨f, rfl, hf⟩ := hx x hx'
    obtain ⟨g, rfl⟩ := hy y hy'
    refine ⟨(f : Int) + 2 ^ n * (g : Int), List.mem_flatMap.2 ⟨_, hx', List.mem_map.2 ⟨_, hy', rfl⟩⟩, ?_⟩
    have e : ((f : Int) + 2 ^ n * (g : Int)).toNat = f + 2 ^ n * g := by
      rw [show (2 : Int) ^ n * (g : Int) = ((2 ^ n * g : Nat) : Int) by push_cast; rfl]; omega
    rw [e, sub_parts hf, Bool.and_eq_true]
    exact ⟨h1, h2⟩

theorem inF_both {n : Nat} {xs ys : List Int} (hx : ∀ x, x ∈ xs → ∃ f : Nat, x = (f : Int) ∧ f < 2 ^ n) (hy : ∀ y, y ∈ ys → ∃ g : Nat, y = (g : Int)) (s : Nat) : inF (both n xs ys) s = disQ n (inF xs) (inF ys) s := by
  have h2 := Nat.two_pow_pos n
  unfold disQ both
  rw [Bool.eq_iff_iff, Bool.or_eq_true, Bool.and_eq_true, Bool.and_eq_true, decide_eq_true_eq, beq_iff_eq, inF_iff, inF_iff, inF_iff]
  have e : ∀ g : Nat, ((2 : Int) ^ n * (g : Int)).toNat = 0 + 2 ^ n * g := fun g => by
    rw [show (2 : Int) ^ n * (g : Int) = ((2 ^ n * g : Nat) : Int) by push_cast; rfl]; omega
  have z : ∀ t : Nat, sub t 0 = true ↔ t = 0 := fun t => ⟨fun h => by have := sub_le h; omega, fun h => by rw [h]; exact sub_refl 0⟩
  constructor
  · rintro ⟨z', hz, hs⟩
    rcases List.mem_append.1 hz with hz | hz
    · obtain ⟨f, rfl, hf⟩ := hx z' hz
      have := sub_le hs
      exact .inl ⟨by simp at this; omega, _, hz, hs⟩
    · obtain ⟨y, hy', rfl⟩ := List.mem_map.1 hz
      obtain ⟨g, rfl⟩ := hy y hy'
      rw [e, sub_parts h2, Bool.and_eq_true, z] at hs
      exact .inr ⟨hs.1, _, hy', hs.2⟩
  · rintro (⟨hl, x, hx', h⟩ | ⟨h0, y, hy', h⟩)
    · exact ⟨x, List.mem_append_left _ hx', h⟩
    · obtain ⟨g, rfl⟩ := hy y hy'
      exact ⟨_, List.mem_append_right _ (List.mem_map.2 ⟨_, hy', rfl⟩), by rw [e, sub_parts h2, Bool.and_eq_true, z]; exact ⟨h0, h⟩⟩

theorem sub_mod {n s t : Nat} (h : sub s t = true) : sub (s % 2 ^ n) (t % 2 ^ n) = true := by
  rw [sub_iff] at h ⊢
  intro i hi
  rw [Nat.testBit_mod_two_pow, Bool.and_eq_true] at hi ⊢
  exact ⟨hi.1, h i hi.2⟩
theorem sub_div {n s t : Nat} (h : sub s t = true) : sub (s / 2 ^ n) (t / 2 ^ n) = true := by
  rw [sub_iff] at h ⊢
  intro i hi
  rw [Nat.testBit_div_two_pow] at hi ⊢
  exact h _ hi
theorem joinQ_down {n : Nat} {q r : Nat → Bool} (hq : Down q) (hr : Down r) : Down (joinQ n q r) := fun s t hs ht h k => by
  unfold joinQ at k ⊢
  rw [Bool.and_eq_true] at k ⊢
  have hm := fun x => Nat.mod_le x (2 ^ n)
  have hd := fun x => Nat.div_le_self x (2 ^ n)
  have a1 := hm s
  have a2 := hm t
  have a3 := hd s
  have a4 := hd t
  exact ⟨hq _ _ (by omega) (by omega) (sub_mod h) k.1, hr _ _ (by omega) (by omega) (sub_div h) k.2⟩
theorem disQ_down {n : Nat} {q r : Nat → Bool} (hq : Down q) (hr : Down r) : Down (disQ n q r) := fun s t hs ht h k => by
  unfold disQ at k ⊢
  rw [Bool.or_eq_true, Bool.and_eq_true, Bool.and_eq_true, decide_eq_true_eq, beq_iff_eq] at k ⊢
  have hd := fun x => Nat.div_le_self x (2 ^ n)
  have a3 := hd s
  have a4 := hd t
  have a5 := sub_le h
  rcases k with ⟨k1, k2⟩ | ⟨k1, k2⟩
  · exact .inl ⟨by omega, hq s t hs ht h k2⟩
  · refine .inr ⟨?_, hr _ _ (by omega) (by omega) (sub_div h) k2⟩
    have := sub_le (sub_mod (n := n) h)
    omega

/-- The sets that contain no two points 2 i and 2 i + 1, of k pairs. -/
def crossQ (k s : Nat) : Bool := (List.range k).all fun i => !(s / 2 ^ (2 * i) % 4 == 3)

def joinOk (n m : Int) (xs ys : List Int) : Bool := isC n xs && isC m ys && decide (n + m ≤ 6)
def joinO (n m : Int) (xs ys : List Int) := partO (joinOk n m xs ys) (n + m) (joinQ n.toNat (inF xs) (inF ys))
def disO (n m : Int) (xs ys : List Int) := partO (joinOk n m xs ys) (n + m) (disQ n.toNat (inF xs) (inF ys))
def crossO (k : Int) := partO (inB 1 3 k) (2 * k) fun s => decide (s < 2 ^ (2 * k.toNat)) && crossQ k.toNat s
/-- The points of all facets. -/
def conePts (n : Int) (xs : List Int) : Nat := if isC n xs = true ∧ xs ≠ [] then xs.foldl (fun a x => a &&& x.toNat) 63 else 0

theorem card_ord (q : Nat → Bool) : Card (fun s => s < 64 ∧ q s = true) (ord q).length := by
  refine Card.bij (S := fun x : Int => x ∈ ord q) ⟨ord q, ?_, fun _ => Iff.rfl, rfl⟩ Int.toNat (fun s : Nat => (s : Int)) ?_ ?_ ?_ ?_
  · exact (ord_rises q).imp fun {a b} h e => by subst e; exact befZ_asym h h
  · intro x hx
    obtain ⟨s, rfl, h1, h2⟩ := (mem_ord q x).1 hx
    exact ⟨h1, h2⟩
  · rintro s ⟨h1, h2⟩
    exact (mem_ord q _).2 ⟨s, rfl, h1, h2⟩
  · intro x hx
    obtain ⟨s, rfl, h1, h2⟩ := (mem_ord q x).1 hx
    rfl
  · rintro s _
    rfl
/-- FACES OF A JOIN ARE PAIRS OF FACES. -/
theorem join_faces {n m : Nat} (hnm : n + m ≤ 6) {q r : Nat → Bool} (hq : Low n q) (hr : Low m r) : (ord (joinQ n q r)).length = (ord q).length * (ord r).length := by
  refine (card_ord _).unique (((card_ord q).prod (card_ord r)).bij (fun z => z.1 + 2 ^ n * z.2) (fun s => (s % 2 ^ n, s / 2 ^ n)) ?_ ?_ ?_ ?_)
  all_goals have h2 := Nat.two_pow_pos n
  · rintro ⟨a, b⟩ ⟨⟨ha, qa⟩, ⟨hb, rb⟩⟩
    dsimp only at ha qa hb rb ⊢
    have la := hq a ha qa
    have lb := hr b hb rb
    have e1 : (a + 2 ^ n * b) % 2 ^ n = a := by rw [Nat.add_mul_mod_self_left]; exact Nat.mod_eq_of_lt la
    have e2 : (a + 2 ^ n * b) / 2 ^ n = b := by rw [Nat.add_mul_div_left _ _ h2, Nat.div_eq_of_lt la, Nat.zero_add]
    refine ⟨?_, by unfold joinQ; rw [e1, e2, qa, rb]; rfl⟩
    have : 2 ^ n * (b + 1) ≤ 2 ^ n * 2 ^ m := Nat.mul_le_mul_left _ (by omega)
    rw [← Nat.pow_add, Nat.mul_add] at this
    have := Nat.pow_le_pow_right (n := 2) (by decide) hnm
    omega
  · rintro s ⟨h, k⟩
    unfold joinQ at k
    rw [Bool.and_eq_true] at k
    have a1 := Nat.mod_le s (2 ^ n)
    have a2 := Nat.div_le_self s (2 ^ n)
    exact ⟨⟨by dsimp only; omega, k.1⟩, ⟨by dsimp only; omega, k.2⟩⟩
  · rintro ⟨a, b⟩ ⟨⟨ha, qa⟩, _⟩
    dsimp only at ha qa ⊢
    have la := hq a ha qa
    rw [Nat.add_mul_mod_self_left, Nat.mod_eq_of_lt la, Nat.add_mul_div_left _ _ h2, Nat.div_eq_of_lt la, Nat.zero_add]
  · rintro s _
    exact Nat.mod_add_div s (2 ^ n)

end Join
end Go.Proofs.Ytenpcjmhlnalcaa

/-! THE LIST OF HOLES, of no program: cones, suspensions, cross complexes. -/

namespace Go.Proofs.Ytenpcjmhlnalcaa
namespace Hom
open Sets Lin Join

theorem J_congr {q r : Nat → Bool} (h : ∀ s, s < 64 → q s = r s) (k : Nat) : J q k = J r k := List.filter_congr fun s hs => by rw [h s (List.mem_range.1 hs)]
theorem rk_congr {q r : Nat → Bool} (h : ∀ s, s < 64 → q s = r s) (p k : Nat) : rk p q k = rk p r k := by unfold rk bdm; rw [J_congr h, J_congr h]
theorem hol_congr {q r : Nat → Bool} (h : ∀ s, s < 64 → q s = r s) (p k : Nat) : hol p q k = hol p r k := by unfold hol fN; rw [J_congr h, rk_congr h, rk_congr h]

/-- The holes of a complex by size. -/
def holL (p : Nat) (n : Int) (xs : List Int) : List Int := (List.range (top (faces n xs))).map fun k => hol p (inF xs) k
theorem holL_length (p : Nat) (n : Int) (xs : List Int) : (holL p n xs).length = top (faces n xs) := by unfold holL; rw [List.length_map, List.length_range]
theorem faces_ord {n : Int} {xs : List Int} (h : isC n xs = true) : faces n xs = ord (inF xs) := by unfold faces; rw [if_pos h]
theorem holL_ord (p : Nat) {n : Int} {xs : List Int} (h : isC n xs = true) {q : Nat → Bool} (hq : ∀ s, s < 64 → inF xs s = q s) : holL p n xs = (List.range (top (ord q))).map fun k => hol p q k := by
  unfold holL
  rw [faces_ord h, ord_congr hq]
  exact List.map_congr_left fun k _ => hol_congr hq p k

theorem joinQ_one {n : Nat} {q : Nat → Bool} (hq : Low n q) (s : Nat) (hs : s < 64) : joinQ n q (inF [1]) s = addQ n q q s := by
  have h2 := Nat.two_pow_pos n
  have f0 : inF [1] 0 = true := by decide
  have f1 : inF [1] 1 = true := by decide
  have f2 : ∀ t, 2 ≤ t → inF [1] t = false := fun t ht => by
    rw [Bool.eq_false_iff]; intro h
    obtain ⟨f, hf, hs⟩ := (inF_iff _ _).1 h
    rw [List.mem_singleton.1 hf] at hs
    have := sub_le hs; simp at this; omega
  unfold joinQ
  by_cases e : s < 2 ^ n
  · rw [addQ_lo e, Nat.mod_eq_of_lt e, Nat.div_eq_of_lt e, f0, Bool.and_true]
  · obtain ⟨t, rfl⟩ : ∃ t, s = 2 ^ n + t := ⟨s - 2 ^ n, by omega⟩
    rw [addQ_hi, Nat.add_mod_left, Nat.add_div_left _ h2]
    by_cases e2 : t < 2 ^ n
    · rw [Nat.mod_eq_of_lt e2, Nat.div_eq_of_lt e2, f1, Bool.and_true]
    · rw [f2 _ (by have := (Nat.one_le_div_iff h2).2 (Nat.le_of_not_lt e2); omega), Bool.and_false, low_false hq (by omega) (by omega)]

theorem joinQ_two {n : Nat} {q : Nat → Bool} (hq : Low n q) (s : Nat) (hs : s < 64) : joinQ n q (inF [1, 2]) s = suspQ n q s := by
  have h2 := Nat.two_pow_pos n
  have h3 := pow_two n
  have f0 : inF [1, 2] 0 = true := by decide
  have f1 : inF [1, 2] 1 = true := by decide
  have f2 : inF [1, 2] 2 = true := by decide
  have f3 : ∀ t, 3 ≤ t → inF [1, 2] t = false := fun t ht => by
    rw [Bool.eq_false_iff]; intro h
    obtain ⟨f, hf, hs⟩ := (inF_iff _ _).1 h
    rcases List.mem_cons.1 hf with rfl | hf
    · have := sub_le hs; simp at this; omega
    · rw [List.mem_singleton.1 hf] at hs
      have := sub_le hs; simp at this; omega
  unfold joinQ suspQ
  by_cases e : s < 2 ^ n
  · rw [addQ_lo (by omega), addQ_lo e, Nat.mod_eq_of_lt e, Nat.div_eq_of_lt e, f0, Bool.and_true]
  · obtain ⟨t, rfl⟩ : ∃ t, s = 2 ^ n + t := ⟨s - 2 ^ n, by omega⟩
    rw [Nat.add_mod_left, Nat.add_div_left _ h2]
    by_cases e2 : t < 2 ^ n
    · rw [addQ_lo (by omega), addQ_hi, Nat.mod_eq_of_lt e2, Nat.div_eq_of_lt e2, f1, Bool.and_true]
    · obtain ⟨u, rfl⟩ : ∃ u, t = 2 ^ n + u := ⟨t - 2 ^ n, by omega⟩
      rw [show 2 ^ n + (2 ^ n + u) = 2 ^ (n + 1) + u by omega, addQ_hi, Nat.add_mod_left, Nat.add_div_left _ h2]
      by_cases e3 : u < 2 ^ n
      · rw [Nat.mod_eq_of_lt e3, Nat.div_eq_of_lt e3, f2, Bool.and_true]
      · rw [f3 _ (by have := (Nat.one_le_div_iff h2).2 (Nat.le_of_not_lt e3); omega), Bool.and_false, low_false hq (by omega) (by omega)]

theorem top_hit (L : List Int) (h : 0 < top L) : ∃ x, x ∈ L ∧ pc x.toNat + 1 = top L := by
  apply Classical.byContradiction
  intro hno
  have := top_le_of L (top L - 1) fun x hx => by
    have := top_ge L x hx
    have : ¬(pc x.toNat + 1 = top L) := fun e => hno ⟨x, hx, e⟩
    omega
  omega
theorem top_pos {q : Nat → Bool} (h : q 0 = true) : 0 < top (ord q) := by
  have := top_ge (ord q) 0 ((mem_ord q 0).2 ⟨0, rfl, by decide, h⟩)
  omega
theorem top_susp {n : Nat} (hn : n ≤ 4) {q : Nat → Bool} (hq : Low n q) (h0 : q 0 = true) : top (ord (suspQ n q)) = top (ord q) + 1 := by
  have h3 := pow_two n
  have h64 := pow64 (n := n + 1 + 1) (by omega)
  have h2p := Nat.two_pow_pos n
  have h4 := pow_two (n + 1)
  have ge : ∀ s, s < 64 → q s = true → pc s + 1 ≤ top (ord q) := fun s hs h => top_ge (ord q) s ((mem_ord q _).2 ⟨s, rfl, hs, h⟩)
  apply Nat.le_antisymm
  · refine top_le_of _ _ fun x hx => ?_
    obtain ⟨s, rfl, hs, hq'⟩ := (mem_ord _ x).1 hx
    show pc s + 1 ≤ _
    unfold suspQ at hq'
    by_cases e : s < 2 ^ (n + 1)
    · rw [addQ_lo e] at hq'
      by_cases e2 : s < 2 ^ n
      · rw [addQ_lo e2] at hq'
        have := ge s hs hq'; omega
      · obtain ⟨t, rfl⟩ : ∃ t, s = 2 ^ n + t := ⟨s - 2 ^ n, by omega⟩
        rw [addQ_hi] at hq'
        rw [pc_blk (by omega) (by omega)]
        have := ge t (by omega) hq'; omega
    · obtain ⟨t, rfl⟩ : ∃ t, s = 2 ^ (n + 1) + t := ⟨s - 2 ^ (n + 1), by omega⟩
      rw [addQ_hi] at hq'
      have hl := hq t (by omega) hq'
      rw [pc_blk (by omega) (by omega)]
      have := ge t (by omega) hq'; omega
  · obtain ⟨x, hx, e⟩ := top_hit (ord q) (top_pos h0)
    obtain ⟨s, rfl, hs, hqs⟩ := (mem_ord _ x).1 hx
    have hl := hq s hs hqs
    rw [← e]
    have := top_ge (ord (suspQ n q)) ((2 ^ n + s : Nat) : Int) ((mem_ord _ _).2 ⟨2 ^ n + s, rfl, by omega, by unfold suspQ; rw [addQ_lo (by omega), addQ_hi]; exact hqs⟩)
    rw [show (((2 ^ n + s : Nat) : Int)).toNat = 2 ^ n + s from rfl, pc_blk (by omega) hl] at this
    exact this

theorem range_succ_map {α : Type} (f : Nat → α) (m : Nat) : (List.range (m + 1)).map f = f 0 :: (List.range m).map fun k => f (k + 1) := by
  rw [List.range_succ_eq_map, List.map_cons, List.map_map]; rfl

theorem inF_low {n : Int} {xs : List Int} (h : isC n xs = true) : Low n.toNat (inF xs) := fun s _ hs => by
  have := inF_set h s hs
  unfold setB at this
  rw [decide_eq_true_eq] at this
  have h2 := this.2.2.2
  rw [show (2 : Int) ^ n.toNat = ((2 ^ n.toNat : Nat) : Int) by push_cast; rfl] at h2
  omega
theorem inF_zero {xs : List Int} (h : xs ≠ []) : inF xs 0 = true := by
  obtain ⟨x, l, rfl⟩ := List.exists_cons_of_ne_nil h
  exact (inF_iff _ _).2 ⟨x, List.mem_cons_self .., by unfold sub; simp⟩

/-- The cone's list of holes. -/
theorem holL_cone {p : Nat} (hP : IsP p) {n : Int} {xs : List Int} (h : isC n xs = true) (hn : n ≤ 5) (h0 : xs ≠ []) (hc : isC (n + 1) (maxQ (joinQ n.toNat (inF xs) (inF [1]))) = true) :
    0 < (holL p (n + 1) (maxQ (joinQ n.toNat (inF xs) (inF [1])))).length ∧ ∀ x, x ∈ holL p (n + 1) (maxQ (joinQ n.toNat (inF xs) (inF [1]))) → x = 0 := by
  have hn' := isC_n h
  have hl := inF_low h
  have dq := joinQ_down (n := n.toNat) (inF_down xs) (inF_down [1])
  have e : ∀ s, s < 64 → inF (maxQ (joinQ n.toNat (inF xs) (inF [1]))) s = addQ n.toNat (inF xs) (inF xs) s := fun s hs => by
    rw [inF_maxQ _ dq s hs, joinQ_one hl s hs]
  rw [holL_ord p hc e, List.length_map, List.length_range]
  refine ⟨top_pos ?_, fun x hx => ?_⟩
  · rw [addQ_lo (Nat.two_pow_pos _)]; exact inF_zero h0
  · obtain ⟨k, _, rfl⟩ := List.mem_map.1 hx
    exact cone_hol hP (by omega) hl (inF_down xs) k
/-- The suspension's list of holes. -/
theorem holL_susp {p : Nat} (hP : IsP p) {n : Int} {xs : List Int} (h : isC n xs = true) (hn : n ≤ 4) (h0 : xs ≠ []) (hc : isC (n + 2) (maxQ (joinQ n.toNat (inF xs) (inF [1, 2]))) = true) :
    holL p (n + 2) (maxQ (joinQ n.toNat (inF xs) (inF [1, 2]))) = 0 :: holL p n xs := by
  have hn' := isC_n h
  have hl := inF_low h
  have dq := joinQ_down (n := n.toNat) (inF_down xs) (inF_down [1, 2])
  have e : ∀ s, s < 64 → inF (maxQ (joinQ n.toNat (inF xs) (inF [1, 2]))) s = suspQ n.toNat (inF xs) s := fun s hs => by
    rw [inF_maxQ _ dq s hs, joinQ_two hl s hs]
  obtain ⟨k1, k2⟩ := susp_hol hP (n := n.toNat) (by omega) hl (inF_down xs)
  rw [holL_ord p hc e, holL_ord p h fun _ _ => rfl, top_susp (by omega) hl (inF_zero h0), range_succ_map, k1]
  exact congrArg _ (List.map_congr_left fun k _ => k2 k)

end Hom
end Go.Proofs.Ytenpcjmhlnalcaa

/-! THE LIST OF HOLES that spec's chapter 14 makes is that of the mathematics. -/

namespace Go.Proofs.Ytenpcjmhlnalcaa
namespace Hom
open Sets Lin Join

theorem J_rises (q : Nat → Bool) (k : Nat) : Rises ((J q k).map Int.ofNat) := by
  unfold Rises
  rw [List.pairwise_map]
  have h : (J q k).Pairwise (· < ·) := List.Pairwise.filter _ List.pairwise_lt_range
  refine h.imp_of_mem fun {a b} ha hb hab => ?_
  obtain ⟨a1, a2, _⟩ := (mem_J q k a).1 ha
  obtain ⟨b1, b2, _⟩ := (mem_J q k b).1 hb
  show befZ (a : Int) (b : Int) = true
  rw [befZ_nat a b a1 b1, befN_iff]
  exact .inr ⟨by omega, hab⟩
theorem sized_ord (q : Nat → Bool) (k : Nat) : sized (k : Int) (ord q) = (J q k).map Int.ofNat := by
  refine rises_eq _ _ ?_ (J_rises q k) fun x => ?_
  · exact List.Pairwise.filter _ (ord_rises q)
  · unfold sized
    rw [List.mem_filter, List.mem_map, mem_ord]
    constructor
    · rintro ⟨⟨s, rfl, h1, h2⟩, h3⟩
      have h4 : ((pc s : Nat) : Int) = (k : Int) := by simpa using h3
      exact ⟨s, (mem_J q k s).2 ⟨h1, by omega, h2⟩, rfl⟩
    · rintro ⟨s, hs, rfl⟩
      obtain ⟨h1, h2, h3⟩ := (mem_J q k s).1 hs
      exact ⟨⟨s, rfl, h1, h3⟩, by simp [h2]⟩
theorem cnt_ord (q : Nat → Bool) (k : Nat) : cnt k (ord q) = fN q k := by
  rw [← sized_cnt, sized_ord, List.length_map]; rfl
theorem rkF_ord (p : Nat) (q : Nat → Bool) (k : Nat) : rkF p (ord q) (k + 1) = rk p q (k + 1) := by
  rw [rkF_succ]
  unfold rk
  rw [if_neg (by omega), show ((k : Int) + 1 - 1) = (k : Int) by omega, show ((k : Int) + 1) = ((k + 1 : Nat) : Int) by omega, sized_ord, sized_ord, List.length_map]
  congr 1
  unfold borM borR bdm
  rw [List.map_map]
  refine List.map_congr_left fun t _ => ?_
  rw [Function.comp_apply, List.map_map]; rfl
theorem holF_ord {p : Nat} (hP : IsP p) {q : Nat → Bool} (hq : Down q) : holF p (ord q) (top (ord q)) = (List.range (top (ord q))).map fun k => hol p q k := by
  unfold holF
  refine List.map_congr_left fun k hk => ?_
  have hk := List.mem_range.1 hk
  unfold hol
  rw [cnt_ord]
  have h1 : loR p (ord q) k = rk p q k := by
    unfold loR
    cases k with
    | zero => rfl
    | succ k => rw [if_neg (by omega), rkF_ord]
  have h2 : hiR p (ord q) k = rk p q (k + 1) := by
    unfold hiR
    by_cases e : k + 1 < top (ord q)
    · rw [if_pos e, rkF_ord]
    · rw [if_neg e]
      have := cyc_le hP hq (k + 1)
      rw [← cnt_ord, ge_top _ _ (by omega)] at this
      omega
  rw [h1, h2]
theorem holF_holL {p : Nat} (hP : IsP p) {n : Int} {xs : List Int} (h : isC n xs = true) : holF p (faces n xs) (top (faces n xs)) = holL p n xs := by
  rw [faces_ord h, holF_ord hP (inF_down xs), holL_ord p h fun _ _ => rfl]

/-! ### the cross complexes -/

def crossL (k : Nat) : List Int := if k = 1 then [1, 2] else if k = 2 then [5, 6, 9, 10] else [21, 22, 25, 26, 37, 38, 41, 42]
theorem cross_two : holF 2 (faces 2 (crossL 1)) (top (faces 2 (crossL 1))) = [0, 1] := by decide +kernel
theorem cross_four : holF 2 (faces 4 (crossL 2)) (top (faces 4 (crossL 2))) = [0, 0, 1] := by decide +kernel
theorem cross_six : holF 2 (faces 6 (crossL 3)) (top (faces 6 (crossL 3))) = [0, 0, 0, 1] := by decide +kernel

end Hom
end Go.Proofs.Ytenpcjmhlnalcaa
