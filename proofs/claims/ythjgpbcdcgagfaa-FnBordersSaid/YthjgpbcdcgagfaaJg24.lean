/-
  TEXTS of one claim, put together: Hom4, Join1, Hom5, WHol.
-/
import Derived.Test.YthjgpbcdcgagfaaJg23
import Derived.Test.YthjgpbcdcgagfaaJg3
import Derived.Test.YthjgpbcdcgagfaaJg7
import Derived.Test.YthjgpbcdcgagfaaWRed
import Derived.Test.YthjgpbcdcgagfaaJg21
import Derived.Test.YthjgpbcdcgagfaaJg11
/-! HOLES, of no program: the numbers of holes of a cone and of a suspension. -/

namespace Go.Proofs.Ythjgpbcdcgagfaa
namespace Hom
open Sets Lin

def fN (q : Nat → Bool) (k : Nat) : Nat := (J q k).length
/-- The holes of size k. -/
def hol (p : Nat) (q : Nat → Bool) (k : Nat) : Int := (fN q k : Int) - rk p q k - rk p q (k + 1)

theorem fN_sum (q : Nat → Bool) (k : Nat) : (fN q k : Int) = S fun s => if (pc s == k && q s) = true then 1 else 0 := sm_count _ _
theorem fN_add {n : Nat} (hn : n ≤ 5) {q l : Nat → Bool} (hq : Low n q) (hl : Low n l) (k : Nat) : fN (addQ n q l) (k + 1) = fN q (k + 1) + fN l k := by
  have h64 := pow64 (n := n + 1) (by omega)
  rw [pow_two] at h64
  have h0 : ∀ {f : Nat → Bool} {j : Nat}, Low n f → ∀ s, 2 ^ n ≤ s → s < 64 → (if (pc s == j && f s) = true then (1 : Int) else 0) = 0 := fun hf s h1 h2 => by
    rw [low_false hf h2 h1]; simp
  have : (fN (addQ n q l) (k + 1) : Int) = (fN q (k + 1) : Int) + (fN l k : Int) := by
    rw [fN_sum, fN_sum, fN_sum, S_two h64 fun s h1 h2 => by rw [low_false (addQ_low hl) h2 (by rw [pow_two]; omega)]; simp]
    rw [S_low (by omega) (h0 hq), S_low (by omega) (h0 hl)]
    congr 1
    · exact sm_congr _ _ _ fun s hs => by rw [addQ_lo (List.mem_range.1 hs)]
    · refine sm_congr _ _ _ fun s hs => ?_
      rw [addQ_hi, pc_blk hn (List.mem_range.1 hs)]
      simp
  omega
theorem fN_add0 {n : Nat} (hn : n ≤ 5) {q l : Nat → Bool} (hq : Low n q) (hl : Low n l) : fN (addQ n q l) 0 = fN q 0 := by
  have h64 := pow64 (n := n + 1) (by omega)
  rw [pow_two] at h64
  have : (fN (addQ n q l) 0 : Int) = (fN q 0 : Int) := by
    rw [fN_sum, fN_sum, S_two h64 fun s h1 h2 => by rw [low_false (addQ_low hl) h2 (by rw [pow_two]; omega)]; simp]
    rw [S_low (N := 2 ^ n) (by omega) (f := fun s => if (pc s == 0 && q s) = true then 1 else 0) fun s h1 h2 => by rw [low_false hq h2 h1]; simp]
    rw [sm_zero (List.range (2 ^ n)) (fun s => if (pc (2 ^ n + s) == 0 && addQ n q l (2 ^ n + s)) = true then 1 else 0) fun s hs => by rw [pc_blk hn (List.mem_range.1 hs)]; simp]
    rw [Int.add_zero]
    exact sm_congr _ _ _ fun s hs => by rw [addQ_lo (List.mem_range.1 hs)]
  omega

theorem cyc_le {p : Nat} (hP : IsP p) {q : Nat → Bool} (hq : Down q) (k : Nat) : rk p q k ≤ fN q k := (card_cyc hP hq k).2
theorem rk_of_card {p : Nat} (hP : IsP p) {q : Nat → Bool} (hq : Down q) {k d : Nat} (h : Card (Cyc p q k) (p ^ d)) : fN q k = d + rk p q k := by
  obtain ⟨h1, h2⟩ := card_cyc hP hq k
  have := pow_inj hP.1 (h1.unique h)
  unfold fN; omega

/-! ### cones -/

theorem cone_down {n : Nat} {q : Nat → Bool} (hq : Low n q) (dq : Down q) : Down (addQ n q q) := addQ_down dq dq hq fun _ _ h => h
theorem cone_rk {p : Nat} (hP : IsP p) {n : Nat} (hn : n ≤ 5) {q : Nat → Bool} (hq : Low n q) (dq : Down q) (k : Nat) : rk p (addQ n q q) (k + 1) = fN q k := by
  have hp : 0 < p := by have := hP.1; omega
  have hc : Card (Rel p q q (k + 1)) (p ^ fN q (k + 1)) := (card_chn p q (k + 1)).congr fun u => ⟨fun h => ⟨h, fun t ht hlt => by
    rw [bd_off dq h ht (by rw [hlt]; simp)]; exact ⟨0, by simp⟩⟩, fun h => h.1⟩
  have := rk_of_card hP (cone_down hq dq) (card_add hp hn hq hq dq dq (fun _ _ h => h) hc)
  rw [fN_add hn hq hq] at this
  omega
/-- A CONE HAS NO HOLES. -/
theorem cone_hol {p : Nat} (hP : IsP p) {n : Nat} (hn : n ≤ 5) {q : Nat → Bool} (hq : Low n q) (dq : Down q) : ∀ k, hol p (addQ n q q) k = 0
  | 0 => by
    unfold hol
    rw [fN_add0 hn hq hq, cone_rk hP hn hq dq 0, show rk p (addQ n q q) 0 = 0 from rfl]; omega
  | k + 1 => by
    unfold hol
    rw [fN_add hn hq hq, cone_rk hP hn hq dq k, cone_rk hP hn hq dq (k + 1)]; omega

/-! ### suspensions -/

theorem low_mono {n : Nat} {q : Nat → Bool} (h : Low n q) : Low (n + 1) q := fun s hs hq => by have := h s hs hq; rw [pow_two]; omega
theorem card_susp {p : Nat} {n : Nat} (hn : n ≤ 5) {q : Nat → Bool} (hq : Low n q) (dq : Down q) {k c d : Nat} (h : Card (Chn p q (k + 1)) c) (h' : Card (Cyc p q k) d) : Card (Rel p (addQ n q q) q (k + 1)) (c * d) := by
  have h64 := pow64 (n := n + 1) (by omega)
  rw [pow_two] at h64
  have hdown := cone_down hq dq
  refine (h.prod h').bij (fun z => glue (2 ^ n) z.1 z.2) (fun y => (cut (2 ^ n) 0 y, cut (2 ^ n) (2 ^ n) y)) ?_ ?_ ?_ ?_
  · rintro ⟨u, v⟩ ⟨hu, hv⟩
    have hg := glue_vec hn hq hu hv.1
    refine ⟨hg, fun t ht hlt => ?_⟩
    by_cases e : t < 2 ^ n
    · rw [bd_off hdown hg ht (by rw [addQ_lo e, hlt]; simp)]; exact ⟨0, by simp⟩
    · by_cases e2 : t < 2 ^ n + 2 ^ n
      · obtain ⟨t, rfl⟩ : ∃ t', t = 2 ^ n + t' := ⟨t - 2 ^ n, by omega⟩
        rw [bd_hi hn (add_zero_at hq hg) (by omega), cut_glue_hi hq hv.1]
        exact hv.2 t (by have := Nat.two_pow_pos n; omega)
      · rw [bd_off hdown hg ht (by rw [low_false (addQ_low hq) ht (by rw [pow_two]; omega)]; simp)]; exact ⟨0, by simp⟩
  · intro y hy
    refine ⟨cut_lo_vec hn hq hy.1, cut_hi_vec hn hq hy.1, fun t ht => ?_⟩
    by_cases e : t < 2 ^ n
    · rw [← bd_hi hn (add_zero_at hq hy.1) e]
      exact hy.2 _ (by omega) (low_false hq (by omega) (by omega))
    · dsimp only
      rw [bd_off dq (cut_hi_vec hn hq hy.1) ht (by rw [low_false hq ht (by omega)]; simp)]; exact ⟨0, by simp⟩
  · rintro ⟨u, v⟩ ⟨hu, hv⟩
    exact Prod.ext (cut_glue_lo hq hu) (cut_glue_hi hq hv.1)
  · intro y hy
    exact glue_cut hn hq hy.1

/-- The suspension over the points n and n + 1. -/
def suspQ (n : Nat) (q : Nat → Bool) : Nat → Bool := addQ (n + 1) (addQ n q q) q
theorem susp_down {n : Nat} {q : Nat → Bool} (hq : Low n q) (dq : Down q) : Down (suspQ n q) :=
  addQ_down (cone_down hq dq) dq (low_mono hq) fun s hs h => by rw [addQ_lo (hq s hs h)]; exact h
theorem susp_rk {p : Nat} (hP : IsP p) {n : Nat} (hn : n ≤ 4) {q : Nat → Bool} (hq : Low n q) (dq : Down q) (k : Nat) : rk p (suspQ n q) (k + 1) = fN q k + rk p q k := by
  have hp : 0 < p := by have := hP.1; omega
  obtain ⟨h1, h2⟩ := card_cyc hP dq k
  have hc := card_susp (by omega) hq dq (card_chn p q (k + 1)) h1
  rw [← Nat.pow_add] at hc
  have := rk_of_card hP (susp_down hq dq) (card_add hp (by omega) (addQ_low hq) (low_mono hq) (cone_down hq dq) dq (fun s hs h => by rw [addQ_lo (hq s hs h)]; exact h) hc)
  unfold suspQ at this ⊢
  rw [fN_add (by omega) (addQ_low hq) (low_mono hq), fN_add (by omega) hq hq] at this
  unfold fN at *
  omega
/-- THE HOLES OF A SUSPENSION are those of the complex, one size up. -/
theorem susp_hol {p : Nat} (hP : IsP p) {n : Nat} (hn : n ≤ 4) {q : Nat → Bool} (hq : Low n q) (dq : Down q) : hol p (suspQ n q) 0 = 0 ∧ ∀ k, hol p (suspQ n q) (k + 1) = hol p q k := by
  refine ⟨?_, fun k => ?_⟩
  · unfold hol
    rw [susp_rk hP hn hq dq 0]
    unfold suspQ
    rw [fN_add0 (by omega) (addQ_low hq) (low_mono hq), fN_add0 (by omega) hq hq]
    show _ - ((rk p _ 0 : Nat) : Int) - ((fN q 0 + 0 : Nat) : Int) = 0
    rw [show rk p (addQ (n + 1) (addQ n q q) q) 0 = 0 from rfl]; omega
  · unfold hol
    rw [susp_rk hP hn hq dq k, susp_rk hP hn hq dq (k + 1)]
    unfold suspQ
    rw [fN_add (by omega) (addQ_low hq) (low_mono hq), fN_add (by omega) hq hq]; omega

end Hom
end Go.Proofs.Ythjgpbcdcgagfaa

/-! JOINS, of no program: the faces of joins, of disjoint unions, of cross complexes. -/

namespace Go.Proofs.Ythjgpbcdcgagfaa
namespace Join
open Sets Lin Hom

theorem sub_parts {n f g s : Nat} (hf : f < 2 ^ n) : sub s (f + 2 ^ n * g) = (sub (s % 2 ^ n) f && sub (s / 2 ^ n) g) := by
  rw [Bool.eq_iff_iff, Bool.and_eq_true, sub_iff, sub_iff, sub_iff, Nat.add_comm]
  constructor
  · intro h
    constructor
    · intro i hi
      rw [Nat.testBit_mod_two_pow, Bool.and_eq_true, decide_eq_true_eq] at hi
      have := h i hi.2
      rwa [Nat.testBit_two_pow_mul_add _ hf, if_pos hi.1] at this
    · intro i hi
      rw [Nat.testBit_div_two_pow] at hi
      have := h _ hi
      rwa [Nat.testBit_two_pow_mul_add _ hf, if_neg (by omega), show i + n - n = i by omega] at this
  · rintro ⟨h1, h2⟩ i hi
    rw [Nat.testBit_two_pow_mul_add _ hf]
    by_cases e : i < n
    · rw [if_pos e]; exact h1 i (by rw [Nat.testBit_mod_two_pow, decide_eq_true e, hi]; rfl)
    · rw [if_neg e]; exact h2 (i - n) (by rw [Nat.testBit_div_two_pow, show i - n + n = i by omega]; exact hi)

/-- The sets of a join: each facet of the one with each of the other. -/
def pairs (n : Nat) (xs ys : List Int) : List Int := xs.flatMap fun x => ys.map fun y => x + 2 ^ n * y
def disQ (n : Nat) (q r : Nat → Bool) (s : Nat) : Bool := (decide (s < 2 ^ n) && q s) || (s % 2 ^ n == 0 && r (s / 2 ^ n))
def both (n : Nat) (xs ys : List Int) : List Int := xs ++ ys.map fun y => 2 ^ n * y

theorem inF_pairs {n : Nat} {xs ys : List Int} (hx : ∀ x, x ∈ xs → ∃ f : Nat, x = (f : Int) ∧ f < 2 ^ n) (hy : ∀ y, y ∈ ys → ∃ g : Nat, y = (g : Int)) (s : Nat) : inF (pairs n xs ys) s = joinQ n (inF xs) (inF ys) s := by
  unfold joinQ
  rw [Bool.eq_iff_iff, Bool.and_eq_true, inF_iff, inF_iff, inF_iff]
  unfold pairs
  constructor
  · rintro ⟨z, hz, hs⟩
    obtain ⟨x, hx', hz⟩ := List.mem_flatMap.1 hz
    obtain ⟨y, hy', rfl⟩ := List.mem_map.1 hz
    obtain ⟨f, rfl, hf⟩ := hx x hx'
    obtain ⟨g, rfl⟩ := hy y hy'
    have e : ((f : Int) + 2 ^ n * (g : Int)).toNat = f + 2 ^ n * g := by
      rw [show (2 : Int) ^ n * (g : Int) = ((2 ^ n * g : Nat) : Int) by push_cast; rfl]; omega
    rw [e, sub_parts hf, Bool.and_eq_true] at hs
    exact ⟨⟨_, hx', hs.1⟩, ⟨_, hy', hs.2⟩⟩
  · rintro ⟨⟨x, hx', h1⟩, ⟨y, hy', h2⟩⟩
    obtain ⟨f, rfl, hf⟩ := hx x hx'
    obtain ⟨g, rfl⟩ := hy y hy'
    refine ⟨(f : Int) + 2 ^ n * (g : Int), List.mem_flatMap.2 ⟨_, hx', List.mem_map.2 ⟨_, hy', rfl⟩⟩, ?_⟩
    have e : ((f : Int) + 2 ^ n * (g : Int)).toNat = f + 2 ^ n * g := by
      rw [show (2 : Int) ^ n * (g : Int) = ((2 ^ n * g : Nat) : Int) by push_cast; rfl]; omega
    rw [e, sub_parts hf, Bool.and_eq_true]
    exact ⟨h1, h2⟩

theorem inF_both {n : Nat} {xs ys : List Int} (hx : ∀ x, x ∈ xs → ∃ f : Nat, x = (f : Int) ∧ f < 2 ^ n) (hy : ∀ y, y ∈ ys → ∃ g : Nat, y = (g : Int)) (s : Nat) : inF (both n xs ys) s = disQ n (inF xs) (inF ys) s := by
  have h2 := Nat.two_pow_pos n
  unfold disQ both
  rw [Bool.eq_iff_iff, Bool.or_eq_true, Bool.and_eq_true, Bool.and_eq_true, decide_eq_true_eq, beq_iff_eq, inF_iff, inF_iff, inF_iff]
  have e : ∀ g : Nat, ((2 : Int) ^ n * (g : Int)).toNat = 0 + 2 ^ n * g := fun g => by
    rw [show (2 : Int) ^ n * (g : Int) = ((2 ^ n * g : Nat) : Int) by push_cast; rfl]; omega
  have z : ∀ t : Nat, sub t 0 = true ↔ t = 0 := fun t => ⟨fun h => by have := sub_le h; omega, fun h => by rw [h]; exact sub_refl 0⟩
  constructor
  · rintro ⟨z', hz, hs⟩
    rcases List.mem_append.1 hz with hz | hz
    · obtain ⟨f, rfl, hf⟩ := hx z' hz
      have := sub_le hs
      exact .inl ⟨by simp at this; omega, _, hz, hs⟩
    · obtain ⟨y, hy', rfl⟩ := List.mem_map.1 hz
      obtain ⟨g, rfl⟩ := hy y hy'
      rw [e, sub_parts h2, Bool.and_eq_true, z] at hs
      exact .inr ⟨hs.1, _, hy', hs.2⟩
  · rintro (⟨hl, x, hx', h⟩ | ⟨h0, y, hy', h⟩)
    · exact ⟨x, List.mem_append_left _ hx', h⟩
    · obtain ⟨g, rfl⟩ := hy y hy'
      exact ⟨_, List.mem_append_right _ (List.mem_map.2 ⟨_, hy', rfl⟩), by rw [e, sub_parts h2, Bool.and_eq_true, z]; exact ⟨h0, h⟩⟩

theorem sub_mod {n s t : Nat} (h : sub s t = true) : sub (s % 2 ^ n) (t % 2 ^ n) = true := by
  rw [sub_iff] at h ⊢
  intro i hi
  rw [Nat.testBit_mod_two_pow, Bool.and_eq_true] at hi ⊢
  exact ⟨hi.1, h i hi.2⟩
theorem sub_div {n s t : Nat} (h : sub s t = true) : sub (s / 2 ^ n) (t / 2 ^ n) = true := by
  rw [sub_iff] at h ⊢
  intro i hi
  rw [Nat.testBit_div_two_pow] at hi ⊢
  exact h _ hi
theorem joinQ_down {n : Nat} {q r : Nat → Bool} (hq : Down q) (hr : Down r) : Down (joinQ n q r) := fun s t hs ht h k => by
  unfold joinQ at k ⊢
  rw [Bool.and_eq_true] at k ⊢
  have hm := fun x => Nat.mod_le x (2 ^ n)
  have hd := fun x => Nat.div_le_self x (2 ^ n)
  have a1 := hm s
  have a2 := hm t
  have a3 := hd s
  have a4 := hd t
  exact ⟨hq _ _ (by omega) (by omega) (sub_mod h) k.1, hr _ _ (by omega) (by omega) (sub_div h) k.2⟩
theorem disQ_down {n : Nat} {q r : Nat → Bool} (hq : Down q) (hr : Down r) : Down (disQ n q r) := fun s t hs ht h k => by
  unfold disQ at k ⊢
  rw [Bool.or_eq_true, Bool.and_eq_true, Bool.and_eq_true, decide_eq_true_eq, beq_iff_eq] at k ⊢
  have hd := fun x => Nat.div_le_self x (2 ^ n)
  have a3 := hd s
  have a4 := hd t
  have a5 := sub_le h
  rcases k with ⟨k1, k2⟩ | ⟨k1, k2⟩
  · exact .inl ⟨by omega, hq s t hs ht h k2⟩
  · refine .inr ⟨?_, hr _ _ (by omega) (by omega) (sub_div h) k2⟩
    have := sub_le (sub_mod (n := n) h)
    omega

/-- The sets that contain no two points 2 i and 2 i + 1, of k pairs. -/
def crossQ (k s : Nat) : Bool := (List.range k).all fun i => !(s / 2 ^ (2 * i) % 4 == 3)

def joinOk (n m : Int) (xs ys : List Int) : Bool := isC n xs && isC m ys && decide (n + m ≤ 6)
def joinO (n m : Int) (xs ys : List Int) := partO (joinOk n m xs ys) (n + m) (joinQ n.toNat (inF xs) (inF ys))
def disO (n m : Int) (xs ys : List Int) := partO (joinOk n m xs ys) (n + m) (disQ n.toNat (inF xs) (inF ys))
def crossO (k : Int) := partO (inB 1 3 k) (2 * k) fun s => decide (s < 2 ^ (2 * k.toNat)) && crossQ k.toNat s
/-- The points of all facets. -/
def conePts (n : Int) (xs : List Int) : Nat := if isC n xs = true ∧ xs ≠ [] then xs.foldl (fun a x => a &&& x.toNat) 63 else 0

theorem card_ord (q : Nat → Bool) : Card (fun s => s < 64 ∧ q s = true) (ord q).length := by
  refine Card.bij (S := fun x : Int => x ∈ ord q) ⟨ord q, ?_, fun _ => Iff.rfl, rfl⟩ Int.toNat (fun s : Nat => (s : Int)) ?_ ?_ ?_ ?_
  · exact (ord_rises q).imp fun {a b} h e => by subst e; exact befZ_asym h h
  · intro x hx
    obtain ⟨s, rfl, h1, h2⟩ := (mem_ord q x).1 hx
    exact ⟨h1, h2⟩
  · rintro s ⟨h1, h2⟩
    exact (mem_ord q _).2 ⟨s, rfl, h1, h2⟩
  · intro x hx
    obtain ⟨s, rfl, h1, h2⟩ := (mem_ord q x).1 hx
    rfl
  · rintro s _
    rfl
/-- FACES OF A JOIN ARE PAIRS OF FACES. -/
theorem join_faces {n m : Nat} (hnm : n + m ≤ 6) {q r : Nat → Bool} (hq : Low n q) (hr : Low m r) : (ord (joinQ n q r)).length = (ord q).length * (ord r).length := by
  refine (card_ord _).unique (((card_ord q).prod (card_ord r)).bij (fun z => z.1 + 2 ^ n * z.2) (fun s => (s % 2 ^ n, s / 2 ^ n)) ?_ ?_ ?_ ?_)
  all_goals have h2 := Nat.two_pow_pos n
  · rintro ⟨a, b⟩ ⟨⟨ha, qa⟩, ⟨hb, rb⟩⟩
    dsimp only at ha qa hb rb ⊢
    have la := hq a ha qa
    have lb := hr b hb rb
    have e1 : (a + 2 ^ n * b) % 2 ^ n = a := by rw [Nat.add_mul_mod_self_left]; exact Nat.mod_eq_of_lt la
    have e2 : (a + 2 ^ n * b) / 2 ^ n = b := by rw [Nat.add_mul_div_left _ _ h2, Nat.div_eq_of_lt la, Nat.zero_add]
    refine ⟨?_, by unfold joinQ; rw [e1, e2, qa, rb]; rfl⟩
    have : 2 ^ n * (b + 1) ≤ 2 ^ n * 2 ^ m := Nat.mul_le_mul_left _ (by omega)
    rw [← Nat.pow_add, Nat.mul_add] at this
    have := Nat.pow_le_pow_right (n := 2) (by decide) hnm
    omega
  · rintro s ⟨h, k⟩
    unfold joinQ at k
    rw [Bool.and_eq_true] at k
    have a1 := Nat.mod_le s (2 ^ n)
    have a2 := Nat.div_le_self s (2 ^ n)
    exact ⟨⟨by dsimp only; omega, k.1⟩, ⟨by dsimp only; omega, k.2⟩⟩
  · rintro ⟨a, b⟩ ⟨⟨ha, qa⟩, _⟩
    dsimp only at ha qa ⊢
    have la := hq a ha qa
    rw [Nat.add_mul_mod_self_left, Nat.mod_eq_of_lt la, Nat.add_mul_div_left _ _ h2, Nat.div_eq_of_lt la, Nat.zero_add]
  · rintro s _
    exact Nat.mod_add_div s (2 ^ n)

end Join
end Go.Proofs.Ythjgpbcdcgagfaa

/-! THE LIST OF HOLES, of no program: cones, suspensions, cross complexes. -/

namespace Go.Proofs.Ythjgpbcdcgagfaa
namespace Hom
open Sets Lin Join

theorem J_congr {q r : Nat → Bool} (h : ∀ s, s < 64 → q s = r s) (k : Nat) : J q k = J r k := List.filter_congr fun s hs => by rw [h s (List.mem_range.1 hs)]
theorem rk_congr {q r : Nat → Bool} (h : ∀ s, s < 64 → q s = r s) (p k : Nat) : rk p q k = rk p r k := by unfold rk bdm; rw [J_congr h, J_congr h]
theorem hol_congr {q r : Nat → Bool} (h : ∀ s, s < 64 → q s = r s) (p k : Nat) : hol p q k = hol p r k := by unfold hol fN; rw [J_congr h, rk_congr h, rk_congr h]

/-- The holes of a complex by size. -/
def holL (p : Nat) (n : Int) (xs : List Int) : List Int := (List.range (top (faces n xs))).map fun k => hol p (inF xs) k
theorem holL_length (p : Nat) (n : Int) (xs : List Int) : (holL p n xs).length = top (faces n xs) := by unfold holL; rw [List.length_map, List.length_range]
theorem faces_ord {n : Int} {xs : List Int} (h : isC n xs = true) : faces n xs = ord (inF xs) := by unfold faces; rw [if_pos h]
theorem holL_ord (p : Nat) {n : Int} {xs : List Int} (h : isC n xs = true) {q : Nat → Bool} (hq : ∀ s, s < 64 → inF xs s = q s) : holL p n xs = (List.range (top (ord q))).map fun k => hol p q k := by
  unfold holL
  rw [faces_ord h, ord_congr hq]
  exact List.map_congr_left fun k _ => hol_congr hq p k

theorem joinQ_one {n : Nat} {q : Nat → Bool} (hq : Low n q) (s : Nat) (hs : s < 64) : joinQ n q (inF [1]) s = addQ n q q s := by
  have h2 := Nat.two_pow_pos n
  have f0 : inF [1] 0 = true := by decide
  have f1 : inF [1] 1 = true := by decide
  have f2 : ∀ t, 2 ≤ t → inF [1] t = false := fun t ht => by
    rw [Bool.eq_false_iff]; intro h
    obtain ⟨f, hf, hs⟩ := (inF_iff _ _).1 h
    rw [List.mem_singleton.1 hf] at hs
    have := sub_le hs; simp at this; omega
  unfold joinQ
  by_cases e : s < 2 ^ n
  · rw [addQ_lo e, Nat.mod_eq_of_lt e, Nat.div_eq_of_lt e, f0, Bool.and_true]
  · obtain ⟨t, rfl⟩ : ∃ t, s = 2 ^ n + t := ⟨s - 2 ^ n, by omega⟩
    rw [addQ_hi, Nat.add_mod_left, Nat.add_div_left _ h2]
    by_cases e2 : t < 2 ^ n
    · rw [Nat.mod_eq_of_lt e2, Nat.div_eq_of_lt e2, f1, Bool.and_true]
    · rw [f2 _ (by have := (Nat.one_le_div_iff h2).2 (Nat.le_of_not_lt e2); omega), Bool.and_false, low_false hq (by omega) (by omega)]

theorem joinQ_two {n : Nat} {q : Nat → Bool} (hq : Low n q) (s : Nat) (hs : s < 64) : joinQ n q (inF [1, 2]) s = suspQ n q s := by
  have h2 := Nat.two_pow_pos n
  have h3 := pow_two n
  have f0 : inF [1, 2] 0 = true := by decide
  have f1 : inF [1, 2] 1 = true := by decide
  have f2 : inF [1, 2] 2 = true := by decide
  have f3 : ∀ t, 3 ≤ t → inF [1, 2] t = false := fun t ht => by
    rw [Bool.eq_false_iff]; intro h
    obtain ⟨f, hf, hs⟩ := (inF_iff _ _).1 h
    rcases List.mem_cons.1 hf with rfl | hf
    · have := sub_le hs; simp at this; omega
    · rw [List.mem_singleton.1 hf] at hs
      have := sub_le hs; simp at this; omega
  unfold joinQ suspQ
  by_cases e : s < 2 ^ n
  · rw [addQ_lo (by omega), addQ_lo e, Nat.mod_eq_of_lt e, Nat.div_eq_of_lt e, f0, Bool.and_true]
  · obtain ⟨t, rfl⟩ : ∃ t, s = 2 ^ n + t := ⟨s - 2 ^ n, by omega⟩
    rw [Nat.add_mod_left, Nat.add_div_left _ h2]
    by_cases e2 : t < 2 ^ n
    · rw [addQ_lo (by omega), addQ_hi, Nat.mod_eq_of_lt e2, Nat.div_eq_of_lt e2, f1, Bool.and_true]
    · obtain ⟨u, rfl⟩ : ∃ u, t = 2 ^ n + u := ⟨t - 2 ^ n, by omega⟩
      rw [show 2 ^ n + (2 ^ n + u) = 2 ^ (n + 1) + u by omega, addQ_hi, Nat.add_mod_left, Nat.add_div_left _ h2]
      by_cases e3 : u < 2 ^ n
      · rw [Nat.mod_eq_of_lt e3, Nat.div_eq_of_lt e3, f2, Bool.and_true]
      · rw [f3 _ (by have := (Nat.one_le_div_iff h2).2 (Nat.le_of_not_lt e3); omega), Bool.and_false, low_false hq (by omega) (by omega)]

theorem top_hit (L : List Int) (h : 0 < top L) : ∃ x, x ∈ L ∧ pc x.toNat + 1 = top L := by
  apply Classical.byContradiction
  intro hno
  have := top_le_of L (top L - 1) fun x hx => by
    have := top_ge L x hx
    have : ¬(pc x.toNat + 1 = top L) := fun e => hno ⟨x, hx, e⟩
    omega
  omega
theorem top_pos {q : Nat → Bool} (h : q 0 = true) : 0 < top (ord q) := by
  have := top_ge (ord q) 0 ((mem_ord q 0).2 ⟨0, rfl, by decide, h⟩)
  omega
theorem top_susp {n : Nat} (hn : n ≤ 4) {q : Nat → Bool} (hq : Low n q) (h0 : q 0 = true) : top (ord (suspQ n q)) = top (ord q) + 1 := by
  have h3 := pow_two n
  have h64 := pow64 (n := n + 1 + 1) (by omega)
  have h2p := Nat.two_pow_pos n
  have h4 := pow_two (n + 1)
  have ge : ∀ s, s < 64 → q s = true → pc s + 1 ≤ top (ord q) := fun s hs h => top_ge (ord q) s ((mem_ord q _).2 ⟨s, rfl, hs, h⟩)
  apply Nat.le_antisymm
  · refine top_le_of _ _ fun x hx => ?_
    obtain ⟨s, rfl, hs, hq'⟩ := (mem_ord _ x).1 hx
    show pc s + 1 ≤ _
    unfold suspQ at hq'
    by_cases e : s < 2 ^ (n + 1)
    · rw [addQ_lo e] at hq'
      by_cases e2 : s < 2 ^ n
      · rw [addQ_lo e2] at hq'
        have := ge s hs hq'; omega
      · obtain ⟨t, rfl⟩ : ∃ t, s = 2 ^ n + t := ⟨s - 2 ^ n, by omega⟩
        rw [addQ_hi] at hq'
        rw [pc_blk (by omega) (by omega)]
        have := ge t (by omega) hq'; omega
    · obtain ⟨t, rfl⟩ : ∃ t, s = 2 ^ (n + 1) + t := ⟨s - 2 ^ (n + 1), by omega⟩
      rw [addQ_hi] at hq'
      have hl := hq t (by omega) hq'
      rw [pc_blk (by omega) (by omega)]
      have := ge t (by omega) hq'; omega
  · obtain ⟨x, hx, e⟩ := top_hit (ord q) (top_pos h0)
    obtain ⟨s, rfl, hs, hqs⟩ := (mem_ord _ x).1 hx
    have hl := hq s hs hqs
    rw [← e]
    have := top_ge (ord (suspQ n q)) ((2 ^ n + s : Nat) : Int) ((mem_ord _ _).2 ⟨2 ^ n + s, rfl, by omega, by unfold suspQ; rw [addQ_lo (by omega), addQ_hi]; exact hqs⟩)
    rw [show (((2 ^ n + s : Nat) : Int)).toNat = 2 ^ n + s from rfl, pc_blk (by omega) hl] at this
    exact this

theorem range_succ_map {α : Type} (f : Nat → α) (m : Nat) : (List.range (m + 1)).map f = f 0 :: (List.range m).map fun k => f (k + 1) := by
  rw [List.range_succ_eq_map, List.map_cons, List.map_map]; rfl

theorem inF_low {n : Int} {xs : List Int} (h : isC n xs = true) : Low n.toNat (inF xs) := fun s _ hs => by
  have := inF_set h s hs
  unfold setB at this
  rw [decide_eq_true_eq] at this
  have h2 := this.2.2.2
  rw [show (2 : Int) ^ n.toNat = ((2 ^ n.toNat : Nat) : Int) by push_cast; rfl] at h2
  omega
theorem inF_zero {xs : List Int} (h : xs ≠ []) : inF xs 0 = true := by
  obtain ⟨x, l, rfl⟩ := List.exists_cons_of_ne_nil h
  exact (inF_iff _ _).2 ⟨x, List.mem_cons_self .., by unfold sub; simp⟩

/-- The cone's list of holes. -/
theorem holL_cone {p : Nat} (hP : IsP p) {n : Int} {xs : List Int} (h : isC n xs = true) (hn : n ≤ 5) (h0 : xs ≠ []) (hc : isC (n + 1) (maxQ (joinQ n.toNat (inF xs) (inF [1]))) = true) :
    0 < (holL p (n + 1) (maxQ (joinQ n.toNat (inF xs) (inF [1])))).length ∧ ∀ x, x ∈ holL p (n + 1) (maxQ (joinQ n.toNat (inF xs) (inF [1]))) → x = 0 := by
  have hn' := isC_n h
  have hl := inF_low h
  have dq := joinQ_down (n := n.toNat) (inF_down xs) (inF_down [1])
  have e : ∀ s, s < 64 → inF (maxQ (joinQ n.toNat (inF xs) (inF [1]))) s = addQ n.toNat (inF xs) (inF xs) s := fun s hs => by
    rw [inF_maxQ _ dq s hs, joinQ_one hl s hs]
  rw [holL_ord p hc e, List.length_map, List.length_range]
  refine ⟨top_pos ?_, fun x hx => ?_⟩
  · rw [addQ_lo (Nat.two_pow_pos _)]; exact inF_zero h0
  · obtain ⟨k, _, rfl⟩ := List.mem_map.1 hx
    exact cone_hol hP (by omega) hl (inF_down xs) k
/-- The suspension's list of holes. -/
theorem holL_susp {p : Nat} (hP : IsP p) {n : Int} {xs : List Int} (h : isC n xs = true) (hn : n ≤ 4) (h0 : xs ≠ []) (hc : isC (n + 2) (maxQ (joinQ n.toNat (inF xs) (inF [1, 2]))) = true) :
    holL p (n + 2) (maxQ (joinQ n.toNat (inF xs) (inF [1, 2]))) = 0 :: holL p n xs := by
  have hn' := isC_n h
  have hl := inF_low h
  have dq := joinQ_down (n := n.toNat) (inF_down xs) (inF_down [1, 2])
  have e : ∀ s, s < 64 → inF (maxQ (joinQ n.toNat (inF xs) (inF [1, 2]))) s = suspQ n.toNat (inF xs) s := fun s hs => by
    rw [inF_maxQ _ dq s hs, joinQ_two hl s hs]
  obtain ⟨k1, k2⟩ := susp_hol hP (n := n.toNat) (by omega) hl (inF_down xs)
  rw [holL_ord p hc e, holL_ord p h fun _ _ => rfl, top_susp (by omega) hl (inF_zero h0), range_succ_map, k1]
  exact congrArg _ (List.map_congr_left fun k _ => k2 k)

end Hom
end Go.Proofs.Ythjgpbcdcgagfaa

/-! WALKS of chapter 14 (spec): the rank of a matrix, the list of holes. -/

namespace Go.Proofs.Ythjgpbcdcgagfaa
open Go.RowKit
open Sets Lin

theorem rank_le_cols {p : Nat} (hp : p = 2 ∨ p = 3 ∨ p = 5) {M : Mat} {n : Nat} (hw : ∀ r ∈ M, r.length = n) : rank p M n ≤ n := by
  have HP : IsP p := by
    rcases hp with rfl | rfl | rfl
    · exact isP2
    · exact isP3
    · exact isP5
  exact (rank_card HP hw).2

theorem Two.grow2 {w w' : World} {b : Nat} {row : Option Nat} {x y : Value} (h : Two w b x y) (hg : w.grownBy w' row) (hne : row ≠ some b) : Two w' b x y := by
  obtain ⟨h1, h2, h3, h4, h5⟩ := h
  have hb := hg.block b h1 (Ne.symm hne)
  have := hg.size
  exact ⟨by omega, by rw [World.cell?_of_block (w := w) (w' := w') (a := ⟨b, 0, none⟩) hb]; exact h2, by rw [World.cell?_of_block (w := w) (w' := w') (a := ⟨b, 1, none⟩) hb]; exact h3,
    by rw [World.frozen?_of_block (w := w) (w' := w') (a := ⟨b, 0, none⟩) hb]; exact h4, by rw [World.frozen?_of_block (w := w) (w' := w') (a := ⟨b, 1, none⟩) hb]; exact h5⟩

set_option maxRecDepth 100000 in
set_option maxHeartbeats 2000000 in
theorem l13Rank_any (p : Nat) (hp : p = 2 ∨ p = 3 ∨ p = 5) (M : Mat) (n : Nat) (hw : ∀ r ∈ M, r.length = n) (hm : M.length ≤ 1000) (hn : n ≤ 1000) (gm : Nat) (am : Option Addr) (cm : Nat) (Rm : List (Nat × Nat)) (w : World) (h : Mx w gm am Rm M) :
    Calls Try.prog 70 #[.slice am M.length cm, .int .i64 (p : Int)] w fun e w' => e = .returned (.int .i64 (rank p M n : Nat)) ∧ Below w.heap.size w w' := by
  have HC := Lib.hid (l13Reduce_any p hp M n hw hm hn gm am cm Rm w h)
  clear h hw hp
  go_enter Try.func70, Try.ntmps70
  go_wp2_with fail
  refine HC.out.mono ?_
  rintro e w1 ⟨ao, co, go, R, u, rfl, hX, hG, hP, hB⟩
  obtain ⟨au, cu, gu, rfl, -, -, -, -⟩ := OwnInts.ata hP hB.size
  have hil : (ints (reduce p M n).2).length = (reduce p M n).2.length := by simp [ints]
  rw [hil]
  have HB := Lib.hid hB
  clear hX hG hP hB hil
  go_wp2
  go_ret
  exact ⟨rfl, HB.out⟩

def rkF (p : Nat) (F : List Int) (k : Nat) : Nat := rank p (borM (sized ((k : Int) - 1) F) (sized (k : Int) F)) (sized (k : Int) F).length
def loR (p : Nat) (F : List Int) (k : Nat) : Nat := if k = 0 then 0 else rkF p F k
def hiR (p : Nat) (F : List Int) (k : Nat) : Nat := if k + 1 < top F then rkF p F (k + 1) else 0
def holF (p : Nat) (F : List Int) (m : Nat) : List Int := (List.range m).map fun k => (cnt k F : Int) - (loR p F k : Int) - (hiR p F k : Int)
theorem holF_length (p : Nat) (F : List Int) (m : Nat) : (holF p F m).length = m := by simp [holF]
theorem holF_next (p : Nat) (F : List Int) (m : Nat) : holF p F (m + 1) = holF p F m ++ [(cnt m F : Int) - (loR p F m : Int) - (hiR p F m : Int)] := by
  unfold holF; rw [List.range_succ, List.map_append]; rfl
theorem rkF_succ (p : Nat) (F : List Int) (k : Nat) : rkF p F (k + 1) = rank p (borM (sized ((k : Int) + 1 - 1) F) (sized ((k : Int) + 1) F)) (sized ((k : Int) + 1) F).length := rfl
theorem borM_wide (L H : List Int) : ∀ r ∈ borM L H, r.length = H.length := fun r hr => by
  obtain ⟨t, _, rfl⟩ := List.mem_map.1 hr; exact borR_length t H

end Go.Proofs.Ythjgpbcdcgagfaa
