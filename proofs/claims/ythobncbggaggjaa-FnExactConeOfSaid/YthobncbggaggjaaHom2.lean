/-
  HOLES of cones and of suspensions, of no program.
-/
import Derived.Test.YthobncbggaggjaaHom1
namespace Go.Proofs.Ythobncbggaggjaa
namespace Hom
open Sets Lin

def sg (t : Nat) : Int := 1 - 2 * ((pc t % 2 : Nat) : Int)
theorem blk0 : ∀ n : Fin 6, ∀ t s : Fin 64, t.val < 2 ^ n.val → s.val < 2 ^ n.val → sgn t.val (2 ^ n.val + s.val) = (if s = t then sg t.val else 0) ∧ sgn (2 ^ n.val + t.val) (2 ^ n.val + s.val) = sgn t.val s.val ∧ sgn (2 ^ n.val + t.val) s.val = 0 := by decide +kernel
theorem pc_blk0 : ∀ n : Fin 6, ∀ s : Fin 64, s.val < 2 ^ n.val → pc (2 ^ n.val + s.val) = pc s.val + 1 := by decide +kernel
theorem pow64 {n : Nat} (hn : n ≤ 6) : 2 ^ n ≤ 64 := Nat.pow_le_pow_right (by decide) hn
theorem pow_two (n : Nat) : 2 ^ (n + 1) = 2 ^ n + 2 ^ n := by rw [Nat.pow_succ]; omega
theorem blk1 {n t s : Nat} (hn : n ≤ 5) (ht : t < 2 ^ n) (hs : s < 2 ^ n) : sgn t (2 ^ n + s) = if s = t then sg t else 0 := by
  have h64 := pow64 (n := n) (by omega)
  have := (blk0 ⟨n, by omega⟩ ⟨t, by omega⟩ ⟨s, by omega⟩ ht hs).1
  simpa using this
theorem blk2 {n t s : Nat} (hn : n ≤ 5) (ht : t < 2 ^ n) (hs : s < 2 ^ n) : sgn (2 ^ n + t) (2 ^ n + s) = sgn t s := by
  have h64 := pow64 (n := n) (by omega)
  exact (blk0 ⟨n, by omega⟩ ⟨t, by omega⟩ ⟨s, by omega⟩ ht hs).2.1
theorem blk3 {n t s : Nat} (hn : n ≤ 5) (ht : t < 2 ^ n) (hs : s < 2 ^ n) : sgn (2 ^ n + t) s = 0 := by
  have h64 := pow64 (n := n) (by omega)
  exact (blk0 ⟨n, by omega⟩ ⟨t, by omega⟩ ⟨s, by omega⟩ ht hs).2.2
theorem pc_blk {n s : Nat} (hn : n ≤ 5) (hs : s < 2 ^ n) : pc (2 ^ n + s) = pc s + 1 := by
  have h64 := pow64 (n := n) (by omega)
  exact pc_blk0 ⟨n, by omega⟩ ⟨s, by omega⟩ hs
theorem sg_sq (t : Nat) : sg t * sg t = 1 := by unfold sg; rcases Nat.mod_two_eq_zero_or_one (pc t) with h | h <;> rw [h] <;> decide

theorem S_low {N : Nat} (hN : N ≤ 64) {f : Nat → Int} (h : ∀ s, N ≤ s → s < 64 → f s = 0) : S f = sm (List.range N) f := by
  unfold S
  rw [show 64 = N + (64 - N) by omega, sm_range_add, sm_zero (List.range (64 - N)) _ fun s hs => h _ (by omega) (by rw [List.mem_range] at hs; omega)]; omega
theorem S_two {N : Nat} (hN : N + N ≤ 64) {f : Nat → Int} (h : ∀ s, N + N ≤ s → s < 64 → f s = 0) : S f = sm (List.range N) f + sm (List.range N) fun s => f (N + s) := by
  rw [S_low hN h, sm_range_add]
theorem S_three {N : Nat} (hN : N + N + N ≤ 64) {f : Nat → Int} (h : ∀ s, N + N + N ≤ s → s < 64 → f s = 0) : S f = sm (List.range N) f + (sm (List.range N) fun s => f (N + s)) + sm (List.range N) fun s => f (N + N + s) := by
  rw [S_low hN h, sm_range_add, sm_range_add]

/-- The sets of n points. -/
def Low (n : Nat) (q : Nat → Bool) : Prop := ∀ s, s < 64 → q s = true → s < 2 ^ n
/-- The faces of a join. -/
def joinQ (n : Nat) (q r : Nat → Bool) (s : Nat) : Bool := q (s % 2 ^ n) && r (s / 2 ^ n)

theorem vec_zero {p : Nat} {q : Nat → Bool} {k : Nat} {y : Nat → Int} (h : Vec p (J q k) y) {s : Nat} (hs : s < 64 → ¬(pc s = k ∧ q s = true)) : y s = 0 := h.2 s fun hm => by
  have := (mem_J q k s).1 hm; exact hs this.1 this.2

/-- A vector's piece of N numbers from b on. -/
def cut (N b : Nat) (y : Nat → Int) (s : Nat) : Int := if s < N then y (b + s) else 0
theorem cut_lt {N b : Nat} {y : Nat → Int} {s : Nat} (h : s < N) : cut N b y s = y (b + s) := if_pos h
theorem cut_ge {N b : Nat} {y : Nat → Int} {s : Nat} (h : ¬s < N) : cut N b y s = 0 := if_neg h
theorem bd_cut {N b : Nat} (hN : N ≤ 64) (y : Nat → Int) (t : Nat) : bd (cut N b y) t = sm (List.range N) fun s => sgn t s * y (b + s) := by
  unfold bd
  rw [S_low hN fun s h _ => by rw [cut_ge (by omega)]; simp]
  exact sm_congr _ _ _ fun s hs => by rw [cut_lt (List.mem_range.1 hs)]

/-- A piece of a chain is a chain of the faces that lie in the piece. -/
theorem vec_cut {p n b k j : Nat} {q' q : Nat → Bool} {y : Nat → Int} (hn : b + 2 ^ n ≤ 64) (hlow : Low n q) (hq : ∀ s, s < 2 ^ n → (q' (b + s) = true ∧ pc (b + s) = k ↔ q s = true ∧ pc s = j)) (h : Vec p (J q' k) y) : Vec p (J q j) (cut (2 ^ n) b y) := by
  refine ⟨fun s hs => ?_, fun s hs => ?_⟩
  · obtain ⟨h1, h2, h3⟩ := (mem_J q j s).1 hs
    have hl := hlow s h1 h3
    rw [cut_lt hl]
    have := (hq s hl).2 ⟨h3, h2⟩
    exact h.1 _ ((mem_J q' k _).2 ⟨by omega, this.2, this.1⟩)
  · by_cases hl : s < 2 ^ n
    · rw [cut_lt hl]
      exact h.2 _ fun hm => by
        obtain ⟨_, h2, h3⟩ := (mem_J q' k _).1 hm
        have := (hq s hl).1 ⟨h3, h2⟩
        exact hs ((mem_J q j s).2 ⟨by omega, this.2, this.1⟩)
    · exact cut_ge hl

theorem emod_vec {p : Nat} (hp : 0 < p) {l : List Nat} {f : Nat → Int} (h : ∀ s, s ∉ l → (p : Int) ∣ f s) : Vec p l fun s => f s % p :=
  ⟨fun s _ => ⟨Int.emod_nonneg _ (by omega), Int.emod_lt_of_pos _ (by omega)⟩, fun s hs => Int.emod_eq_zero_of_dvd (h s hs)⟩
theorem vec_mod {p : Nat} {l : List Nat} {x : Nat → Int} (h : Vec p l x) (s : Nat) : x s % p = x s := by
  by_cases e : s ∈ l
  · exact Int.emod_eq_of_lt (h.1 s e).1 (h.1 s e).2
  · rw [h.2 s e]; simp
theorem vec_ext {p : Nat} {l m : List Nat} {x y : Nat → Int} (h : Vec p l x) (k : Vec p m y) (s : Nat) (hd : (p : Int) ∣ x s - y s) : x s = y s := by
  rw [← vec_mod h s, ← vec_mod k s]
  exact Int.emod_eq_emod_iff_emod_sub_eq_zero.2 (Int.emod_eq_zero_of_dvd hd)
theorem bd_emod (p : Int) (f : Nat → Int) (t : Nat) : p ∣ bd (fun s => f s % p) t - bd f t := by
  unfold bd S
  refine sm_dvd p _ _ _ fun s _ => ?_
  obtain ⟨m, hm⟩ := dvd_emod_sub (f s) p
  exact ⟨sgn t s * m, by dsimp only; grind⟩
theorem bd_add (f g : Nat → Int) (t : Nat) : bd (fun s => f s + g s) t = bd f t + bd g t := by
  unfold bd S
  rw [← sm_add]
  exact sm_congr _ _ _ fun s _ => by grind
theorem bd_mul (c : Int) (f : Nat → Int) (t : Nat) : bd (fun s => c * f s) t = c * bd f t := by
  unfold bd S
  rw [← sm_mul]
  exact sm_congr _ _ _ fun s _ => by grind
theorem bd_congr {f g : Nat → Int} (t : Nat) (h : ∀ s, s < 64 → sub t s = true → pc s = pc t + 1 → f s = g s) : bd f t = bd g t := by
  unfold bd S
  refine sm_congr _ _ _ fun s hs => ?_
  by_cases e : sub t s = true ∧ pc s = pc t + 1
  · rw [h s (List.mem_range.1 hs) e.1 e.2]
  · rw [sgn_zero e]; simp
theorem bd_out (f : Nat → Int) {t : Nat} (ht : 64 ≤ t) : bd f t = 0 := by
  unfold bd S
  refine sm_zero _ _ fun s hs => ?_
  rw [sgn_zero fun h => by have := sub_le h.1; rw [List.mem_range] at hs; omega]; simp

end Hom
end Go.Proofs.Ythobncbggaggjaa
