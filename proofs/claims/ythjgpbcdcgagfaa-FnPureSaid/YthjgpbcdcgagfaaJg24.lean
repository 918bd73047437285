/-
  TEXTS of one claim, put together: Hom3, Hom4, Join1, Hom5.
-/
import Derived.Test.YthjgpbcdcgagfaaJg23
import Derived.Test.YthjgpbcdcgagfaaJg3
import Derived.Test.YthjgpbcdcgagfaaJg7
/-! HOLES of a complex with one point more, of no program: its cycles are relative cycles; cones have no holes, suspensions have those of the complex, one size up. -/

namespace Go.Proofs.Ythjgpbcdcgagfaa
namespace Hom
open Sets Lin

/-- The complex q with the point n, whose link is l. -/
def addQ (n : Nat) (q l : Nat → Bool) (s : Nat) : Bool := if s < 2 ^ n then q s else l (s - 2 ^ n)
def Rel (p : Nat) (q l : Nat → Bool) (k : Nat) (u : Nat → Int) : Prop := Vec p (J q k) u ∧ ∀ t, t < 64 → l t = false → (p : Int) ∣ bd u t
def sgK (k : Nat) : Int := 1 - 2 * ((k % 2 : Nat) : Int)
theorem sgK_sq (k : Nat) : sgK k * sgK k = 1 := by unfold sgK; rcases Nat.mod_two_eq_zero_or_one k with h | h <;> rw [h] <;> decide
theorem sg_K {t k : Nat} (h : pc t = k) : sg t = sgK k := by unfold sg sgK; rw [h]

theorem addQ_lo {n : Nat} {q l : Nat → Bool} {s : Nat} (h : s < 2 ^ n) : addQ n q l s = q s := if_pos h
theorem addQ_hi {n : Nat} {q l : Nat → Bool} (s : Nat) : addQ n q l (2 ^ n + s) = l s := by unfold addQ; rw [if_neg (by omega), Nat.add_sub_cancel_left]
theorem low_false {n : Nat} {q : Nat → Bool} (h : Low n q) {s : Nat} (hs : s < 64) (hn : 2 ^ n ≤ s) : q s = false := by
  rw [Bool.eq_false_iff]; intro e; have := h s hs e; omega
theorem addQ_low {n : Nat} {q l : Nat → Bool} (hl : Low n l) : Low (n + 1) (addQ n q l) := by
  intro s hs h
  rw [pow_two]
  unfold addQ at h
  split at h
  · omega
  · have := hl _ (by have := Nat.two_pow_pos n; omega) h; omega

def glue (N : Nat) (u v : Nat → Int) (s : Nat) : Int := if s < N then u s else if s < N + N then v (s - N) else 0
theorem glue_lo {N : Nat} {u v : Nat → Int} {s : Nat} (h : s < N) : glue N u v s = u s := if_pos h
theorem glue_hi {N : Nat} {u v : Nat → Int} {s : Nat} (h : s < N) : glue N u v (N + s) = v s := by unfold glue; rw [if_neg (by omega), if_pos (by omega), Nat.add_sub_cancel_left]
theorem glue_out {N : Nat} {u v : Nat → Int} {s : Nat} (h : N + N ≤ s) : glue N u v s = 0 := by unfold glue; rw [if_neg (by omega), if_neg (by omega)]

/-- The border of a vector of two pieces. -/
theorem bd_lo {n : Nat} (hn : n ≤ 5) {y : Nat → Int} (hy : ∀ s, 2 ^ n + 2 ^ n ≤ s → s < 64 → y s = 0) {t : Nat} (ht : t < 2 ^ n) : bd y t = bd (cut (2 ^ n) 0 y) t + sg t * y (2 ^ n + t) := by
  have h64 := pow64 (n := n + 1) (by omega)
  rw [pow_two] at h64
  rw [bd_cut (by omega)]
  unfold bd
  rw [S_two h64 fun s h1 h2 => by rw [hy s h1 h2]; simp]
  congr 1
  · exact sm_congr _ _ _ fun s _ => by rw [Nat.zero_add]
  · rw [sm_congr _ _ (fun s => if s = t then sg t * y (2 ^ n + s) else 0) fun s hs => by
      rw [blk1 hn ht (List.mem_range.1 hs)]; split <;> simp]
    rw [sm_one t _ _ List.nodup_range (List.mem_range.2 ht) fun s _ hne => if_neg hne, if_pos rfl]
theorem bd_hi {n : Nat} (hn : n ≤ 5) {y : Nat → Int} (hy : ∀ s, 2 ^ n + 2 ^ n ≤ s → s < 64 → y s = 0) {t : Nat} (ht : t < 2 ^ n) : bd y (2 ^ n + t) = bd (cut (2 ^ n) (2 ^ n) y) t := by
  have h64 := pow64 (n := n + 1) (by omega)
  rw [pow_two] at h64
  rw [bd_cut (by omega)]
  unfold bd
  rw [S_two h64 fun s h1 h2 => by rw [hy s h1 h2]; simp, sm_zero _ _ fun s hs => by rw [blk3 hn ht (List.mem_range.1 hs)]; simp]
  rw [Int.zero_add]
  exact sm_congr _ _ _ fun s hs => by rw [blk2 hn ht (List.mem_range.1 hs)]

theorem add_zero_at {p n k : Nat} {q l : Nat → Bool} (hl : Low n l) {y : Nat → Int} (hy : Vec p (J (addQ n q l) k) y) : ∀ s, 2 ^ n + 2 ^ n ≤ s → s < 64 → y s = 0 := fun s h1 h2 =>
  vec_zero hy fun _ h => by
    have := addQ_low (q := q) hl s h2 h.2
    rw [pow_two] at this; omega

theorem cut_lo_vec {p n k : Nat} (hn : n ≤ 5) {q l : Nat → Bool} (hq : Low n q) {y : Nat → Int} (hy : Vec p (J (addQ n q l) k) y) : Vec p (J q k) (cut (2 ^ n) 0 y) :=
  vec_cut (by have := pow64 (n := n) (by omega); omega) hq (fun s hs => by rw [Nat.zero_add, addQ_lo hs]) hy
theorem cut_hi_vec {p n k : Nat} (hn : n ≤ 5) {q l : Nat → Bool} (hl : Low n l) {y : Nat → Int} (hy : Vec p (J (addQ n q l) (k + 1)) y) : Vec p (J l k) (cut (2 ^ n) (2 ^ n) y) := by
  have h64 := pow64 (n := n + 1) (by omega)
  rw [pow_two] at h64
  exact vec_cut h64 hl (fun s hs => by rw [addQ_hi, pc_blk hn hs]; exact and_congr_right fun _ => by omega) hy

theorem glue_vec {p n k : Nat} (hn : n ≤ 5) {q l : Nat → Bool} (hl : Low n l) {u v : Nat → Int} (hu : Vec p (J q (k + 1)) u) (hv : Vec p (J l k) v) : Vec p (J (addQ n q l) (k + 1)) (glue (2 ^ n) u v) := by
  have h64 := pow64 (n := n + 1) (by omega)
  rw [pow_two] at h64
  refine ⟨fun s hs => ?_, fun s hs => ?_⟩
  · obtain ⟨h1, h2, h3⟩ := (mem_J _ _ s).1 hs
    by_cases e : s < 2 ^ n
    · rw [glue_lo e]; rw [addQ_lo e] at h3
      exact hu.1 s ((mem_J q _ s).2 ⟨h1, h2, h3⟩)
    · obtain ⟨t, rfl⟩ : ∃ t, s = 2 ^ n + t := ⟨s - 2 ^ n, by omega⟩
      rw [addQ_hi] at h3
      have ht := hl t (by have := Nat.two_pow_pos n; omega) h3
      rw [glue_hi ht]; rw [pc_blk hn ht] at h2
      exact hv.1 t ((mem_J l _ t).2 ⟨by omega, by omega, h3⟩)
  · by_cases e : s < 2 ^ n
    · rw [glue_lo e]
      exact hu.2 s fun hm => hs (by
        obtain ⟨h1, h2, h3⟩ := (mem_J q _ s).1 hm
        exact (mem_J _ _ s).2 ⟨h1, h2, by rw [addQ_lo e]; exact h3⟩)
    · by_cases e2 : s < 2 ^ n + 2 ^ n
      · obtain ⟨t, rfl⟩ : ∃ t, s = 2 ^ n + t := ⟨s - 2 ^ n, by omega⟩
        rw [glue_hi (by omega)]
        exact hv.2 t fun hm => hs (by
          obtain ⟨h1, h2, h3⟩ := (mem_J l _ t).1 hm
          exact (mem_J _ _ _).2 ⟨by omega, by rw [pc_blk hn (by omega), h2], by rw [addQ_hi]; exact h3⟩)
      · exact glue_out (by omega)

theorem low_vec {p n k : Nat} {q : Nat → Bool} (hq : Low n q) {u : Nat → Int} (hu : Vec p (J q k) u) {s : Nat} (hs : 2 ^ n ≤ s) : u s = 0 := vec_zero hu fun h64 h => by
  have := hq s h64 h.2; omega
theorem cut_glue_lo {p n k : Nat} {q : Nat → Bool} (hq : Low n q) {u v : Nat → Int} (hu : Vec p (J q k) u) : cut (2 ^ n) 0 (glue (2 ^ n) u v) = u := by
  funext s
  by_cases e : s < 2 ^ n
  · rw [cut_lt e, Nat.zero_add, glue_lo e]
  · rw [cut_ge e, low_vec hq hu (by omega)]
theorem cut_glue_hi {p n k : Nat} {l : Nat → Bool} (hl : Low n l) {u v : Nat → Int} (hv : Vec p (J l k) v) : cut (2 ^ n) (2 ^ n) (glue (2 ^ n) u v) = v := by
  funext s
  by_cases e : s < 2 ^ n
  · rw [cut_lt e, glue_hi e]
  · rw [cut_ge e, low_vec hl hv (by omega)]
theorem glue_cut {p n k : Nat} {q l : Nat → Bool} (hn : n ≤ 5) (hl : Low n l) {y : Nat → Int} (hy : Vec p (J (addQ n q l) k) y) : glue (2 ^ n) (cut (2 ^ n) 0 y) (cut (2 ^ n) (2 ^ n) y) = y := by
  have h64 := pow64 (n := n + 1) (by omega)
  rw [pow_two] at h64
  funext s
  by_cases e : s < 2 ^ n
  · rw [glue_lo e, cut_lt e, Nat.zero_add]
  · by_cases e2 : s < 2 ^ n + 2 ^ n
    · obtain ⟨t, rfl⟩ : ∃ t, s = 2 ^ n + t := ⟨s - 2 ^ n, by omega⟩
      rw [glue_hi (by omega), cut_lt (by omega)]
    · rw [glue_out (by omega)]
      by_cases e3 : s < 64
      · exact (add_zero_at hl hy s (by omega) e3).symm
      · exact (hy.2 s fun hm => e3 ((mem_J _ _ s).1 hm).1).symm

theorem addQ_down {n : Nat} {q l : Nat → Bool} (hq : Down q) (hl : Down l) (hlow : Low n l) (hlq : ∀ s, s < 64 → l s = true → q s = true) : Down (addQ n q l) := by
  intro s t hs ht h k
  by_cases e : t < 2 ^ n
  · have := sub_le h
    rw [addQ_lo e] at k
    rw [addQ_lo (by omega)]
    exact hq s t hs ht h k
  · obtain ⟨t', rfl⟩ : ∃ t', t = 2 ^ n + t' := ⟨t - 2 ^ n, by omega⟩
    rw [addQ_hi] at k
    have h2p := Nat.two_pow_pos n
    have ht' := hlow t' (by omega) k
    by_cases e2 : s < 2 ^ n
    · rw [addQ_lo e2]
      refine hlq s hs (hl s t' hs (by omega) ?_ k)
      rw [sub_iff] at h ⊢
      intro i hi
      have h1 := h i hi
      have hin : i < n := Nat.lt_of_not_le fun hh => by
        rw [Nat.testBit_lt_two_pow (Nat.lt_of_lt_of_le e2 (Nat.pow_le_pow_right (by decide) hh))] at hi; exact absurd hi (by decide)
      rwa [Nat.testBit_two_pow_add_gt hin] at h1
    · obtain ⟨s', rfl⟩ : ∃ s', s = 2 ^ n + s' := ⟨s - 2 ^ n, by omega⟩
      rw [addQ_hi]
      have hs' : s' < 2 ^ n := by have := sub_le h; omega
      refine hl s' t' (by omega) (by omega) ?_ k
      rw [sub_iff] at h ⊢
      intro i hi
      have hin : i < n := Nat.lt_of_not_le fun hh => by
        rw [Nat.testBit_lt_two_pow (Nat.lt_of_lt_of_le hs' (Nat.pow_le_pow_right (by decide) hh))] at hi; exact absurd hi (by decide)
      have h1 := h i (by rw [Nat.testBit_two_pow_add_gt hin]; exact hi)
      rwa [Nat.testBit_two_pow_add_gt hin] at h1

/-- THE CYCLES OF A COMPLEX WITH ONE POINT MORE are the relative cycles. -/
theorem card_add {p : Nat} (hp : 0 < p) {n : Nat} (hn : n ≤ 5) {q l : Nat → Bool} (hq : Low n q) (hl : Low n l) (dq : Down q) (dl : Down l) (hlq : ∀ s, s < 64 → l s = true → q s = true) {k c : Nat}
    (h : Card (Rel p q l (k + 1)) c) : Card (Cyc p (addQ n q l) (k + 1)) c := by
  have h64 := pow64 (n := n + 1) (by omega)
  rw [pow_two] at h64
  have hdown := addQ_down dq dl hl hlq
  have hv : ∀ u, Rel p q l (k + 1) u → Vec p (J l k) fun s => (-sgK k * bd u s) % p := fun u hu => emod_vec hp fun s hs => by
    by_cases e : s < 64
    · by_cases e2 : l s = true
      · by_cases e3 : pc s = k
        · exact absurd ((mem_J l k s).2 ⟨e, e3, e2⟩) hs
        · rw [bd_off dq hu.1 e (by omega)]; exact ⟨0, by simp⟩
      · obtain ⟨m, hm⟩ := hu.2 s e (by simpa using e2)
        exact ⟨-sgK k * m, by rw [hm]; grind⟩
    · rw [bd_out _ (by omega)]; exact ⟨0, by simp⟩
  refine h.bij (fun u => glue (2 ^ n) u fun s => (-sgK k * bd u s) % p) (fun y => cut (2 ^ n) 0 y) ?_ ?_ ?_ ?_
  · intro u hu
    have hg := glue_vec hn hl hu.1 (hv u hu)
    refine ⟨hg, fun t ht => ?_⟩
    have hz := add_zero_at hl hg
    by_cases e : t < 2 ^ n
    · rw [bd_lo hn hz e, cut_glue_lo hq hu.1, glue_hi e]
      by_cases e3 : pc t = k
      · rw [sg_K e3]
        obtain ⟨m, hm⟩ := dvd_emod_sub (-sgK k * bd u t) p
        have := sgK_sq k
        exact ⟨sgK k * m, by grind⟩
      · rw [bd_off dq hu.1 ht (by omega)]; exact ⟨0, by simp⟩
    · by_cases e2 : t < 2 ^ n + 2 ^ n
      · obtain ⟨t, rfl⟩ : ∃ t', t = 2 ^ n + t' := ⟨t - 2 ^ n, by omega⟩
        rw [bd_hi hn hz (by omega), cut_glue_hi hl (hv u hu)]
        rw [dvd_of_emod (bd_emod p _ t), bd_mul, bd_bd u (by omega)]; exact ⟨0, by simp⟩
      · have : addQ n q l t = false := low_false (addQ_low hl) ht (by rw [pow_two]; omega)
        rw [bd_off hdown hg ht (by rw [this]; simp)]; exact ⟨0, by simp⟩
  · intro y hy
    refine ⟨cut_lo_vec hn hq hy.1, fun t ht hlt => ?_⟩
    by_cases e : t < 2 ^ n
    · have := hy.2 t ht
      rw [bd_lo hn (add_zero_at hl hy.1) e] at this
      have hz : cut (2 ^ n) (2 ^ n) y t = 0 := vec_zero (cut_hi_vec hn hl hy.1) fun _ h => by rw [hlt] at h; exact absurd h.2 (by decide)
      rw [cut_lt e] at hz
      rw [hz] at this
      simpa using this
    · rw [bd_off dq (cut_lo_vec hn hq hy.1) ht (by rw [low_false hq ht (by omega)]; simp)]; exact ⟨0, by simp⟩
  · intro u hu
    exact cut_glue_lo hq hu.1
  · intro y hy
    have hu := cut_lo_vec hn hq hy.1
    have hv' := cut_hi_vec hn hl hy.1
    have hrel : Rel p q l (k + 1) (cut (2 ^ n) 0 y) := by
      refine ⟨hu, fun t ht hlt => ?_⟩
      by_cases e : t < 2 ^ n
      · have := hy.2 t ht
        rw [bd_lo hn (add_zero_at hl hy.1) e] at this
        have hz : cut (2 ^ n) (2 ^ n) y t = 0 := vec_zero hv' fun _ h => by rw [hlt] at h; exact absurd h.2 (by decide)
        rw [cut_lt e] at hz
        rw [hz] at this
        simpa using this
      · rw [bd_off dq hu ht (by rw [low_false hq ht (by omega)]; simp)]; exact ⟨0, by simp⟩
    rw [show (fun s => (-sgK k * bd (cut (2 ^ n) 0 y) s) % (p : Int)) = cut (2 ^ n) (2 ^ n) y from ?_]
    · exact glue_cut hn hl hy.1
    · funext s
      refine vec_ext (hv _ hrel) hv' s ?_
      by_cases e : s < 2 ^ n
      · rw [cut_lt e]
        by_cases e3 : pc s = k
        · have h1 := hy.2 s (by omega)
          rw [bd_lo hn (add_zero_at hl hy.1) e, sg_K e3] at h1
          obtain ⟨a, ha⟩ := h1
          obtain ⟨m, hm⟩ := dvd_emod_sub (-sgK k * bd (cut (2 ^ n) 0 y) s) p
          have := sgK_sq k
          exact ⟨m - sgK k * a, by grind⟩
        · have : cut (2 ^ n) (2 ^ n) y s = 0 := vec_zero hv' fun _ h => e3 h.1
          rw [cut_lt e] at this
          rw [this, bd_off dq hu (by omega) (by omega)]; exact ⟨0, by simp⟩
      · rw [cut_ge e, low_vec hl (hv _ hrel) (by omega)]; exact ⟨0, by simp⟩

end Hom
end Go.Proofs.Ythjgpbcdcgagfaa

/-! HOLES, of no program: the numbers of holes of a cone and of a suspension. -/

namespace Go.Proofs.Ythjgpbcdcgagfaa
namespace Hom
open Sets Lin

def fN (q : Nat → Bool) (k : Nat) : Nat := (J q k).length
/-- The holes of size k. -/
def hol (p : Nat) (q : Nat → Bool) (k : Nat) : Int := (fN q k : Int) - rk p q k - rk p q (k + 1)

theorem fN_sum (q : Nat → Bool) (k : Nat) : (fN q k : Int) = S fun s => if (pc s == k && q s) = true then 1 else 0 := sm_count _ _
theorem fN_add {n : Nat} (hn : n ≤ 5) {q l : Nat → Bool} (hq : Low n q) (hl : Low n l) (k : Nat) : fN (addQ n q l) (k + 1) = fN q (k + 1) + fN l k := by
  have h64 := pow64 (n := n + 1) (by omega)
  rw [pow_two] at h64
  have h0 : ∀ {f : Nat → Bool} {j : Nat}, Low n f → ∀ s, 2 ^ n ≤ s → s < 64 → (if (pc s == j && f s) = true then (1 : Int) else 0) = 0 := fun hf s h1 h2 => by
    rw [low_false hf h2 h1]; simp
  have : (fN (addQ n q l) (k + 1) : Int) = (fN q (k + 1) : Int) + (fN l k : Int) := by
    rw [fN_sum, fN_sum, fN_sum, S_two h64 fun s h1 h2 => by rw [low_false (addQ_low hl) h2 (by rw [pow_two]; omega)]; simp]
    rw [S_low (by omega) (h0 hq), S_low (by omega) (h0 hl)]
    congr 1
    · exact sm_congr _ _ _ fun s hs => by rw [addQ_lo (List.mem_range.1 hs)]
    · refine sm_congr _ _ _ fun s hs => ?_
      rw [addQ_hi, pc_blk hn (List.mem_range.1 hs)]
      simp
  omega
theorem fN_add0 {n : Nat} (hn : n ≤ 5) {q l : Nat → Bool} (hq : Low n q) (hl : Low n l) : fN (addQ n q l) 0 = fN q 0 := by
  have h64 := pow64 (n := n + 1) (by omega)
  rw [pow_two] at h64
  have : (fN (addQ n q l) 0 : Int) = (fN q 0 : Int) := by
    rw [fN_sum, fN_sum, S_two h64 fun s h1 h2 => by rw [low_false (addQ_low hl) h2 (by rw [pow_two]; omega)]; simp]
    rw [S_low (N := 2 ^ n) (by omega) (f := fun s => if (pc s == 0 && q s) = true then 1 else 0) fun s h1 h2 => by rw [low_false hq h2 h1]; simp]
    rw [sm_zero (List.range (2 ^ n)) (fun s => if (pc (2 ^ n + s) == 0 && addQ n q l (2 ^ n + s)) = true then 1 else 0) fun s hs => by rw [pc_blk hn (List.mem_range.1 hs)]; simp]
    rw [Int.add_zero]
    exact sm_congr _ _ _ fun s hs => by rw [addQ_lo (List.mem_range.1 hs)]
  omega

theorem cyc_le {p : Nat} (hP : IsP p) {q : Nat → Bool} (hq : Down q) (k : Nat) : rk p q k ≤ fN q k := (card_cyc hP hq k).2
theorem rk_of_card {p : Nat} (hP : IsP p) {q : Nat → Bool} (hq : Down q) {k d : Nat} (h : Card (Cyc p q k) (p ^ d)) : fN q k = d + rk p q k := by
  obtain ⟨h1, h2⟩ := card_cyc hP hq k
  have := pow_inj hP.1 (h1.unique h)
  unfold fN; omega

/-! ### cones -/

theorem cone_down {n : Nat} {q : Nat → Bool} (hq : Low n q) (dq : Down q) : Down (addQ n q q) := addQ_down dq dq hq fun _ _ h => h
theorem cone_rk {p : Nat} (hP : IsP p) {n : Nat} (hn : n ≤ 5) {q : Nat → Bool} (hq : Low n q) (dq : Down q) (k : Nat) : rk p (addQ n q q) (k + 1) = fN q k := by
  have hp : 0 < p := by have := hP.1; omega
  have hc : Card (Rel p q q (k + 1)) (p ^ fN q (k + 1)) := (card_chn p q (k + 1)).congr fun u => ⟨fun h => ⟨h, fun t ht hlt => by
    rw [bd_off dq h ht (by rw [hlt]; simp)]; exact ⟨0, by simp⟩⟩, fun h => h.1⟩
  have := rk_of_card hP (cone_down hq dq) (card_add hp hn hq hq dq dq (fun _ _ h => h) hc)
  rw [fN_add hn hq hq] at this
  omega
/-- A CONE HAS NO HOLES. -/
theorem cone_hol {p : Nat} (hP : IsP p) {n : Nat} (hn : n ≤ 5) {q : Nat → Bool} (hq : Low n q) (dq : Down q) : ∀ k, hol p (addQ n q q) k = 0
  | 0 => by
    unfold hol
    rw [fN_add0 hn hq hq, cone_rk hP hn hq dq 0, show rk p (addQ n q q) 0 = 0 from rfl]; omega
  | k + 1 => by
    unfold hol
    rw [fN_add hn hq hq, cone_rk hP hn hq dq k, cone_rk hP hn hq dq (k + 1)]; omega

/-! ### suspensions -/

theorem low_mono {n : Nat} {q : Nat → Bool} (h : Low n q) : Low (n + 1) q := fun s hs hq => by have := h s hs hq; rw [pow_two]; omega
theorem card_susp {p : Nat} {n : Nat} (hn : n ≤ 5) {q : Nat → Bool} (hq : Low n q) (dq : Down q) {k c d : Nat} (h : Card (Chn p q (k + 1)) c) (h' : Card (Cyc p q k) d) : Card (Rel p (addQ n q q) q (k + 1)) (c * d) := by
  have h64 := pow64 (n := n + 1) (by omega)
  rw [pow_two] at h64
  have hdown := cone_down hq dq
  refine (h.prod h').bij (fun z => glue (2 ^ n) z.1 z.2) (fun y => (cut (2 ^ n) 0 y, cut (2 ^ n) (2 ^ n) y)) ?_ ?_ ?_ ?_
  · rintro ⟨u, v⟩ ⟨hu, hv⟩
    have hg := glue_vec hn hq hu hv.1
    refine ⟨hg, fun t ht hlt => ?_⟩
    by_cases e : t < 2 ^ n
    · rw [bd_off hdown hg ht (by rw [addQ_lo e, hlt]; simp)]; exact ⟨0, by simp⟩
    · by_cases e2 : t < 2 ^ n + 2 ^ n
      · obtain ⟨t, rfl⟩ : ∃ t', t = 2 ^ n + t' := ⟨t - 2 ^ n, by omega⟩
        rw [bd_hi hn (add_zero_at hq hg) (by omega), cut_glue_hi hq hv.1]
        exact hv.2 t (by have := Nat.two_pow_pos n; omega)
      · rw [bd_off hdown hg ht (by rw [low_false (addQ_low hq) ht (by rw [pow_two]; omega)]; simp)]; exact ⟨0, by simp⟩
  · intro y hy
    refine ⟨cut_lo_vec hn hq hy.1, cut_hi_vec hn hq hy.1, fun t ht => ?_⟩
    by_cases e : t < 2 ^ n
    · rw [← bd_hi hn (add_zero_at hq hy.1) e]
      exact hy.2 _ (by omega) (low_false hq (by omega) (by omega))
    · dsimp only
      rw [bd_off dq (cut_hi_vec hn hq hy.1) ht (by rw [low_false hq ht (by omega)]; simp)]; exact ⟨0, by simp⟩
  · rintro ⟨u, v⟩ ⟨hu, hv⟩
    exact Prod.ext (cut_glue_lo hq hu) (cut_glue_hi hq hv.1)
  · intro y hy
    exact glue_cut hn hq hy.1

/-- The suspension over the points n and n + 1. -/
def suspQ (n : Nat) (q : Nat → Bool) : Nat → Bool := addQ (n + 1) (addQ n q q) q
theorem susp_down {n : Nat} {q : Nat → Bool} (hq : Low n q) (dq : Down q) : Down (suspQ n q) :=
  addQ_down (cone_down hq dq) dq (low_mono hq) fun s hs h => by rw [addQ_lo (hq s hs h)]; exact h
theorem susp_rk {p : Nat} (hP : IsP p) {n : Nat} (hn : n ≤ 4) {q : Nat → Bool} (hq : Low n q) (dq : Down q) (k : Nat) : rk p (suspQ n q) (k + 1) = fN q k + rk p q k := by
  have hp : 0 < p := by have := hP.1; omega
  obtain ⟨h1, h2⟩ := card_cyc hP dq k
  have hc := card_susp (by omega) hq dq (card_chn p q (k + 1)) h1
  rw [← Nat.pow_add] at hc
  have := rk_of_card hP (susp_down hq dq) (card_add hp (by omega) (addQ_low hq) (low_mono hq) (cone_down hq dq) dq (fun s hs h => by rw [addQ_lo (hq s hs h)]; exact h) hc)
  unfold suspQ at this ⊢
  rw [fN_add (by omega) (addQ_low hq) (low_mono hq), fN_add (by omega) hq hq] at this
  unfold fN at *
  omega
/-- THE HOLES OF A SUSPENSION are those of the complex, one size up. -/
theorem susp_hol {p : Nat} (hP : IsP p) {n : Nat} (hn : n ≤ 4) {q : Nat → Bool} (hq : Low n q) (dq : Down q) : hol p (suspQ n q) 0 = 0 ∧ ∀ k, hol p (suspQ n q) (k + 1) = hol p q k := by
  refine ⟨?_, fun k => ?_⟩
  · unfold hol
    rw [susp_rk hP hn hq dq 0]
    unfold suspQ
    rw [fN_add0 (by omega) (addQ_low hq) (low_mono hq), fN_add0 (by omega) hq hq]
    show _ - ((rk p _ 0 : Nat) : Int) - ((fN q 0 + 0 : Nat) : Int) = 0
    rw [show rk p (addQ (n + 1) (addQ n q q) q) 0 = 0 from rfl]; omega
  · unfold hol
    rw [susp_rk hP hn hq dq k, susp_rk hP hn hq dq (k + 1)]
    unfold suspQ
    rw [fN_add (by omega) (addQ_low hq) (low_mono hq), fN_add (by omega) hq hq]; omega

end Hom
end Go.Proofs.Ythjgpbcdcgagfaa

/-! JOINS, of no program: the faces of joins, of disjoint unions, of cross complexes. -/

namespace Go.Proofs.Ythjgpbcdcgagfaa
namespace Join
open Sets Lin Hom

theorem sub_parts {n f g s : Nat} (hf : f < 2 ^ n) : sub s (f + 2 ^ n * g) = (sub (s % 2 ^ n) f && sub (s / 2 ^ n) g) := by
  rw [Bool.eq_iff_iff, Bool.and_eq_true, sub_iff, sub_iff, sub_iff, Nat.add_comm]
  constructor
  · intro h
    constructor
    · intro i hi
      rw [Nat.testBit_mod_two_pow, Bool.and_eq_true, decide_eq_true_eq] at hi
      have := h i hi.2
      rwa [Nat.testBit_two_pow_mul_add _ hf, if_pos hi.1] at this
    · intro i hi
      rw [Nat.testBit_div_two_pow] at hi
      have := h _ hi
      rwa [Nat.testBit_two_pow_mul_add _ hf, if_neg (by omega), show i + n - n = i by omega] at this
  · rintro ⟨h1, h2⟩ i hi
    rw [Nat.testBit_two_pow_mul_add _ hf]
    by_cases e : i < n
    · rw [if_pos e]; exact h1 i (by rw [Nat.testBit_mod_two_pow, decide_eq_true e, hi]; rfl)
    · rw [if_neg e]; exact h2 (i - n) (by rw [Nat.testBit_div_two_pow, show i - n + n = i by omega]; exact hi)

/-- The sets of a join: each facet of the one with each of the other. -/
def pairs (n : Nat) (xs ys : List Int) : List Int := xs.flatMap fun x => ys.map fun y => x + 2 ^ n * y
def disQ (n : Nat) (q r : Nat → Bool) (s : Nat) : Bool := (decide (s < 2 ^ n) && q s) || (s % 2 ^ n == 0 && r (s / 2 ^ n))
def both (n : Nat) (xs ys : List Int) : List Int := xs ++ ys.map fun y => 2 ^ n * y

theorem inF_pairs {n : Nat} {xs ys : List Int} (hx : ∀ x, x ∈ xs → ∃ f : Nat, x = (f : Int) ∧ f < 2 ^ n) (hy : ∀ y, y ∈ ys → ∃ g : Nat, y = (g : Int)) (s : Nat) : inF (pairs n xs ys) s = joinQ n (inF xs) (inF ys) s := by
  unfold joinQ
  rw [Bool.eq_iff_iff, Bool.and_eq_true, inF_iff, inF_iff, inF_iff]
  unfold pairs
  constructor
  · rintro ⟨z, hz, hs⟩
    obtain ⟨x, hx', hz⟩ := List.mem_flatMap.1 hz
    obtain ⟨y, hy', rfl⟩ := List.mem_map.1 hz
    obtain ⟨f, rfl, hf⟩ := hx x hx'
    obtain ⟨g, rfl⟩ := hy y hy'
    have e : ((f : Int) + 2 ^ n * (g : Int)).toNat = f + 2 ^ n * g := by
      rw [show (2 : Int) ^ n * (g : Int) = ((2 ^ n * g : Nat) : Int) by push_cast; rfl]; omega
    rw [e, sub_parts hf, Bool.and_eq_true] at hs
    exact ⟨⟨_, hx', hs.1⟩, ⟨_, hy', hs.2⟩⟩
  · rintro ⟨⟨x, hx', h1⟩, ⟨y, hy', h2⟩⟩
    obtain ⟨f, rfl, hf⟩ := hx x hx'
    obtain ⟨g, rfl⟩ := hy y hy'
    refine ⟨(f : Int) + 2 ^ n * (g : Int), List.mem_flatMap.2 ⟨_, hx', List.mem_map.2 ⟨_, hy', rfl⟩⟩, ?_⟩
    have e : ((f : Int) + 2 ^ n * (g : Int)).toNat = f + 2 ^ n * g := by
      rw [show (2 : Int) ^ n * (g : Int) = ((2 ^ n * g : Nat) : Int) by push_cast; rfl]; omega
    rw [e, sub_parts hf, Bool.and_eq_true]
    exact ⟨h1, h2⟩

theorem inF_both {n : Nat} {xs ys : List Int} (hx : ∀ x, x ∈ xs → ∃ f : Nat, x = (f : Int) ∧ f < 2 ^ n) (hy : ∀ y, y ∈ ys → ∃ g : Nat, y = (g : Int)) (s : Nat) : inF (both n xs ys) s = disQ n (inF xs) (inF ys) s := by
  have h2 := Nat.two_pow_pos n
  unfold disQ both
  rw [Bool.eq_iff_iff, Bool.or_eq_true, Bool.and_eq_true, Bool.and_eq_true, decide_eq_true_eq, beq_iff_eq, inF_iff, inF_iff, inF_iff]
  have e : ∀ g : Nat, ((2 : Int) ^ n * (g : Int)).toNat = 0 + 2 ^ n * g := fun g => by
    rw [show (2 : Int) ^ n * (g : Int) = ((2 ^ n * g : Nat) : Int) by push_cast; rfl]; omega
  have z : ∀ t : Nat, sub t 0 = true ↔ t = 0 := fun t => ⟨fun h => by have := sub_le h; omega, fun h => by rw [h]; exact sub_refl 0⟩
  constructor
  · rintro ⟨z', hz, hs⟩
    rcases List.mem_append.1 hz with hz | hz
    · obtain ⟨f, rfl, hf⟩ := hx z' hz
      have := sub_le hs
      exact .inl ⟨by simp at this; omega, _, hz, hs⟩
    · obtain ⟨y, hy', rfl⟩ := List.mem_map.1 hz
      obtain ⟨g, rfl⟩ := hy y hy'
      rw [e, sub_parts h2, Bool.and_eq_true, z] at hs
      exact .inr ⟨hs.1, _, hy', hs.2⟩
  · rintro (⟨hl, x, hx', h⟩ | ⟨h0, y, hy', h⟩)
    · exact ⟨x, List.mem_append_left _ hx', h⟩
    · obtain ⟨g, rfl⟩ := hy y hy'
      exact ⟨_, List.mem_append_right _ (List.mem_map.2 ⟨_, hy', rfl⟩), by rw [e, sub_parts h2, Bool.and_eq_true, z]; exact ⟨h0, h⟩⟩

theorem sub_mod {n s t : Nat} (h : sub s t = true) : sub (s % 2 ^ n) (t % 2 ^ n) = true := by
  rw [sub_iff] at h ⊢
  intro i hi
  rw [Nat.testBit_mod_two_pow, Bool.and_eq_true] at hi ⊢
  exact ⟨hi.1, h i hi.2⟩
theorem sub_div {n s t : Nat} (h : sub s t = true) : sub (s / 2 ^ n) (t / 2 ^ n) = true := by
  rw [sub_iff] at h ⊢
  intro i hi
  rw [Nat.testBit_div_two_pow] at hi ⊢
  exact h _ hi
theorem joinQ_down {n : Nat} {q r : Nat → Bool} (hq : Down q) (hr : Down r) : Down (joinQ n q r) := fun s t hs ht h k => by
  unfold joinQ at k ⊢
  rw [Bool.and_eq_true] at k ⊢
  have hm := fun x => Nat.mod_le x (2 ^ n)
  have hd := fun x => Nat.div_le_self x (2 ^ n)
  have a1 := hm s
  have a2 := hm t
  have a3 := hd s
  have a4 := hd t
  exact ⟨hq _ _ (by omega) (by omega) (sub_mod h) k.1, hr _ _ (by omega) (by omega) (sub_div h) k.2⟩
theorem disQ_down {n : Nat} {q r : Nat → Bool} (hq : Down q) (hr : Down r) : Down (disQ n q r) := fun s t hs ht h k => by
  unfold disQ at k ⊢
  rw [Bool.or_eq_true, Bool.and_eq_true, Bool.and_eq_true, decide_eq_true_eq, beq_iff_eq] at k ⊢
  have hd := fun x => Nat.div_le_self x (2 ^ n)
  have a3 := hd s
  have a4 := hd t
  have a5 := sub_le h
  rcases k with ⟨k1, k2⟩ | ⟨k1, k2⟩
  · exact .inl ⟨by omega, hq s t hs ht h k2⟩
  · refine .inr ⟨?_, hr _ _ (by omega) (by omega) (sub_div h) k2⟩
    have := sub_le (sub_mod (n := n) h)
    omega

/-- The sets that contain no two points 2 i and 2 i + 1, of k pairs. -/
def crossQ (k s : Nat) : Bool := (List.range k).all fun i => !(s / 2 ^ (2 * i) % 4 == 3)

def joinOk (n m : Int) (xs ys : List Int) : Bool := isC n xs && isC m ys && decide (n + m ≤ 6)
def joinO (n m : Int) (xs ys : List Int) := partO (joinOk n m xs ys) (n + m) (joinQ n.toNat (inF xs) (inF ys))
def disO (n m : Int) (xs ys : List Int) := partO (joinOk n m xs ys) (n + m) (disQ n.toNat (inF xs) (inF ys))
def crossO (k : Int) := partO (inB 1 3 k) (2 * k) fun s => decide (s < 2 ^ (2 * k.toNat)) && crossQ k.toNat s
/-- The points of all facets. -/
def conePts (n : Int) (xs : List Int) : Nat := if isC n xs = true ∧ xs ≠ [] then xs.foldl (fun a x => a &&& x.toNat) 63 else 0

theorem card_ord (q : Nat → Bool) : Card (fun s => s < 64 ∧ q s = true) (ord q).length := by
  refine Card.bij (S := fun x : Int => x ∈ ord q) ⟨ord q, ?_, fun _ => Iff.rfl, rfl⟩ Int.toNat (fun s : Nat => (s : Int)) ?_ ?_ ?_ ?_
  · exact (ord_rises q).imp fun {a b} h e => by subst e; exact befZ_asym h h
  · intro x hx
    obtain ⟨s, rfl, h1, h2⟩ := (mem_ord q x).1 hx
    exact ⟨h1, h2⟩
  · rintro s ⟨h1, h2⟩
    exact (mem_ord q _).2 ⟨s, rfl, h1, h2⟩
  · intro x hx
    obtain ⟨s, rfl, h1, h2⟩ := (mem_ord q x).1 hx
    rfl
  · rintro s _
    rfl
/-- FACES OF A JOIN ARE PAIRS OF FACES. -/
theorem join_faces {n m : Nat} (hnm : n + m ≤ 6) {q r : Nat → Bool} (hq : Low n q) (hr : Low m r) : (ord (joinQ n q r)).length = (ord q).length * (ord r).length := by
  refine (card_ord _).unique (((card_ord q).prod (card_ord r)).bij (fun z => z.1 + 2 ^ n * z.2) (fun s => (s % 2 ^ n, s / 2 ^ n)) ?_ ?_ ?_ ?_)
  all_goals have h2 := Nat.two_pow_pos n
  · rintro ⟨a, b⟩ ⟨⟨ha, qa⟩, ⟨hb, rb⟩⟩
    dsimp only at ha qa hb rb ⊢
    have la := hq a ha qa
    have lb := hr b hb rb
    have e1 : (a + 2 ^ n * b) % 2 ^ n = a := by rw [Nat.add_mul_mod_self_left]; exact Nat.mod_eq_of_lt la
    have e2 : (a + 2 ^ n * b) / 2 ^ n = b := by rw [Nat.add_mul_div_left _ _ h2, Nat.div_eq_of_lt la, Nat.zero_add]
    refine ⟨?_, by unfold joinQ; rw [e1, e2, qa, rb]; rfl⟩
    have : 2 ^ n * (b + 1) ≤ 2 ^ n * 2 ^ m := Nat.mul_le_mul_left _ (by omega)
    rw [← Nat.pow_add, Nat.mul_add] at this
    have := Nat.pow_le_pow_right (n := 2) (by decide) hnm
    omega
  · rintro s ⟨h, k⟩
    unfold joinQ at k
    rw [Bool.and_eq_true] at k
    have a1 := Nat.mod_le s (2 ^ n)
    have a2 := Nat.div_le_self s (2 ^ n)
    exact ⟨⟨by dsimp only; omega, k.1⟩, ⟨by dsimp only; omega, k.2⟩⟩
  · rintro ⟨a, b⟩ ⟨⟨ha, qa⟩, _⟩
    dsimp only at ha qa ⊢
    have la := hq a ha qa
    rw [Nat.add_mul_mod_self_left, Nat.mod_eq_of_lt la, Nat.add_mul_div_left _ _ h2, Nat.div_eq_of_lt la, Nat.zero_add]
  · rintro s _
    exact Nat.mod_add_div s (2 ^ n)

end Join
end Go.Proofs.Ythjgpbcdcgagfaa

/-! THE LIST OF HOLES, of no program: cones, suspensions, cross complexes. -/

namespace Go.Proofs.Ythjgpbcdcgagfaa
namespace Hom
open Sets Lin Join

theorem J_congr {q r : Nat → Bool} (h : ∀ s, s < 64 → q s = r s) (k : Nat) : J q k = J r k := List.filter_congr fun s hs => by rw [h s (List.mem_range.1 hs)]
theorem rk_congr {q r : Nat → Bool} (h : ∀ s, s < 64 → q s = r s) (p k : Nat) : rk p q k = rk p r k := by unfold rk bdm; rw [J_congr h, J_congr h]
theorem hol_congr {q r : Nat → Bool} (h : ∀ s, s < 64 → q s = r s) (p k : Nat) : hol p q k = hol p r k := by unfold hol fN; rw [J_congr h, rk_congr h, rk_congr h]

/-- The holes of a complex by size. -/
def holL (p : Nat) (n : Int) (xs : List Int) : List Int := (List.range (top (faces n xs))).map fun k => hol p (inF xs) k
theorem holL_length (p : Nat) (n : Int) (xs : List Int) : (holL p n xs).length = top (faces n xs) := by unfold holL; rw [List.length_map, List.length_range]
theorem faces_ord {n : Int} {xs : List Int} (h : isC n xs = true) : faces n xs = ord (inF xs) := by unfold faces; rw [if_pos h]
theorem holL_ord (p : Nat) {n : Int} {xs : List Int} (h : isC n xs = true) {q : Nat → Bool} (hq : ∀ s, s < 64 → inF xs s = q s) : holL p n xs = (List.range (top (ord q))).map fun k => hol p q k := by
  unfold holL
  rw [faces_ord h, ord_congr hq]
  exact List.map_congr_left fun k _ => hol_congr hq p k

theorem joinQ_one {n : Nat} {q : Nat → Bool} (hq : Low n q) (s : Nat) (hs : s < 64) : joinQ n q (inF [1]) s = addQ n q q s := by
  have h2 := Nat.two_pow_pos n
  have f0 : inF [1] 0 = true := by decide
  have f1 : inF [1] 1 = true := by decide
  have f2 : ∀ t, 2 ≤ t → inF [1] t = false := fun t ht => by
    rw [Bool.eq_false_iff]; intro h
    obtain ⟨f, hf, hs⟩ := (inF_iff _ _).1 h
    rw [List.mem_singleton.1 hf] at hs
    have := sub_le hs; simp at this; omega
  unfold joinQ
  by_cases e : s < 2 ^ n
  · rw [addQ_lo e, Nat.mod_eq_of_lt e, Nat.div_eq_of_lt e, f0, Bool.and_true]
  · obtain ⟨t, rfl⟩ : ∃ t, s = 2 ^ n + t := ⟨s - 2 ^ n, by omega⟩
    rw [addQ_hi, Nat.add_mod_left, Nat.add_div_left _ h2]
    by_cases e2 : t < 2 ^ n
    · rw [Nat.mod_eq_of_lt e2, Nat.div_eq_of_lt e2, f1, Bool.and_true]
    · rw [f2 _ (by have := (Nat.one_le_div_iff h2).2 (Nat.le_of_not_lt e2); omega), Bool.and_false, low_false hq (by omega) (by omega)]

theorem joinQ_two {n : Nat} {q : Nat → Bool} (hq : Low n q) (s : Nat) (hs : s < 64) : joinQ n q (inF [1, 2]) s = suspQ n q s := by
  have h2 := Nat.two_pow_pos n
  have h3 := pow_two n
  have f0 : inF [1, 2] 0 = true := by decide
  have f1 : inF [1, 2] 1 = true := by decide
  have f2 : inF [1, 2] 2 = true := by decide
  have f3 : ∀ t, 3 ≤ t → inF [1, 2] t = false := fun t ht => by
    rw [Bool.eq_false_iff]; intro h
    obtain ⟨f, hf, hs⟩ := (inF_iff _ _).1 h
    rcases List.mem_cons.1 hf with rfl | hf
    · have := sub_le hs; simp at this; omega
    · rw [List.mem_singleton.1 hf] at hs
      have := sub_le hs; simp at this; omega
  unfold joinQ suspQ
  by_cases e : s < 2 ^ n
  · rw [addQ_lo (by omega), addQ_lo e, Nat.mod_eq_of_lt e, Nat.div_eq_of_lt e, f0, Bool.and_true]
  · obtain ⟨t, rfl⟩ : ∃ t, s = 2 ^ n + t := ⟨s - 2 ^ n, by omega⟩
    rw [Nat.add_mod_left, Nat.add_div_left _ h2]
    by_cases e2 : t < 2 ^ n
    · rw [addQ_lo (by omega), addQ_hi, Nat.mod_eq_of_lt e2, Nat.div_eq_of_lt e2, f1, Bool.and_true]
    · obtain ⟨u, rfl⟩ : ∃ u, t = 2 ^ n + u := ⟨t - 2 ^ n, by omega⟩
      rw [show 2 ^ n + (2 ^ n + u) = 2 ^ (n + 1) + u by omega, addQ_hi, Nat.add_mod_left, Nat.add_div_left _ h2]
      by_cases e3 : u < 2 ^ n
      · rw [Nat.mod_eq_of_lt e3, Nat.div_eq_of_lt e3, f2, Bool.and_true]
      · rw [f3 _ (by have := (Nat.one_le_div_iff h2).2 (Nat.le_of_not_lt e3); omega), Bool.and_false, low_false hq (by omega) (by omega)]

theorem top_hit (L : List Int) (h : 0 < top L) : ∃ x, x ∈ L ∧ pc x.toNat + 1 = top L := by
  apply Classical.byContradiction
  intro hno
  have := top_le_of L (top L - 1) fun x hx => by
    have := top_ge L x hx
    have : ¬(pc x.toNat + 1 = top L) := fun e => hno ⟨x, hx, e⟩
    omega
  omega
theorem top_pos {q : Nat → Bool} (h : q 0 = true) : 0 < top (ord q) := by
  have := top_ge (ord q) 0 ((mem_ord q 0).2 ⟨0, rfl, by decide, h⟩)
  omega
theorem top_susp {n : Nat} (hn : n ≤ 4) {q : Nat → Bool} (hq : Low n q) (h0 : q 0 = true) : top (ord (suspQ n q)) = top (ord q) + 1 := by
  have h3 := pow_two n
  have h64 := pow64 (n := n + 1 + 1) (by omega)
  have h2p := Nat.two_pow_pos n
  have h4 := pow_two (n + 1)
  have ge : ∀ s, s < 64 → q s = true → pc s + 1 ≤ top (ord q) := fun s hs h => top_ge (ord q) s ((mem_ord q _).2 ⟨s, rfl, hs, h⟩)
  apply Nat.le_antisymm
  · refine top_le_of _ _ fun x hx => ?_
    obtain ⟨s, rfl, hs, hq'⟩ := (mem_ord _ x).1 hx
    show pc s + 1 ≤ _
    unfold suspQ at hq'
    by_cases e : s < 2 ^ (n + 1)
    · rw [addQ_lo e] at hq'
      by_cases e2 : s < 2 ^ n
      · rw [addQ_lo e2] at hq'
        have := ge s hs hq'; omega
      · obtain ⟨t, rfl⟩ : ∃ t, s = 2 ^ n + t := ⟨s - 2 ^ n, by omega⟩
        rw [addQ_hi] at hq'
        rw [pc_blk (by omega) (by omega)]
        have := ge t (by omega) hq'; omega
    · obtain ⟨t, rfl⟩ : ∃ t, s = 2 ^ (n + 1) + t := ⟨s - 2 ^ (n + 1), by omega⟩
      rw [addQ_hi] at hq'
      have hl := hq t (by omega) hq'
      rw [pc_blk (by omega) (by omega)]
      have := ge t (by omega) hq'; omega
  · obtain ⟨x, hx, e⟩ := top_hit (ord q) (top_pos h0)
    obtain ⟨s, rfl, hs, hqs⟩ := (mem_ord _ x).1 hx
    have hl := hq s hs hqs
    rw [← e]
    have := top_ge (ord (suspQ n q)) ((2 ^ n + s : Nat) : Int) ((mem_ord _ _).2 ⟨2 ^ n + s, rfl, by omega, by unfold suspQ; rw [addQ_lo (by omega), addQ_hi]; exact hqs⟩)
    rw [show (((2 ^ n + s : Nat) : Int)).toNat = 2 ^ n + s from rfl, pc_blk (by omega) hl] at this
    exact this

theorem range_succ_map {α : Type} (f : Nat → α) (m : Nat) : (List.range (m + 1)).map f = f 0 :: (List.range m).map fun k => f (k + 1) := by
  rw [List.range_succ_eq_map, List.map_cons, List.map_map]; rfl

theorem inF_low {n : Int} {xs : List Int} (h : isC n xs = true) : Low n.toNat (inF xs) := fun s _ hs => by
  have := inF_set h s hs
  unfold setB at this
  rw [decide_eq_true_eq] at this
  have h2 := this.2.2.2
  rw [show (2 : Int) ^ n.toNat = ((2 ^ n.toNat : Nat) : Int) by push_cast; rfl] at h2
  omega
theorem inF_zero {xs : List Int} (h : xs ≠ []) : inF xs 0 = true := by
  obtain ⟨x, l, rfl⟩ := List.exists_cons_of_ne_nil h
  exact (inF_iff _ _).2 ⟨x, List.mem_cons_self .., by unfold sub; simp⟩

/-- The cone's list of holes. -/
theorem holL_cone {p : Nat} (hP : IsP p) {n : Int} {xs : List Int} (h : isC n xs = true) (hn : n ≤ 5) (h0 : xs ≠ []) (hc : isC (n + 1) (maxQ (joinQ n.toNat (inF xs) (inF [1]))) = true) :
    0 < (holL p (n + 1) (maxQ (joinQ n.toNat (inF xs) (inF [1])))).length ∧ ∀ x, x ∈ holL p (n + 1) (maxQ (joinQ n.toNat (inF xs) (inF [1]))) → x = 0 := by
  have hn' := isC_n h
  have hl := inF_low h
  have dq := joinQ_down (n := n.toNat) (inF_down xs) (inF_down [1])
  have e : ∀ s, s < 64 → inF (maxQ (joinQ n.toNat (inF xs) (inF [1]))) s = addQ n.toNat (inF xs) (inF xs) s := fun s hs => by
    rw [inF_maxQ _ dq s hs, joinQ_one hl s hs]
  rw [holL_ord p hc e, List.length_map, List.length_range]
  refine ⟨top_pos ?_, fun x hx => ?_⟩
  · rw [addQ_lo (Nat.two_pow_pos _)]; exact inF_zero h0
  · obtain ⟨k, _, rfl⟩ := List.mem_map.1 hx
    exact cone_hol hP (by omega) hl (inF_down xs) k
/-- The suspension's list of holes. -/
theorem holL_susp {p : Nat} (hP : IsP p) {n : Int} {xs : List Int} (h : isC n xs = true) (hn : n ≤ 4) (h0 : xs ≠ []) (hc : isC (n + 2) (maxQ (joinQ n.toNat (inF xs) (inF [1, 2]))) = true) :
    holL p (n + 2) (maxQ (joinQ n.toNat (inF xs) (inF [1, 2]))) = 0 :: holL p n xs := by
  have hn' := isC_n h
  have hl := inF_low h
  have dq := joinQ_down (n := n.toNat) (inF_down xs) (inF_down [1, 2])
  have e : ∀ s, s < 64 → inF (maxQ (joinQ n.toNat (inF xs) (inF [1, 2]))) s = suspQ n.toNat (inF xs) s := fun s hs => by
    rw [inF_maxQ _ dq s hs, joinQ_two hl s hs]
  obtain ⟨k1, k2⟩ := susp_hol hP (n := n.toNat) (by omega) hl (inF_down xs)
  rw [holL_ord p hc e, holL_ord p h fun _ _ => rfl, top_susp (by omega) hl (inF_zero h0), range_succ_map, k1]
  exact congrArg _ (List.map_congr_left fun k _ => k2 k)

end Hom
end Go.Proofs.Ythjgpbcdcgagfaa
