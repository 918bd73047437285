/-
  TEXTS of one claim, put together: Nam2, Nam3, Nam4, Nam5.
-/
import Derived.Test.YtbkkdgmiokdbmaaGreatJg5
/-! NAMES OF POINTS, of no program: a complex with new names has as many faces and holes. -/

namespace Go.Proofs.YtbkkdgmiokdbmaaGreat
open Sets Lin Hom
namespace Nam

/-! ### signs -/

def B (s i : Nat) : Int := if s.testBit i = true then 1 else 0
/-- Is the pair (i, j) turned over? -/
def turned (ns : List Nat) (i j : Nat) : Int := if i < j ∧ pt ns j < pt ns i then 1 else 0
/-- How many pairs of the set are turned over. -/
def eps (n : Nat) (ns : List Nat) (s : Nat) : Int := sm (List.range n) fun i => sm (List.range n) fun j => turned ns i j * (B s i * B s j)
def sgE (x : Int) : Int := 1 - 2 * (x % 2)
theorem sgE_two (x : Int) : sgE x = 1 ∨ sgE x = -1 := by unfold sgE; omega
theorem sgE_sq (x : Int) : sgE x * sgE x = 1 := by rcases sgE_two x with h | h <;> rw [h] <;> rfl
theorem sgE_add {x y z : Int} (h : (2 : Int) ∣ x + y + z) : sgE x = sgE y * sgE z := by
  obtain ⟨m, hm⟩ := h
  unfold sgE
  rcases (show x % 2 = 0 ∨ x % 2 = 1 by omega) with h1 | h1 <;> rcases (show y % 2 = 0 ∨ y % 2 = 1 by omega) with h2 | h2 <;> rcases (show z % 2 = 0 ∨ z % 2 = 1 by omega) with h3 | h3 <;> rw [h1, h2, h3] <;> first | rfl | omega
/-- The points of s below p. -/
def low (n s p : Nat) : Int := sm (List.range n) fun i => (if i < p then 1 else 0) * B s i
theorem one_more : ∀ t u : Fin 64, (sub t.val u.val && pc u.val == pc t.val + 1) = true → ((List.range 6).any fun p => u.val == t.val + 2 ^ p && !t.val.testBit p) = true := by decide +kernel
theorem add_bit : ∀ t : Fin 64, ∀ p : Fin 6, t.val.testBit p.val = false → ∀ i : Fin 6, (t.val + 2 ^ p.val).testBit i.val = (t.val.testBit i.val || decide (i.val = p.val)) := by decide +kernel
theorem add_low : ∀ n : Fin 7, ∀ t : Fin 64, ∀ p : Fin 6, t.val < 2 ^ n.val → t.val.testBit p.val = false → sgn t.val (t.val + 2 ^ p.val) = sgE (low n.val t.val p.val) := by decide +kernel
theorem B_add {t p : Nat} (ht : t < 64) (hp : p < 6) (h : t.testBit p = false) {i : Nat} (hi : i < 6) : B (t + 2 ^ p) i = B t i + if i = p then 1 else 0 := by
  have := add_bit ⟨t, ht⟩ ⟨p, hp⟩ h ⟨i, hi⟩
  dsimp only at this
  unfold B
  rw [this]
  by_cases e : i = p
  · subst e; rw [h]; simp
  · cases t.testBit i <;> simp [e]
theorem turned_self (ns : List Nat) (i : Nat) : turned ns i i = 0 := if_neg (by omega)
theorem eps_add {n : Nat} (hn : n ≤ 6) (ns : List Nat) {t p : Nat} (ht : t < 2 ^ n) (hp : p < n) (h : t.testBit p = false) : eps n ns (t + 2 ^ p) = eps n ns t + sm (List.range n) fun i => (turned ns i p + turned ns p i) * B t i := by
  have h64 := pow64 hn
  have e : ∀ i ∈ List.range n, (sm (List.range n) fun j => turned ns i j * (B (t + 2 ^ p) i * B (t + 2 ^ p) j)) = (sm (List.range n) fun j => turned ns i j * (B t i * B t j)) + (turned ns i p * B t i + if i = p then sm (List.range n) fun j => turned ns p j * B t j else 0) := fun i hi => by
    have hi := List.mem_range.1 hi
    have e1 : (sm (List.range n) fun j => turned ns i j * (B (t + 2 ^ p) i * B (t + 2 ^ p) j)) = sm (List.range n) fun j => (turned ns i j * (B t i * B t j)) + ((if j = p then turned ns i p * B t i else 0) + ((if i = p then turned ns p j * B t j else 0) + if j = p then (if i = p then turned ns p p else 0) else 0)) := sm_congr _ _ _ fun j hj => by
      have hj := List.mem_range.1 hj
      rw [B_add (by omega) (by omega) h (by omega), B_add (by omega) (by omega) h (by omega)]
      by_cases a : i = p <;> by_cases b : j = p <;> simp only [a, b, if_true, if_false] <;> grind
    rw [e1, sm_add, sm_add, sm_add]
    congr 1
    rw [sm_one p _ _ List.nodup_range (List.mem_range.2 hp) fun j _ hj => if_neg hj, if_pos rfl]
    rw [sm_one p (fun j => if j = p then (if i = p then turned ns p p else 0) else 0) _ List.nodup_range (List.mem_range.2 hp) fun j _ hj => if_neg hj, if_pos rfl, turned_self]
    by_cases a : i = p
    · simp only [a, if_true]; grind
    · simp only [a, if_false]; rw [sm_zero _ _ fun _ _ => rfl]; grind
  unfold eps
  rw [sm_congr _ _ _ e, sm_add, sm_add]
  congr 1
  rw [sm_one p (fun i => if i = p then _ else 0) _ List.nodup_range (List.mem_range.2 hp) fun j _ hj => if_neg hj, if_pos rfl, ← sm_add]
  exact sm_congr _ _ _ fun i _ => by grind
theorem names_sum {n : Nat} {ns : List Nat} (h : Names n ns) (f : Nat → Int) : sm (List.range n) f = sm (List.range n) fun i => f (pt ns i) := by
  rw [← sm_perm h f]
  conv => lhs; rw [show ns = (List.range n).map (pt ns) from by
    apply List.ext_getElem (by rw [h.len]; simp)
    intro i h1 h2
    rw [List.getElem_map, List.getElem_range, pt_get h1]]
  exact sm_map _ _ _
theorem ren_add {n : Nat} (hn : n ≤ 6) {ns : List Nat} (h : Names n ns) {t p : Nat} (ht : t < 2 ^ n) (hp : p < n) (hb : t.testBit p = false) : ren ns (t + 2 ^ p) = ren ns t + 2 ^ pt ns p := by
  have h64 := pow64 hn
  have hr := ren_lt h t
  have hpp := h.lt hp
  have hrb : (ren ns t).testBit (pt ns p) = false := by rw [ren_at h t hp]; exact hb
  have hlt : ren ns t + 2 ^ pt ns p < 2 ^ 6 + 2 ^ 6 := by
    have : 2 ^ pt ns p ≤ 2 ^ 6 := Nat.pow_le_pow_right (by decide) (by omega)
    omega
  apply Nat.eq_of_testBit_eq
  intro j
  by_cases hj : j < 6
  · have e := add_bit ⟨ren ns t, by omega⟩ ⟨pt ns p, by omega⟩ hrb ⟨j, hj⟩
    dsimp only at e
    rw [e]
    rw [Bool.eq_iff_iff, Bool.or_eq_true, decide_eq_true_iff, ren_bit h, ren_bit h]
    constructor
    · rintro ⟨i, h1, h2, h3⟩
      have e2 := add_bit ⟨t, by omega⟩ ⟨p, by omega⟩ hb ⟨i, by omega⟩
      dsimp only at e2
      rw [e2, Bool.or_eq_true, decide_eq_true_iff] at h2
      rcases h2 with h2 | h2
      · exact .inl ⟨i, h1, h2, h3⟩
      · right; rw [← h3, h2]
    · rintro (⟨i, h1, h2, h3⟩ | h2)
      · have e2 := add_bit ⟨t, by omega⟩ ⟨p, by omega⟩ hb ⟨i, by omega⟩
        dsimp only at e2
        exact ⟨i, h1, by rw [e2, h2]; rfl, h3⟩
      · have e2 := add_bit ⟨t, by omega⟩ ⟨p, by omega⟩ hb ⟨p, by omega⟩
        dsimp only at e2
        exact ⟨p, hp, by rw [e2]; simp, h2.symm⟩
  · have h1 : (ren ns (t + 2 ^ p)).testBit j = false := Nat.testBit_lt_two_pow (Nat.lt_of_lt_of_le (ren_lt h _) (Nat.pow_le_pow_right (by decide) (by omega)))
    have hs : sub (2 ^ pt ns p) (2 ^ n - 1) = true := by
      rw [sub_iff]; intro i hi
      rw [Nat.testBit_two_pow, decide_eq_true_iff] at hi
      rw [Nat.testBit_two_pow_sub_one, decide_eq_true_iff]; omega
    have h2 : ren ns t + 2 ^ pt ns p < 2 ^ 6 := by
      have : ∀ t : Fin 64, ∀ p : Fin 6, t.val.testBit p.val = false → t.val + 2 ^ p.val < 64 := by decide +kernel
      exact this ⟨ren ns t, by omega⟩ ⟨pt ns p, by omega⟩ hrb
    rw [h1, Nat.testBit_lt_two_pow (Nat.lt_of_lt_of_le h2 (Nat.pow_le_pow_right (by decide) (by omega)))]
/-- The signs of the border under new names. -/
theorem ren_sgn {n : Nat} (hn : n ≤ 6) {ns : List Nat} (h : Names n ns) {t u : Nat} (ht : t < 2 ^ n) (hu : u < 2 ^ n) : sgn (ren ns t) (ren ns u) = sgE (eps n ns u) * sgE (eps n ns t) * sgn t u := by
  have h64 := pow64 hn
  by_cases e : sub t u = true ∧ pc u = pc t + 1
  · have := one_more ⟨t, by omega⟩ ⟨u, by omega⟩ (by rw [e.1, e.2]; simp)
    rw [List.any_eq_true] at this
    obtain ⟨p, hp, hq⟩ := this
    rw [Bool.and_eq_true, beq_iff_eq, Bool.not_eq_true'] at hq
    obtain ⟨hpu, hb⟩ := hq
    dsimp only at hpu hb
    subst hpu
    have hp := List.mem_range.1 hp
    have hpn : p < n := by
      refine bit_lt hu ?_
      have := add_bit ⟨t, by omega⟩ ⟨p, hp⟩ hb ⟨p, hp⟩
      dsimp only at this
      rw [this]; simp
    have hrb : (ren ns t).testBit (pt ns p) = false := by rw [ren_at h t hpn]; exact hb
    have hl := ren_lt h t
    have hpl := h.lt hpn
    rw [ren_add hn h ht hpn hb, add_low ⟨n, by omega⟩ ⟨t, by omega⟩ ⟨p, hp⟩ ht hb, add_low ⟨n, by omega⟩ ⟨ren ns t, by omega⟩ ⟨pt ns p, by omega⟩ hl hrb, eps_add hn ns ht hpn hb]
    dsimp only
    have hlow : low n (ren ns t) (pt ns p) = sm (List.range n) fun i => (if pt ns i < pt ns p then 1 else 0) * B t i := by
      unfold low
      rw [names_sum h]
      refine sm_congr _ _ _ fun i hi => ?_
      unfold B
      rw [ren_at h t (List.mem_range.1 hi)]
    have hpar : (2 : Int) ∣ low n (ren ns t) (pt ns p) + low n t p + sm (List.range n) fun i => (turned ns i p + turned ns p i) * B t i := by
      rw [hlow]
      unfold low
      rw [← sm_add, ← sm_add]
      have := sm_dvd (2 : Int) (List.range n) (fun i => (if pt ns i < pt ns p then 1 else 0) * B t i + (if i < p then 1 else 0) * B t i + (turned ns i p + turned ns p i) * B t i) (fun _ => 0) fun i hi => by
        have hi := List.mem_range.1 hi
        by_cases ei : i = p
        · subst ei
          rw [show B t i = 0 from if_neg (by rw [hb]; simp)]; exact ⟨0, by simp⟩
        · have hne : pt ns i ≠ pt ns p := fun e => ei (h.inj hi hpn e)
          unfold turned
          rcases Nat.lt_or_gt_of_ne ei with h1 | h1 <;> rcases Nat.lt_or_gt_of_ne hne with h2 | h2
          · exact ⟨B t i, by simp only [h1, h2, show ¬ (pt ns p < pt ns i) by omega, show ¬ (p < i) by omega, and_false, false_and, if_true, if_false]; grind⟩
          · exact ⟨B t i, by simp only [h1, show ¬ (pt ns i < pt ns p) by omega, show pt ns p < pt ns i by omega, show ¬ (p < i) by omega, and_self, if_true, if_false]; grind⟩
          · exact ⟨B t i, by simp only [show p < i by omega, h2, show ¬ (pt ns p < pt ns i) by omega, show ¬ (i < p) by omega, and_self, if_true, if_false]; grind⟩
          · exact ⟨0, by simp only [show ¬ (i < p) by omega, show ¬ (pt ns i < pt ns p) by omega, and_false, false_and, if_false]; grind⟩
      rw [sm_zero _ _ fun _ _ => rfl, Int.sub_zero] at this
      exact this
    generalize (sm (List.range n) fun i => (turned ns i p + turned ns p i) * B t i) = d at *
    obtain ⟨m, hm⟩ := hpar
    rw [sgE_add (x := low n (ren ns t) (pt ns p)) (y := d) (z := low n t p) ⟨m, by omega⟩, sgE_add (x := eps n ns t + d) (y := d) (z := eps n ns t) ⟨eps n ns t + d, by omega⟩]
    have := sgE_sq (eps n ns t)
    grind
  · rw [sgn_zero e, sgn_zero]
    · simp
    · rw [ren_sub h ht, ren_pc hn h ht, ren_pc hn h hu]; exact e

/-! ### complexes with new names -/

def renQ (n : Nat) (ns : List Nat) (q : Nat → Bool) (s : Nat) : Bool := full n s && q (ren (bak n ns) s)
theorem renQ_iff (n : Nat) (ns : List Nat) (q : Nat → Bool) (s : Nat) : renQ n ns q s = true ↔ s < 2 ^ n ∧ q (ren (bak n ns) s) = true := by
  unfold renQ; rw [Bool.and_eq_true, full_iff]
theorem renQ_down {n : Nat} (hn : n ≤ 6) {ns : List Nat} (h : Names n ns) {q : Nat → Bool} (dq : Down q) : Down (renQ n ns q) := fun s t hs ht hst k => by
  have h64 := pow64 hn
  obtain ⟨h1, h2⟩ := (renQ_iff n ns q t).1 k
  have := sub_le hst
  have hs1 : s < 2 ^ n := by omega
  refine (renQ_iff n ns q s).2 ⟨hs1, dq _ _ ?_ ?_ (by rw [ren_sub h.bak hs1]; exact hst) h2⟩
  · have := ren_lt h.bak s; omega
  · have := ren_lt h.bak t; omega
theorem renQ_low (n : Nat) (ns : List Nat) (q : Nat → Bool) : Low n (renQ n ns q) := fun s _ hs => ((renQ_iff n ns q s).1 hs).1
theorem ren_mem {n : Nat} (hn : n ≤ 6) {ns : List Nat} (h : Names n ns) {q : Nat → Bool} {k t : Nat} (ht : t < 2 ^ n) : ren ns t ∈ J (renQ n ns q) k ↔ t ∈ J q k := by
  have h64 := pow64 hn
  have hr := ren_lt h t
  rw [mem_J, mem_J, renQ_iff, ren_bak h ht, ren_pc hn h ht]
  constructor
  · rintro ⟨_, h2, _, h3⟩
    exact ⟨by omega, h2, h3⟩
  · rintro ⟨_, h2, h3⟩
    exact ⟨by omega, h2, hr, h3⟩
/-- Chains there and back. -/
def fwd (p n : Nat) (ns : List Nat) (y : Nat → Int) (s : Nat) : Int := if s < 2 ^ n then (sgE (eps n ns (ren (bak n ns) s)) * y (ren (bak n ns) s)) % p else 0
def bwd (p n : Nat) (ns : List Nat) (z : Nat → Int) (t : Nat) : Int := if t < 2 ^ n then (sgE (eps n ns t) * z (ren ns t)) % p else 0
theorem mod_zero {p : Nat} {x : Int} (h : x = 0) : x % (p : Int) = 0 := by rw [h]; simp
theorem fwd_vec {p : Nat} (hp : 0 < p) {n : Nat} (hn : n ≤ 6) {ns : List Nat} (h : Names n ns) {q : Nat → Bool} {k : Nat} {y : Nat → Int} (hy : Vec p (J q k) y) : Vec p (J (renQ n ns q) k) (fwd p n ns y) := by
  refine ⟨fun s hs => ?_, fun s hs => ?_⟩
  · unfold fwd
    have := ((renQ_iff n ns q s).1 ((mem_J _ k s).1 hs).2.2).1
    rw [if_pos this]
    exact ⟨Int.emod_nonneg _ (by omega), Int.emod_lt_of_pos _ (by omega)⟩
  · unfold fwd
    by_cases e : s < 2 ^ n
    · rw [if_pos e]
      refine mod_zero ?_
      rw [hy.2 _ fun hm => hs ?_, Int.mul_zero]
      have := (ren_mem hn h (q := q) (k := k) (ren_lt h.bak s)).2 hm
      rwa [bak_ren h e] at this
    · exact if_neg e
theorem bwd_vec {p : Nat} (hp : 0 < p) {n : Nat} (hn : n ≤ 6) {ns : List Nat} (h : Names n ns) {q : Nat → Bool} (hq : Low n q) {k : Nat} {z : Nat → Int} (hz : Vec p (J (renQ n ns q) k) z) : Vec p (J q k) (bwd p n ns z) := by
  refine ⟨fun t ht => ?_, fun t ht => ?_⟩
  · unfold bwd
    obtain ⟨h1, _, h3⟩ := (mem_J _ k t).1 ht
    rw [if_pos (hq t h1 h3)]
    exact ⟨Int.emod_nonneg _ (by omega), Int.emod_lt_of_pos _ (by omega)⟩
  · unfold bwd
    by_cases e : t < 2 ^ n
    · rw [if_pos e]
      refine mod_zero ?_
      rw [hz.2 _ fun hm => ht ((ren_mem hn h e).1 hm), Int.mul_zero]
    · exact if_neg e
theorem sgE_mod {p : Nat} {e x : Int} (he : e * e = 1) : (e * ((e * x) % (p : Int))) % (p : Int) = x % p := by
  obtain ⟨m, hm⟩ := dvd_emod_sub (e * x) p
  refine Int.emod_eq_emod_iff_emod_sub_eq_zero.2 (Int.emod_eq_zero_of_dvd ⟨e * m, ?_⟩)
  grind
theorem bwd_fwd {p n : Nat} {ns : List Nat} (h : Names n ns) {q : Nat → Bool} (hq : Low n q) {k : Nat} {y : Nat → Int} (hy : Vec p (J q k) y) : bwd p n ns (fwd p n ns y) = y := by
  funext t
  unfold bwd
  by_cases e : t < 2 ^ n
  · rw [if_pos e]
    unfold fwd
    rw [if_pos (ren_lt h t), ren_bak h e, sgE_mod (sgE_sq _), vec_mod hy t]
  · rw [if_neg e]
    exact (hy.2 t fun hm => e (hq t ((mem_J _ k t).1 hm).1 ((mem_J _ k t).1 hm).2.2)).symm
theorem fwd_bwd {p n : Nat} {ns : List Nat} (h : Names n ns) {q : Nat → Bool} {k : Nat} {z : Nat → Int} (hz : Vec p (J (renQ n ns q) k) z) : fwd p n ns (bwd p n ns z) = z := by
  funext s
  unfold fwd
  by_cases e : s < 2 ^ n
  · rw [if_pos e]
    unfold bwd
    rw [if_pos (ren_lt h.bak s), bak_ren h e, sgE_mod (sgE_sq _), vec_mod hz s]
  · rw [if_neg e]
    exact (hz.2 s fun hm => e ((renQ_iff n ns q s).1 ((mem_J _ k s).1 hm).2.2).1).symm
theorem ren_sum {n : Nat} {ns : List Nat} (h : Names n ns) (f : Nat → Int) : sm (List.range (2 ^ n)) f = sm (List.range (2 ^ n)) fun u => f (ren ns u) := by
  rw [← sm_map (ren ns) f]
  refine sm_perm ((List.perm_ext_iff_of_nodup List.nodup_range ?_).2 fun s => ?_) f
  · refine nodup_map_of _ _ List.nodup_range fun a ha b hb e => ?_
    rw [← ren_bak h (List.mem_range.1 ha), ← ren_bak h (List.mem_range.1 hb), e]
  · rw [List.mem_map, List.mem_range]
    constructor
    · intro hs
      exact ⟨_, List.mem_range.2 (ren_lt h.bak s), bak_ren h hs⟩
    · rintro ⟨u, _, rfl⟩
      exact ren_lt h u
theorem bd_fwd {p : Nat} {n : Nat} (hn : n ≤ 6) {ns : List Nat} (h : Names n ns) {q : Nat → Bool} (hq : Low n q) {k : Nat} {y : Nat → Int} (hy : Vec p (J q k) y) {t : Nat} (ht : t < 2 ^ n) : (p : Int) ∣ bd (fwd p n ns y) (ren ns t) - sgE (eps n ns t) * bd y t := by
  have h64 := pow64 hn
  unfold bd
  rw [S_low h64 (f := fun s => sgn (ren ns t) s * fwd p n ns y s) fun s hs _ => by rw [show fwd p n ns y s = 0 from if_neg (by omega)]; simp, ren_sum h]
  rw [S_low h64 (f := fun s => sgn t s * y s) fun s hs _ => by rw [hy.2 s fun hm => by have := hq s ((mem_J _ k s).1 hm).1 ((mem_J _ k s).1 hm).2.2; omega]; simp, ← sm_mul]
  refine sm_dvd _ _ _ _ fun u hu => ?_
  have hu := List.mem_range.1 hu
  rw [ren_sgn hn h ht hu]
  rw [show fwd p n ns y (ren ns u) = (sgE (eps n ns u) * y u) % p from by unfold fwd; rw [if_pos (ren_lt h u), ren_bak h hu]]
  obtain ⟨m, hm⟩ := dvd_emod_sub (sgE (eps n ns u) * y u) p
  have := sgE_sq (eps n ns u)
  exact ⟨sgE (eps n ns u) * sgE (eps n ns t) * sgn t u * m, by grind⟩
theorem ren_cyc {p : Nat} (hP : IsP p) {n : Nat} (hn : n ≤ 6) {ns : List Nat} (h : Names n ns) {q : Nat → Bool} (hq : Low n q) (dq : Down q) {k c : Nat} (hc : Card (Cyc p q k) c) : Card (Cyc p (renQ n ns q) k) c := by
  have hp : 0 < p := by have := hP.1; omega
  have h64 := pow64 hn
  have hdr := renQ_down hn h dq
  refine hc.bij (fwd p n ns) (bwd p n ns) ?_ ?_ (fun y hy => bwd_fwd h hq hy.1) fun z hz => fwd_bwd h hz.1
  · intro y hy
    have hv := fwd_vec hp hn h hy.1
    refine ⟨hv, fun s hs => ?_⟩
    by_cases e : s < 2 ^ n
    · have h1 := bd_fwd hn h hq hy.1 (ren_lt h.bak s)
      rw [bak_ren h e] at h1
      obtain ⟨a, ha⟩ := h1
      obtain ⟨b, hb⟩ := hy.2 (ren (bak n ns) s) (by have := ren_lt h.bak s; omega)
      exact ⟨a + sgE (eps n ns (ren (bak n ns) s)) * b, by grind⟩
    · rw [bd_off hdr hv hs fun e2 => e ((renQ_iff n ns q s).1 e2.1).1]; exact ⟨0, by simp⟩
  · intro z hz
    have hv := bwd_vec hp hn h hq hz.1
    refine ⟨hv, fun t ht => ?_⟩
    by_cases e : t < 2 ^ n
    · have h1 := bd_fwd hn h hq hv e
      rw [fwd_bwd h hz.1] at h1
      obtain ⟨a, ha⟩ := h1
      obtain ⟨b, hb⟩ := hz.2 (ren ns t) (by have := ren_lt h t; omega)
      have := sgE_sq (eps n ns t)
      exact ⟨sgE (eps n ns t) * (b - a), by grind⟩
    · rw [bd_off dq hv ht fun e2 => e (hq t ht e2.1)]; exact ⟨0, by simp⟩
/-- As many faces. -/
theorem ren_fN {n : Nat} (hn : n ≤ 6) {ns : List Nat} (h : Names n ns) {q : Nat → Bool} (hq : Low n q) (k : Nat) : fN (renQ n ns q) k = fN q k := by
  have h1 := (card_vec 2 _ (J_nodup q k)).bij (T := Vec 2 (J (renQ n ns q) k)) (fwd 2 n ns) (bwd 2 n ns) (fun y hy => fwd_vec (by decide) hn h hy) (fun z hz => bwd_vec (by decide) hn h hq hz) (fun y hy => bwd_fwd h hq hy) fun z hz => fwd_bwd h hz
  exact pow_inj (by decide) ((card_vec 2 _ (J_nodup _ _)).unique h1)
/-- AS MANY HOLES. -/
theorem ren_hol {p : Nat} (hP : IsP p) {n : Nat} (hn : n ≤ 6) {ns : List Nat} (h : Names n ns) {q : Nat → Bool} (hq : Low n q) (dq : Down q) (k : Nat) : hol p (renQ n ns q) k = hol p q k := by
  have hdr := renQ_down hn h dq
  have hr : ∀ k, rk p (renQ n ns q) k = rk p q k := fun k => by
    have h1 := rk_of_card hP hdr (ren_cyc hP hn h hq dq (card_cyc hP dq k).1)
    have h2 := cyc_le hP dq k
    rw [ren_fN hn h hq] at h1
    unfold fN at h1 h2
    omega
  unfold hol
  rw [ren_fN hn h hq, hr, hr]

end Nam
end Go.Proofs.YtbkkdgmiokdbmaaGreat

/-! NAMES OF POINTS, of no program: complexes with new names, all lists of names, the canonical complex. -/

namespace Go.Proofs.YtbkkdgmiokdbmaaGreat
open Sets Lin Hom
namespace Nam

/-! ### complexes with new names -/

def renZ (ns : List Nat) (x : Int) : Int := ((ren ns x.toNat : Nat) : Int)
/-- The facets with new names, in order. -/
def renL (ns : List Nat) (xs : List Int) : List Int := order (xs.map (renZ ns))
theorem renL_ok {n : Nat} (hn : n ≤ 6) {ns : List Nat} (h : Names n ns) (xs : List Int) : allOk (xs.map (renZ ns)) = true := by
  unfold allOk
  rw [List.all_eq_true]
  intro x hx
  obtain ⟨y, _, rfl⟩ := List.mem_map.1 hx
  have h64 := pow64 hn
  have := ren_lt h y.toNat
  exact (okZ_nat _).2 (by omega)
theorem mem_renL {n : Nat} (hn : n ≤ 6) {ns : List Nat} (h : Names n ns) (xs : List Int) (x : Int) : x ∈ renL ns xs ↔ ∃ y, y ∈ xs ∧ x = renZ ns y := by
  unfold renL
  rw [order_iff _ (renL_ok hn h xs), List.mem_map]
  exact ⟨fun ⟨y, hy, e⟩ => ⟨y, hy, e.symm⟩, fun ⟨y, hy, e⟩ => ⟨y, hy, e.symm⟩⟩
theorem isC_lt {n : Nat} {xs : List Int} (h : isC n xs = true) {x : Int} (hx : x ∈ xs) : ∃ s : Nat, x = (s : Int) ∧ s < 2 ^ n := by
  have := isC_set h x hx
  rw [setB_iff] at this
  refine ⟨x.toNat, by omega, ?_⟩
  have e : ((n : Nat) : Int).toNat = n := by simp
  rw [e] at this
  have := this.2.2
  have e2 : ((2 ^ n : Nat) : Int) = 2 ^ n := by simp
  omega
theorem renL_inF {n : Nat} (hn : n ≤ 6) {ns : List Nat} (h : Names n ns) {xs : List Int} (hc : isC n xs = true) (s : Nat) : inF (renL ns xs) s = renQ n ns (inF xs) s := by
  rw [Bool.eq_iff_iff, inF_iff, renQ_iff, inF_iff]
  constructor
  · rintro ⟨f, hf, e⟩
    obtain ⟨y, hy, rfl⟩ := (mem_renL hn h xs f).1 hf
    obtain ⟨t, rfl, ht⟩ := isC_lt hc hy
    have e : sub s (ren ns t) = true := e
    have hr := ren_lt h t
    have := sub_le e
    have hs1 : s < 2 ^ n := by omega
    refine ⟨hs1, (t : Int), hy, ?_⟩
    show sub (ren (bak n ns) s) t = true
    rw [← ren_sub h (ren_lt h.bak s), bak_ren h hs1]; exact e
  · rintro ⟨hs1, f, hf, e⟩
    obtain ⟨t, rfl, ht⟩ := isC_lt hc hf
    refine ⟨renZ ns (t : Int), (mem_renL hn h xs _).2 ⟨_, hf, rfl⟩, ?_⟩
    show sub s (ren ns t) = true
    have e : sub (ren (bak n ns) s) t = true := e
    rw [← ren_sub h (ren_lt h.bak s), bak_ren h hs1] at e; exact e
theorem inF_lowN {n : Nat} {xs : List Int} (hc : isC n xs = true) : Low n (inF xs) := fun s _ hs => by
  obtain ⟨f, hf, e⟩ := (inF_iff xs s).1 hs
  obtain ⟨t, rfl, ht⟩ := isC_lt hc hf
  have e : sub s t = true := e
  have := sub_le e
  omega
theorem isC_six {n : Nat} {xs : List Int} (hc : isC n xs = true) : 1 ≤ n ∧ n ≤ 6 := by have := isC_n hc; omega
theorem renL_isC {n : Nat} {ns : List Nat} (h : Names n ns) {xs : List Int} (hc : isC n xs = true) : isC n (renL ns xs) = true := by
  have hn := isC_six hc
  rw [isC_pair]
  refine ⟨by omega, fun x hx => ?_, ?_⟩
  · obtain ⟨y, _, rfl⟩ := (mem_renL hn.2 h xs x).1 hx
    have := ren_lt h y.toNat
    rw [setB_iff]
    have e2 : ((2 ^ n : Nat) : Int) = 2 ^ n := by simp
    unfold renZ
    simp only [Int.toNat_natCast]
    omega
  · refine List.Pairwise.imp_of_mem ?_ (order_rises (xs.map (renZ ns)))
    intro x y hx hy hb
    rw [fits_iff]
    refine ⟨hb, ?_⟩
    obtain ⟨a, ha, rfl⟩ := (mem_renL hn.2 h xs x).1 hx
    obtain ⟨b, hb', rfl⟩ := (mem_renL hn.2 h xs y).1 hy
    have hab : b ≠ a := fun e => by rw [e] at hb; exact befZ_asym hb hb
    have := isC_apart hc a b ha hb' hab
    obtain ⟨s, rfl, hs⟩ := isC_lt hc ha
    obtain ⟨t, rfl, ht⟩ := isC_lt hc hb'
    show sub (ren ns s) (ren ns t) = false
    rw [ren_sub h hs]; exact this
theorem renL_maxQ {n : Nat} {ns : List Nat} (h : Names n ns) {xs : List Int} (hc : isC n xs = true) : renL ns xs = maxQ (renQ n ns (inF xs)) := by
  rw [← isC_maxQ (renL_isC h hc)]
  exact maxQ_congr fun s _ => renL_inF (isC_six hc).2 h hc s
theorem isC_ext {n : Nat} {xs ys : List Int} (hx : isC n xs = true) (hy : isC n ys = true) (h : ∀ x, x ∈ xs ↔ x ∈ ys) : xs = ys := rises_eq _ _ (isC_rises hx) (isC_rises hy) h
theorem renL_cmp {n : Nat} {ns ms : List Nat} (h : Names n ns) (k : Names n ms) {xs : List Int} (hc : isC n xs = true) : renL ns (renL ms xs) = renL (cmp n ns ms) xs := by
  have hn := (isC_six hc).2
  have e : ∀ y, y ∈ xs → renZ ns (renZ ms y) = renZ (cmp n ns ms) y := fun y _ => by
    unfold renZ; rw [Int.toNat_natCast, ren_cmp h k]
  refine isC_ext (renL_isC h (renL_isC k hc)) (renL_isC (h.cmp k) hc) fun x => ?_
  rw [mem_renL hn h, mem_renL hn (h.cmp k)]
  constructor
  · rintro ⟨y, hy, rfl⟩
    obtain ⟨z, hz, rfl⟩ := (mem_renL hn k xs y).1 hy
    exact ⟨z, hz, e z hz⟩
  · rintro ⟨z, hz, rfl⟩
    exact ⟨renZ ms z, (mem_renL hn k xs _).2 ⟨z, hz, rfl⟩, (e z hz).symm⟩
theorem renL_id {n : Nat} {xs : List Int} (hc : isC n xs = true) : renL (List.range n) xs = xs := by
  refine isC_ext (renL_isC (names_id n) hc) hc fun x => ?_
  rw [mem_renL (isC_six hc).2 (names_id n)]
  have e : ∀ y, y ∈ xs → renZ (List.range n) y = y := fun y hy => by
    obtain ⟨s, rfl, hs⟩ := isC_lt hc hy
    unfold renZ; rw [Int.toNat_natCast, ren_id hs]
  exact ⟨fun ⟨y, hy, k⟩ => by rw [k, e y hy]; exact hy, fun hx => ⟨x, hx, (e x hx).symm⟩⟩
theorem cmp_bak {n : Nat} {ns : List Nat} (h : Names n ns) : cmp n (bak n ns) ns = List.range n := names_ext (h.bak.cmp h) (names_id n) fun i hi => by rw [pt_cmp hi, pt_bak (h.lt hi), h.ix_pt hi, pt_id hi]
theorem renL_bak {n : Nat} {ns : List Nat} (h : Names n ns) {xs : List Int} (hc : isC n xs = true) : renL (bak n ns) (renL ns xs) = xs := by
  rw [renL_cmp h.bak h hc, cmp_bak h, renL_id hc]
theorem rises_nodup {L : List Int} (h : Rises L) : L.Nodup := h.imp fun {a b} hb e => by rw [e] at hb; exact befZ_asym hb hb
theorem renL_length {n : Nat} {ns : List Nat} (h : Names n ns) {xs : List Int} (hc : isC n xs = true) : (renL ns xs).length = xs.length := by
  have hn := (isC_six hc).2
  have h1 : (xs.map (renZ ns)).Nodup := nodup_map_of _ _ (rises_nodup (isC_rises hc)) fun a ha b hb e => by
    obtain ⟨s, rfl, hs⟩ := isC_lt hc ha
    obtain ⟨t, rfl, ht⟩ := isC_lt hc hb
    unfold renZ at e
    rw [Int.toNat_natCast, Int.toNat_natCast] at e
    have e : ren ns s = ren ns t := by omega
    rw [← ren_bak h hs, ← ren_bak h ht, e]
  have := ((List.perm_ext_iff_of_nodup (rises_nodup (isC_rises (renL_isC h hc))) h1).2 fun x => by rw [mem_renL hn h, List.mem_map]; exact ⟨fun ⟨y, hy, e⟩ => ⟨y, hy, e.symm⟩, fun ⟨y, hy, e⟩ => ⟨y, hy, e.symm⟩⟩).length_eq
  rw [this, List.length_map]
/-- Faces and holes of a complex with new names. -/
theorem renL_hol {p : Nat} (hP : IsP p) {n : Nat} {ns : List Nat} (h : Names n ns) {xs : List Int} (hc : isC n xs = true) (k : Nat) : hol p (inF (renL ns xs)) k = hol p (inF xs) k := by
  rw [hol_congr (fun s _ => renL_inF (isC_six hc).2 h hc s), ren_hol hP (isC_six hc).2 h (inF_lowN hc) (inF_down xs)]
theorem renL_fN {n : Nat} {ns : List Nat} (h : Names n ns) {xs : List Int} (hc : isC n xs = true) (k : Nat) : fN (inF (renL ns xs)) k = fN (inF xs) k := by
  have e : fN (inF (renL ns xs)) k = fN (renQ n ns (inF xs)) k := by unfold fN; rw [J_congr fun s _ => renL_inF (isC_six hc).2 h hc s]
  rw [e, ren_fN (isC_six hc).2 h (inF_lowN hc)]

/-! ### all names -/

/-- All lists of names that begin so, f names to come. -/
def allN (n : Nat) : Nat → List Nat → List (List Nat)
  | 0, head => [head]
  | f + 1, head => (List.range n).flatMap fun k => if head.contains k then [] else allN n f (head ++ [k])
theorem mem_allN (n : Nat) : ∀ (f : Nat) (head ns : List Nat), head.length + f = n → head.Nodup → (∀ j ∈ head, j < n) → (ns ∈ allN n f head ↔ Names n ns ∧ head <+: ns)
  | 0, head, ns, hl, hn, hm => by
    show ns ∈ [head] ↔ _
    rw [List.mem_singleton]
    constructor
    · rintro rfl; exact ⟨names_of (by omega) hn hm, List.prefix_refl _⟩
    · rintro ⟨h, k⟩
      exact (k.eq_of_length (by rw [h.len]; omega)).symm
  | f + 1, head, ns, hl, hn, hm => by
    show ns ∈ (List.range n).flatMap _ ↔ _
    rw [List.mem_flatMap]
    constructor
    · rintro ⟨k, hk, h⟩
      split at h
      · simp at h
      · rename_i hc
        have hkn : k ∉ head := fun e => hc (List.contains_iff_mem.2 e)
        have hk := List.mem_range.1 hk
        obtain ⟨h1, h2⟩ := (mem_allN n f (head ++ [k]) ns (by simp; omega) (by
          rw [List.nodup_append]; exact ⟨hn, by simp, fun a ha b hb e => hkn (by rw [List.mem_singleton] at hb; rw [← hb, ← e]; exact ha)⟩) (fun j hj => by
          rcases List.mem_append.1 hj with e | e
          · exact hm j e
          · rw [List.mem_singleton] at e; omega)).1 h
        exact ⟨h1, (List.prefix_append ..).trans h2⟩
    · rintro ⟨h, hp⟩
      obtain ⟨r, hr⟩ := hp
      cases r with
      | nil =>
        have := congrArg List.length hr
        rw [h.len] at this
        simp at this; omega
      | cons k r =>
        have hk : k ∈ ns := by rw [← hr]; simp
        have hnd := h.nodup
        rw [← hr, List.nodup_append] at hnd
        have hkn : k ∉ head := fun e => hnd.2.2 k e k (by simp) rfl
        refine ⟨k, List.mem_range.2 ((h.mem k).1 hk), ?_⟩
        rw [if_neg (fun e => hkn (List.contains_iff_mem.1 e))]
        refine (mem_allN n f (head ++ [k]) ns (by simp; omega) (by
          rw [List.nodup_append]; exact ⟨hn, by simp, fun a ha b hb e => hkn (by rw [List.mem_singleton] at hb; rw [← hb, ← e]; exact ha)⟩) (fun j hj => by
          rcases List.mem_append.1 hj with e | e
          · exact hm j e
          · rw [List.mem_singleton] at e; rw [e]; exact (h.mem k).1 hk)).2 ⟨h, r, by rw [← hr]; simp⟩
/-- All names for n points, in ascending order. -/
def allNames (n : Nat) : List (List Nat) := allN n n []
theorem mem_allNames (n : Nat) (ns : List Nat) : ns ∈ allNames n ↔ Names n ns := by
  unfold allNames
  rw [mem_allN n n [] ns (by simp) List.nodup_nil (by simp)]
  exact ⟨fun h => h.1, fun h => ⟨h, List.nil_prefix⟩⟩
theorem allN_prefix (n : Nat) : ∀ (f : Nat) (head ns : List Nat), ns ∈ allN n f head → head <+: ns
  | 0, head, ns, h => by
    have : ns = head := List.mem_singleton.1 h
    rw [this]; exact List.prefix_refl _
  | f + 1, head, ns, h => by
    obtain ⟨k, _, h⟩ := List.mem_flatMap.1 h
    split at h
    · simp at h
    · exact (List.prefix_append ..).trans (allN_prefix n f _ ns h)
theorem allN_nodup (n : Nat) : ∀ (f : Nat) (head : List Nat), (allN n f head).Nodup
  | 0, head => by show [head].Nodup; simp
  | f + 1, head => by
    show ((List.range n).flatMap _).Nodup
    have key : ∀ l : List Nat, l.Nodup → (l.flatMap fun k => if head.contains k then [] else allN n f (head ++ [k])).Nodup ∧ ∀ ns, ns ∈ (l.flatMap fun k => if head.contains k then [] else allN n f (head ++ [k])) → ∃ k ∈ l, head ++ [k] <+: ns := by
      intro l
      induction l with
      | nil => intro _; exact ⟨List.nodup_nil, by simp⟩
      | cons k l ih =>
        intro hl
        obtain ⟨h1, h2⟩ := List.nodup_cons.1 hl
        obtain ⟨i1, i2⟩ := ih h2
        have hpre : ∀ ns, ns ∈ (if head.contains k then [] else allN n f (head ++ [k])) → head ++ [k] <+: ns := fun ns h => by
          split at h
          · simp at h
          · exact allN_prefix n f _ ns h
        rw [List.flatMap_cons]
        refine ⟨?_, fun ns h => ?_⟩
        · rw [List.nodup_append]
          refine ⟨?_, i1, fun a ha b hb e => ?_⟩
          · split
            · exact List.nodup_nil
            · exact allN_nodup n f _
          · subst e
            obtain ⟨k', hk', p'⟩ := i2 a hb
            have p := hpre a ha
            have : head ++ [k] = head ++ [k'] := by
              obtain ⟨r, hr⟩ := p
              obtain ⟨r', hr'⟩ := p'
              rw [← hr'] at hr
              exact (List.append_inj hr (by simp)).1
            have : k = k' := by simpa using this
            exact h1 (this ▸ hk')
        · rcases List.mem_append.1 h with e | e
          · exact ⟨k, by simp, hpre ns e⟩
          · obtain ⟨k', hk', p'⟩ := i2 ns e
            exact ⟨k', by simp [hk'], p'⟩
    exact (key _ List.nodup_range).1
theorem allNames_nodup (n : Nat) : (allNames n).Nodup := allN_nodup n n []

/-! ### lists by their first difference -/

def lessL : List Int → List Int → Bool
  | x :: xs, y :: ys => if x ≠ y then decide (x < y) else lessL xs ys
  | _, _ => false
theorem lessL_irr : ∀ xs : List Int, lessL xs xs = false
  | [] => rfl
  | x :: xs => by show (if x ≠ x then _ else lessL xs xs) = false; rw [if_neg (by simp)]; exact lessL_irr xs
theorem lessL_tri : ∀ xs ys : List Int, xs.length = ys.length → lessL xs ys = false → lessL ys xs = false → xs = ys
  | [], [], _, _, _ => rfl
  | [], y :: ys, h, _, _ => by simp at h
  | x :: xs, [], h, _, _ => by simp at h
  | x :: xs, y :: ys, h, h1, h2 => by
    unfold lessL at h1 h2
    by_cases e : x = y
    · subst e
      rw [if_neg (by simp)] at h1 h2
      rw [lessL_tri xs ys (by simpa using h) h1 h2]
    · rw [if_pos e, decide_eq_false_iff_not] at h1
      rw [if_pos (Ne.symm e), decide_eq_false_iff_not] at h2
      omega
theorem lessL_trans : ∀ xs ys zs : List Int, xs.length = ys.length → ys.length = zs.length → lessL xs ys = true → lessL ys zs = true → lessL xs zs = true
  | [], _, _, _, _, h, _ => by simp [lessL] at h
  | x :: xs, [], _, _, _, h, _ => by simp [lessL] at h
  | x :: xs, y :: ys, [], _, _, _, h => by simp [lessL] at h
  | x :: xs, y :: ys, z :: zs, hl, hl2, h1, h2 => by
    unfold lessL at h1 h2 ⊢
    by_cases e : x = y
    · subst e
      rw [if_neg (by simp)] at h1
      by_cases e2 : x = z
      · subst e2
        rw [if_neg (by simp)] at h2 ⊢
        exact lessL_trans xs ys zs (by simpa using hl) (by simpa using hl2) h1 h2
      · rw [if_pos e2] at h2 ⊢; exact h2
    · rw [if_pos e, decide_eq_true_iff] at h1
      by_cases e2 : y = z
      · subst e2
        rw [if_pos e, decide_eq_true_iff]; exact h1
      · rw [if_pos e2, decide_eq_true_iff] at h2
        rw [if_pos (by omega), decide_eq_true_iff]; omega

/-! ### the canonical complex -/

/-- The least so far. -/
def leastOf (xs : List Int) (L : List (List Nat)) (best : List Int) : List Int := L.foldl (fun b ns => if lessL (renL ns xs) b = true then renL ns xs else b) best
def canonL (n : Nat) (xs : List Int) : List Int := leastOf xs (allNames n) xs
theorem leastOf_spec {m : Nat} (xs : List Int) : ∀ (L : List (List Nat)) (best : List Int), best.length = m → (∀ ns ∈ L, (renL ns xs).length = m) →
    (leastOf xs L best = best ∨ ∃ ns ∈ L, leastOf xs L best = renL ns xs) ∧ (leastOf xs L best).length = m ∧ lessL best (leastOf xs L best) = false ∧ ∀ ns ∈ L, lessL (renL ns xs) (leastOf xs L best) = false
  | [], best, hb, _ => ⟨.inl rfl, hb, lessL_irr _, by simp⟩
  | ns :: L, best, hb, hL => by
    have hns := hL ns (List.mem_cons_self ..)
    have hL' : ∀ ms ∈ L, (renL ms xs).length = m := fun ms h => hL ms (List.mem_cons_of_mem _ h)
    have e : leastOf xs (ns :: L) best = leastOf xs L (if lessL (renL ns xs) best = true then renL ns xs else best) := rfl
    rw [e]
    by_cases hl : lessL (renL ns xs) best = true
    · rw [if_pos hl]
      obtain ⟨i1, i2, i3, i4⟩ := leastOf_spec xs L (renL ns xs) hns hL'
      refine ⟨.inr ?_, i2, ?_, fun ms hm => ?_⟩
      · rcases i1 with i1 | ⟨ms, hm, i1⟩
        · exact ⟨ns, List.mem_cons_self .., i1⟩
        · exact ⟨ms, List.mem_cons_of_mem _ hm, i1⟩
      · rw [Bool.eq_false_iff]; intro k
        rw [lessL_trans _ _ _ (by rw [hns, hb]) (by rw [hb, i2]) hl k] at i3; cases i3
      · rcases List.mem_cons.1 hm with e2 | e2
        · rw [e2]; exact i3
        · exact i4 ms e2
    · rw [if_neg hl]
      obtain ⟨i1, i2, i3, i4⟩ := leastOf_spec xs L best hb hL'
      refine ⟨?_, i2, i3, fun ms hm => ?_⟩
      · rcases i1 with i1 | ⟨ms, hm, i1⟩
        · exact .inl i1
        · exact .inr ⟨ms, List.mem_cons_of_mem _ hm, i1⟩
      · rcases List.mem_cons.1 hm with e2 | e2
        · rw [e2, Bool.eq_false_iff]; intro k
          have hbn : lessL best (renL ns xs) = false := by
            rw [Bool.eq_false_iff]; intro k2
            exact hl (by
              by_cases e3 : lessL (renL ns xs) best = true
              · exact e3
              · rw [lessL_trans _ _ _ (by rw [hb, hns]) (by rw [hns, i2]) k2 k] at i3; cases i3)
          have := lessL_tri _ _ (by rw [hb, hns]) hbn (by simpa using hl)
          rw [← this] at k
          rw [k] at i3; cases i3
        · exact i4 ms e2
theorem canon_spec {n : Nat} {xs : List Int} (hc : isC n xs = true) : (∃ ns, Names n ns ∧ canonL n xs = renL ns xs) ∧ ∀ ns, Names n ns → lessL (renL ns xs) (canonL n xs) = false := by
  obtain ⟨h1, _, _, h4⟩ := leastOf_spec (m := xs.length) xs (allNames n) xs rfl fun ns h => renL_length ((mem_allNames n ns).1 h) hc
  refine ⟨?_, fun ns h => h4 ns ((mem_allNames n ns).2 h)⟩
  rcases h1 with h1 | ⟨ns, h, h1⟩
  · exact ⟨List.range n, names_id n, by rw [renL_id hc]; exact h1⟩
  · exact ⟨ns, (mem_allNames n ns).1 h, h1⟩
theorem canon_isC {n : Nat} {xs : List Int} (hc : isC n xs = true) : isC n (canonL n xs) = true := by
  obtain ⟨⟨ns, h, e⟩, _⟩ := canon_spec hc
  rw [e]; exact renL_isC h hc
theorem canon_length {n : Nat} {xs : List Int} (hc : isC n xs = true) : (canonL n xs).length = xs.length := by
  obtain ⟨⟨ns, h, e⟩, _⟩ := canon_spec hc
  rw [e]; exact renL_length h hc
/-- New names keep the canonical complex. -/
theorem canon_ren {n : Nat} {ns : List Nat} (h : Names n ns) {xs : List Int} (hc : isC n xs = true) : canonL n (renL ns xs) = canonL n xs := by
  have hr := renL_isC h hc
  obtain ⟨⟨ms, hm, e1⟩, l1⟩ := canon_spec hr
  obtain ⟨⟨ks, hk, e2⟩, l2⟩ := canon_spec hc
  refine lessL_tri _ _ (by rw [canon_length hr, canon_length hc, renL_length h hc]) ?_ ?_
  · rw [e1, renL_cmp hm h hc]
    exact l2 _ (hm.cmp h)
  · have e3 : canonL n xs = renL (cmp n ks (bak n ns)) (renL ns xs) := by
      rw [e2, ← renL_cmp hk h.bak hr, renL_bak h hc]
    rw [e3]
    exact l1 _ (hk.cmp h.bak)
theorem canon_canon {n : Nat} {xs : List Int} (hc : isC n xs = true) : canonL n (canonL n xs) = canonL n xs := by
  obtain ⟨⟨ns, h, e⟩, _⟩ := canon_spec hc
  conv => lhs; rw [e]
  exact canon_ren h hc

end Nam
end Go.Proofs.YtbkkdgmiokdbmaaGreat

/-! NAMES OF POINTS, of no program: the names that keep a complex; classes of points. -/

namespace Go.Proofs.YtbkkdgmiokdbmaaGreat
open Sets Lin Hom
namespace Nam

/-! ### the names that keep a complex -/

def symL (n : Nat) (xs : List Int) : List (List Nat) := (allNames n).filter fun ns => renL ns xs == xs
def Sym (n : Nat) (xs : List Int) (ns : List Nat) : Prop := Names n ns ∧ renL ns xs = xs
theorem mem_sym (n : Nat) (xs : List Int) (ns : List Nat) : ns ∈ symL n xs ↔ Sym n xs ns := by
  unfold symL Sym; rw [List.mem_filter, mem_allNames, beq_iff_eq]
theorem card_sym (n : Nat) (xs : List Int) : Card (Sym n xs) (symL n xs).length := ⟨symL n xs, (allNames_nodup n).filter _, mem_sym n xs, rfl⟩
theorem Sym.id {n : Nat} {xs : List Int} (hc : isC n xs = true) : Sym n xs (List.range n) := ⟨names_id n, renL_id hc⟩
theorem Sym.cmp {n : Nat} {xs : List Int} (hc : isC n xs = true) {ns ms : List Nat} (h : Sym n xs ns) (k : Sym n xs ms) : Sym n xs (cmp n ns ms) := ⟨h.1.cmp k.1, by rw [← renL_cmp h.1 k.1 hc, k.2, h.2]⟩
theorem Sym.bak {n : Nat} {xs : List Int} (hc : isC n xs = true) {ns : List Nat} (h : Sym n xs ns) : Sym n xs (bak n ns) := ⟨h.1.bak, by
  have := renL_bak h.1 hc
  rwa [h.2] at this⟩
theorem sym_pos {n : Nat} {xs : List Int} (hc : isC n xs = true) : 1 ≤ (symL n xs).length := (card_sym n xs).pos _ (Sym.id hc)

/-! ### the points that a point goes to -/

def orbU (L : List (List Nat)) (i : Nat) : Nat := L.foldl (fun s ns => s ||| 2 ^ pt ns i) 0
theorem orbU_bit (i j : Nat) : ∀ (L : List (List Nat)) (a : Nat), (L.foldl (fun s ns => s ||| 2 ^ pt ns i) a).testBit j = true ↔ a.testBit j = true ∨ ∃ ns ∈ L, pt ns i = j
  | [], a => by simp
  | ns :: L, a => by
    rw [List.foldl_cons, orbU_bit i j L, Nat.testBit_or, Bool.or_eq_true, Nat.testBit_two_pow, decide_eq_true_iff]
    constructor
    · rintro ((h | h) | ⟨ms, h1, h2⟩)
      · exact .inl h
      · exact .inr ⟨ns, by simp, h⟩
      · exact .inr ⟨ms, by simp [h1], h2⟩
    · rintro (h | ⟨ms, h1, h2⟩)
      · exact .inl (.inl h)
      · rcases List.mem_cons.1 h1 with e | e
        · exact .inl (.inr (e ▸ h2))
        · exact .inr ⟨ms, e, h2⟩
/-- The class of a point. -/
def orb (n : Nat) (xs : List Int) (i : Nat) : Nat := orbU (symL n xs) i
theorem orb_bit (n : Nat) (xs : List Int) (i j : Nat) : (orb n xs i).testBit j = true ↔ ∃ ns, Sym n xs ns ∧ pt ns i = j := by
  unfold orb orbU
  rw [orbU_bit, Nat.zero_testBit]
  constructor
  · rintro (h | ⟨ns, h1, h2⟩)
    · cases h
    · exact ⟨ns, (mem_sym n xs ns).1 h1, h2⟩
  · rintro ⟨ns, h1, h2⟩
    exact .inr ⟨ns, (mem_sym n xs ns).2 h1, h2⟩
theorem orb_lt {n : Nat} {xs : List Int} {i : Nat} (hi : i < n) : orb n xs i < 2 ^ n := lt_pow fun j hj => by
  rw [Bool.eq_false_iff]; intro e
  obtain ⟨ns, h, k⟩ := (orb_bit n xs i j).1 e
  have := h.1.lt hi
  omega
theorem orb_self {n : Nat} {xs : List Int} (hc : isC n xs = true) {i : Nat} (hi : i < n) : (orb n xs i).testBit i = true := (orb_bit n xs i i).2 ⟨_, Sym.id hc, pt_id hi⟩
theorem orb_symm {n : Nat} {xs : List Int} (hc : isC n xs = true) {i j : Nat} (hi : i < n) (h : (orb n xs i).testBit j = true) : (orb n xs j).testBit i = true := by
  obtain ⟨ns, h1, rfl⟩ := (orb_bit n xs i j).1 h
  exact (orb_bit n xs _ i).2 ⟨_, Sym.bak hc h1, by rw [pt_bak (h1.1.lt hi), h1.1.ix_pt hi]⟩
theorem orb_trans {n : Nat} {xs : List Int} (hc : isC n xs = true) {i j k : Nat} (hi : i < n) (h : (orb n xs i).testBit j = true) (h' : (orb n xs j).testBit k = true) : (orb n xs i).testBit k = true := by
  obtain ⟨ns, h1, rfl⟩ := (orb_bit n xs i j).1 h
  obtain ⟨ms, h2, rfl⟩ := (orb_bit n xs _ k).1 h'
  exact (orb_bit n xs i _).2 ⟨_, Sym.cmp hc h2 h1, pt_cmp hi⟩
/-- How many names there are is told by a class and the names that keep its point. -/
theorem orb_dvd {n : Nat} {xs : List Int} (hc : isC n xs = true) {i : Nat} (hi : i < n) : (symL n xs).length % pc (orb n xs i) = 0 := by
  have hn := (isC_six hc).2
  obtain ⟨d, _, hd⟩ := (card_sym n xs).sub (T := fun ns => Sym n xs ns ∧ pt ns i = i) fun _ h => h.1
  have ho := card_pc hn (orb_lt (xs := xs) hi)
  have := ho.fibre (S := Sym n xs) (fun ns => pt ns i) (fun ns h => ⟨h.1.lt hi, (orb_bit n xs i _).2 ⟨ns, h, rfl⟩⟩) (d := d) fun j hj => by
    obtain ⟨g, hg, rfl⟩ := (orb_bit n xs i j).1 hj.2
    refine hd.bij (fun ns => cmp n g ns) (fun ns => cmp n (bak n g) ns) ?_ ?_ ?_ ?_
    · rintro ns ⟨h1, h2⟩
      exact ⟨Sym.cmp hc hg h1, by rw [pt_cmp hi, h2]⟩
    · rintro ns ⟨h1, h2⟩
      exact ⟨Sym.cmp hc (Sym.bak hc hg) h1, by rw [pt_cmp hi, h2, pt_bak (hg.1.lt hi), hg.1.ix_pt hi]⟩
    · rintro ns ⟨h1, _⟩
      exact names_ext (hg.1.bak.cmp (hg.1.cmp h1.1)) h1.1 fun k hk => by
        have := h1.1.lt hk
        rw [pt_cmp hk, pt_cmp hk, pt_bak (hg.1.lt this), hg.1.ix_pt this]
    · rintro ns ⟨h1, _⟩
      exact names_ext (hg.1.cmp (hg.1.bak.cmp h1.1)) h1.1 fun k hk => by
        have := h1.1.lt hk
        rw [pt_cmp hk, pt_cmp hk, pt_bak this, hg.1.pt_ix this]
  rw [(card_sym n xs).unique this]
  exact Nat.mul_mod_right _ _

/-! ### classes -/

/-- Is the point the least of its class? -/
def leastP (n : Nat) (xs : List Int) (i : Nat) : Bool := orb n xs i &&& (2 ^ i - 1) == 0
theorem leastP_iff (n : Nat) (xs : List Int) (i : Nat) : leastP n xs i = true ↔ ∀ j, j < i → (orb n xs i).testBit j = false := by
  unfold leastP
  rw [beq_iff_eq]
  constructor
  · intro h j hj
    have := congrArg (fun x => x.testBit j) h
    simp only [Nat.testBit_and, Nat.testBit_two_pow_sub_one, Nat.zero_testBit, hj, decide_true, Bool.and_true] at this
    exact this
  · intro h
    apply Nat.eq_of_testBit_eq
    intro j
    rw [Nat.testBit_and, Nat.testBit_two_pow_sub_one, Nat.zero_testBit]
    by_cases e : j < i
    · rw [h j e]; rfl
    · simp [e]
/-- The classes of the first k points. -/
def clsU (n : Nat) (xs : List Int) (k : Nat) : List Int := ((List.range k).filter (leastP n xs)).map fun i => ((orb n xs i : Nat) : Int)
def classes (n : Nat) (xs : List Int) : List Int := clsU n xs n
theorem clsU_hit {n : Nat} {xs : List Int} {k : Nat} (h : leastP n xs k = true) : clsU n xs (k + 1) = clsU n xs k ++ [((orb n xs k : Nat) : Int)] := by
  unfold clsU; rw [List.range_succ, List.filter_append, List.map_append]; simp [h]
theorem clsU_miss {n : Nat} {xs : List Int} {k : Nat} (h : leastP n xs k = false) : clsU n xs (k + 1) = clsU n xs k := by
  unfold clsU; rw [List.range_succ, List.filter_append, List.map_append]; simp [h]
theorem clsU_le (n : Nat) (xs : List Int) (k : Nat) : (clsU n xs k).length ≤ k := by
  unfold clsU; rw [List.length_map]; exact Nat.le_trans (List.length_filter_le _ _) (by simp)
theorem mem_classes {n : Nat} {xs : List Int} (x : Int) : x ∈ classes n xs ↔ ∃ i, i < n ∧ leastP n xs i = true ∧ x = ((orb n xs i : Nat) : Int) := by
  unfold classes clsU
  rw [List.mem_map]
  constructor
  · rintro ⟨i, hi, rfl⟩
    rw [List.mem_filter, List.mem_range] at hi
    exact ⟨i, hi.1, hi.2, rfl⟩
  · rintro ⟨i, h1, h2, rfl⟩
    exact ⟨i, by rw [List.mem_filter, List.mem_range]; exact ⟨h1, h2⟩, rfl⟩
theorem classes_apart {n : Nat} {xs : List Int} (hc : isC n xs = true) : (classes n xs).Pairwise fun x y => apart x.toNat y.toNat = true := by
  unfold classes clsU
  rw [List.pairwise_map]
  have h := (List.pairwise_lt_range (n := n)).filter (leastP n xs)
  refine h.imp_of_mem ?_
  intro a b ha hb hab
  rw [List.mem_filter, List.mem_range] at ha hb
  rw [Int.toNat_natCast, Int.toNat_natCast, apart_iff]
  rintro j ⟨h1, h2⟩
  have h3 := orb_trans hc hb.1 h2 (orb_symm hc ha.1 h1)
  rw [(leastP_iff n xs b).1 hb.2 a hab] at h3
  cases h3
/-- Each point lies in a class. -/
theorem classes_all {n : Nat} {xs : List Int} (hc : isC n xs = true) : ∀ (j i : Nat), j < n → i < n → (orb n xs i).testBit j = true → i ≤ n → ∃ x, x ∈ classes n xs ∧ x.toNat.testBit j = true := by
  intro j i hj
  induction i using Nat.strongRecOn with
  | _ i ih =>
    intro hi h _
    cases hl : leastP n xs i with
    | true => exact ⟨_, (mem_classes _).2 ⟨i, hi, hl, rfl⟩, by rw [Int.toNat_natCast]; exact h⟩
    | false =>
      have : ∃ k, k < i ∧ (orb n xs i).testBit k = true := Classical.byContradiction fun e => by
        have := (leastP_iff n xs i).2 fun k hk => by
          rw [Bool.eq_false_iff]; intro e2
          exact e ⟨k, hk, e2⟩
        rw [hl] at this; cases this
      obtain ⟨k, hk, h2⟩ := this
      exact ih k hk (by omega) (orb_trans hc (by omega) (orb_symm hc hi h2) h) (by omega)
/-- The first k classes together. -/
def sumC (L : List Int) (k : Nat) : Nat := (L.take k).foldl (fun a x => a + x.toNat) 0
theorem add_or : ∀ a b : Fin 64, apart a.val b.val = true → a.val + b.val = a.val ||| b.val := by decide +kernel
theorem sumC_next (L : List Int) (k : Nat) (hk : k < L.length) : sumC L (k + 1) = sumC L k + (L.getD k 0).toNat := by
  unfold sumC
  rw [List.take_add_one, List.getD, List.getElem?_eq_getElem hk, List.foldl_append]; rfl
theorem sumC_bits {L : List Int} (h64 : ∀ x ∈ L, x.toNat < 64) (hp : L.Pairwise fun x y => apart x.toNat y.toNat = true) : ∀ k, k ≤ L.length → sumC L k < 64 ∧ ∀ j, (sumC L k).testBit j = true ↔ ∃ i, i < k ∧ (L.getD i 0).toNat.testBit j = true
  | 0, _ => ⟨by show 0 < 64; decide, fun j => by
    show (0 : Nat).testBit j = true ↔ _
    rw [Nat.zero_testBit]
    exact ⟨fun h => absurd h (by simp), fun ⟨i, h, _⟩ => absurd h (Nat.not_lt_zero _)⟩⟩
  | k + 1, hk => by
    obtain ⟨i1, i2⟩ := sumC_bits h64 hp k (by omega)
    have hm : L.getD k 0 ∈ L := by rw [List.getD, List.getElem?_eq_getElem (by omega)]; exact List.getElem_mem _
    have hx := h64 _ hm
    have ha : apart (sumC L k) (L.getD k 0).toNat = true := by
      rw [apart_iff]
      rintro j ⟨h1, h2⟩
      obtain ⟨i, hi, h3⟩ := (i2 j).1 h1
      have := List.pairwise_iff_getElem.1 hp i k (by omega) (by omega) hi
      rw [apart_iff] at this
      rw [List.getD, List.getElem?_eq_getElem (by omega)] at h2 h3
      exact this j ⟨h3, h2⟩
    rw [sumC_next L k (by omega), add_or ⟨_, i1⟩ ⟨_, hx⟩ ha]
    refine ⟨Nat.or_lt_two_pow (n := 6) i1 hx, fun j => ?_⟩
    dsimp only
    rw [Nat.testBit_or, Bool.or_eq_true, i2]
    constructor
    · rintro (⟨i, h1, h2⟩ | h)
      · exact ⟨i, by omega, h2⟩
      · exact ⟨k, by omega, h⟩
    · rintro ⟨i, h1, h2⟩
      by_cases e : i = k
      · subst e; exact .inr h2
      · exact .inl ⟨i, by omega, h2⟩
theorem classes_lt {n : Nat} {xs : List Int} (hc : isC n xs = true) : ∀ x ∈ classes n xs, x.toNat < 64 := fun x hx => by
  obtain ⟨i, hi, _, rfl⟩ := (mem_classes x).1 hx
  have := orb_lt (xs := xs) hi
  have := pow64 (isC_six hc).2
  rw [Int.toNat_natCast]; omega
/-- The next class has no point in common with those before. -/
theorem classes_next {n : Nat} {xs : List Int} (hc : isC n xs = true) {k : Nat} (hk : k < (classes n xs).length) : sumC (classes n xs) k &&& ((classes n xs).getD k 0).toNat = 0 := by
  obtain ⟨_, h2⟩ := sumC_bits (classes_lt hc) (classes_apart hc) k (by omega)
  have : apart (sumC (classes n xs) k) ((classes n xs).getD k 0).toNat = true := by
    rw [apart_iff]
    rintro j ⟨h1, h3⟩
    obtain ⟨i, hi, h4⟩ := (h2 j).1 h1
    have := List.pairwise_iff_getElem.1 (classes_apart hc) i k (by omega) hk hi
    rw [apart_iff] at this
    rw [List.getD, List.getElem?_eq_getElem (by omega)] at h3 h4
    exact this j ⟨h4, h3⟩
  unfold apart at this
  rwa [beq_iff_eq] at this
/-- All classes together are all points. -/
theorem classes_sum {n : Nat} {xs : List Int} (hc : isC n xs = true) : sumC (classes n xs) (classes n xs).length = 2 ^ n - 1 := by
  obtain ⟨_, h2⟩ := sumC_bits (classes_lt hc) (classes_apart hc) _ (Nat.le_refl _)
  apply Nat.eq_of_testBit_eq
  intro j
  rw [Bool.eq_iff_iff, h2, Nat.testBit_two_pow_sub_one, decide_eq_true_iff]
  constructor
  · rintro ⟨i, hi, h⟩
    have hm : (classes n xs).getD i 0 ∈ classes n xs := by rw [List.getD, List.getElem?_eq_getElem hi]; exact List.getElem_mem _
    obtain ⟨p, hp, _, e⟩ := (mem_classes _).1 hm
    rw [e, Int.toNat_natCast] at h
    exact bit_lt (orb_lt hp) h
  · intro hj
    obtain ⟨x, hx, h⟩ := classes_all hc j j hj hj (orb_self hc hj) (by omega)
    obtain ⟨i, hi, rfl⟩ := List.mem_iff_getElem.1 hx
    exact ⟨i, hi, by rw [List.getD, List.getElem?_eq_getElem hi]; exact h⟩
theorem class_dvd {n : Nat} {xs : List Int} (hc : isC n xs = true) {k : Nat} (hk : k < (classes n xs).length) : (symL n xs).length % pc ((classes n xs).getD k 0).toNat = 0 := by
  have hm : (classes n xs).getD k 0 ∈ classes n xs := by rw [List.getD, List.getElem?_eq_getElem hk]; exact List.getElem_mem _
  obtain ⟨i, hi, _, e⟩ := (mem_classes _).1 hm
  rw [e, Int.toNat_natCast]
  exact orb_dvd hc hi

end Nam
end Go.Proofs.YtbkkdgmiokdbmaaGreat

/-! NAMES OF POINTS, of no program: lists of numbers that are names; RenameSet, RenameComplex. -/

namespace Go.Proofs.YtbkkdgmiokdbmaaGreat
open Sets Lin Hom
namespace Nam

/-- The k-th is a number of a point and new. -/
def nmAt (n : Int) (xs : List Int) (k : Nat) : Bool := inB 0 (n - 1) (xs.getD k 0) && !(xs.take k).contains (xs.getD k 0)
/-- Are the numbers names for n points? -/
def nmsB (n : Int) (xs : List Int) : Bool := (List.range xs.length).all (nmAt n xs) && ((xs.length : Int) == n && inB 1 6 n)
def toN (xs : List Int) : List Nat := xs.map Int.toNat
theorem pt_toN (xs : List Int) (i : Nat) (h : i < xs.length) : pt (toN xs) i = (xs.getD i 0).toNat := by
  rw [pt_get (by unfold toN; simpa using h)]
  unfold toN
  rw [List.getElem_map, List.getD, List.getElem?_eq_getElem h]; rfl
theorem nms_names {n : Int} {xs : List Int} (h : nmsB n xs = true) : 1 ≤ n ∧ n ≤ 6 ∧ (xs.length : Int) = n ∧ Names n.toNat (toN xs) ∧ ∀ i, i < xs.length → ∃ t : Nat, xs.getD i 0 = (t : Int) ∧ t < n.toNat ∧ pt (toN xs) i = t := by
  unfold nmsB at h
  rw [Bool.and_eq_true, Bool.and_eq_true, beq_iff_eq, inB_iff, List.all_eq_true] at h
  obtain ⟨h1, h2, h3, h4⟩ := h
  have hat : ∀ i, i < xs.length → (0 ≤ xs.getD i 0 ∧ xs.getD i 0 ≤ n - 1) ∧ ¬(xs.getD i 0 ∈ xs.take i) := fun i hi => by
    have := h1 i (List.mem_range.2 hi)
    unfold nmAt at this
    rw [Bool.and_eq_true, inB_iff, Bool.not_eq_true'] at this
    refine ⟨this.1, fun hm => ?_⟩
    rw [List.contains_iff_mem.2 hm] at this
    cases this.2
  have hnd : xs.Nodup := by
    unfold List.Nodup
    rw [List.pairwise_iff_getElem]
    intro i j hi hj hij e
    refine (hat j hj).2 ?_
    rw [List.getD, List.getElem?_eq_getElem hj]
    show xs[j] ∈ _
    rw [← e]
    exact List.mem_take_iff_getElem.2 ⟨i, by omega, rfl⟩
  refine ⟨h3, h4, h2, names_of (by unfold toN; rw [List.length_map]; omega) ?_ ?_, fun i hi => ?_⟩
  · refine nodup_map_of _ _ hnd fun a ha b hb e => ?_
    obtain ⟨i, hi, rfl⟩ := List.mem_iff_getElem.1 ha
    obtain ⟨j, hj, rfl⟩ := List.mem_iff_getElem.1 hb
    have h5 := (hat i hi).1
    have h6 := (hat j hj).1
    rw [List.getD, List.getElem?_eq_getElem hi] at h5
    rw [List.getD, List.getElem?_eq_getElem hj] at h6
    have h5 : 0 ≤ xs[i] ∧ _ := h5
    have h6 : 0 ≤ xs[j] ∧ _ := h6
    omega
  · intro j hj
    obtain ⟨x, hx, rfl⟩ := List.mem_map.1 hj
    obtain ⟨i, hi, rfl⟩ := List.mem_iff_getElem.1 hx
    have h5 := (hat i hi).1
    rw [List.getD, List.getElem?_eq_getElem hi] at h5
    have h5 : 0 ≤ xs[i] ∧ xs[i] ≤ n - 1 := h5
    omega
  · have h5 := (hat i hi).1
    exact ⟨(xs.getD i 0).toNat, by omega, by omega, pt_toN xs i hi⟩
theorem nms_no {n : Int} {xs : List Int} {k : Nat} (hk : k < xs.length) (h : nmAt n xs k = false) : nmsB n xs = false := by
  unfold nmsB
  rw [Bool.and_eq_false_iff]
  left
  rw [List.all_eq_false]
  exact ⟨k, List.mem_range.2 hk, by rw [h]; simp⟩
theorem nms_all {n : Int} {xs : List Int} (h : ∀ k, k < xs.length → nmAt n xs k = true) : nmsB n xs = ((xs.length : Int) == n && inB 1 6 n) := by
  unfold nmsB
  rw [show (List.range xs.length).all (nmAt n xs) = true from by
    rw [List.all_eq_true]; exact fun k hk => h k (List.mem_range.1 hk), Bool.true_and]

/-- RenameSet. -/
def renSO (s : Int) (xs : List Int) : Option Nat := if nmsB xs.length xs = true ∧ setB xs.length s = true then some (ren (toN xs) s.toNat) else none
/-- RenameComplex. -/
def renCO (n : Int) (fs xs : List Int) : Option (Int × List Int) := if isC n fs = true ∧ nmsB n xs = true then some (n, renL (toN xs) fs) else none

/-! ### a set's new names, one point after the other -/

theorem renU_lt {n : Nat} {ns : List Nat} (hn : n ≤ 6) (h : Names n ns) (s : Nat) : ∀ k, k ≤ n → renU ns s k < 64
  | 0, _ => by show 0 < 64; decide
  | k + 1, hk => by
    have i1 := renU_lt hn h s k (by omega)
    have hl := h.lt (i := k) (by omega)
    show (renU ns s k ||| _) < 64
    refine Nat.or_lt_two_pow (n := 6) i1 ?_
    split
    · exact Nat.pow_lt_pow_right (by decide) (by omega)
    · decide
theorem renU_hit {n : Nat} {ns : List Nat} (hn : n ≤ 6) (h : Names n ns) (s : Nat) {k : Nat} (hk : k < n) (hb : s.testBit k = true) : renU ns s (k + 1) = renU ns s k + 2 ^ pt ns k := by
  have i1 := renU_lt hn h s k (by omega)
  have hl := h.lt hk
  show (renU ns s k ||| _) = _
  rw [if_pos hb]
  have ha : apart (renU ns s k) (2 ^ pt ns k) = true := by
    rw [apart_iff]
    rintro j ⟨h1, h2⟩
    obtain ⟨i, hi, _, e⟩ := (renU_bit ns s j k).1 h1
    rw [Nat.testBit_two_pow, decide_eq_true_iff] at h2
    have := h.inj (show i < n by omega) hk (by rw [e, h2])
    omega
  exact (add_or ⟨_, i1⟩ ⟨2 ^ pt ns k, Nat.pow_lt_pow_right (n := 6) (by decide) (by omega)⟩ ha).symm
theorem renU_miss (ns : List Nat) (s : Nat) {k : Nat} (hb : s.testBit k = false) : renU ns s (k + 1) = renU ns s k := by
  show (renU ns s k ||| _) = _
  rw [if_neg (by rw [hb]; simp), Nat.or_zero]
theorem bit_div (s k : Nat) : s / 2 ^ k % 2 = if s.testBit k = true then 1 else 0 := by
  have : s.testBit k = decide (s / 2 ^ k % 2 = 1) := Nat.testBit_eq_decide_div_mod_eq
  rw [this]
  have h2 : s / 2 ^ k % 2 < 2 := Nat.mod_lt _ (by decide)
  by_cases e : s / 2 ^ k % 2 = 1
  · simp [e]
  · rw [if_neg (by simpa using e)]; omega

end Nam
end Go.Proofs.YtbkkdgmiokdbmaaGreat
