/-
  TEXTS of one claim, put together: Dual2, WSet3, Miss, MissLaw.
-/
import Derived.Test.YthjgpbcdcgagfaaJg4
import Derived.Test.YthjgpbcdcgagfaaJg24
import Derived.Test.YthjgpbcdcgagfaaJg1
import Derived.Test.YthjgpbcdcgagfaaJg3
import Derived.Test.YthjgpbcdcgagfaaJg11
/-! HOLES of a complex and of its dual (Alexander's duality), modulo 2, of no program. -/

namespace Go.Proofs.Ythjgpbcdcgagfaa
open Sets Lin
namespace Hom

/-! ### all sets of n points -/

def full (n s : Nat) : Bool := decide (s < 2 ^ n)
theorem full_iff (n s : Nat) : full n s = true ↔ s < 2 ^ n := by unfold full; exact decide_eq_true_iff
theorem full_low (n : Nat) : Low n (full n) := fun s _ h => (full_iff n s).1 h
theorem full_down (n : Nat) : Down (full n) := fun s t _ _ h k => by
  have := sub_le h
  have := (full_iff n t).1 k
  exact (full_iff n s).2 (by omega)
theorem full_add (n : Nat) (s : Nat) : addQ n (full n) (full n) s = full (n + 1) s := by
  have e := pow_two n
  by_cases h : s < 2 ^ n
  · rw [addQ_lo h, (full_iff n s).2 h, (full_iff _ s).2 (by omega)]
  · obtain ⟨t, rfl⟩ : ∃ t, s = 2 ^ n + t := ⟨s - 2 ^ n, by omega⟩
    rw [addQ_hi, Bool.eq_iff_iff, full_iff, full_iff]; omega
/-- All sets have no holes. -/
theorem full_hol {p : Nat} (hP : IsP p) {n : Nat} (hn : n ≤ 5) (k : Nat) : fN (full (n + 1)) k = rk p (full (n + 1)) k + rk p (full (n + 1)) (k + 1) := by
  have h := cone_hol hP hn (full_low n) (full_down n) k
  rw [hol_congr (fun s _ => full_add n s)] at h
  unfold hol at h
  omega

/-! ### borders -/

theorem coset {p : Nat} (hP : IsP p) {q : Nat → Bool} (dq : Down q) {k : Nat} {u0 : Nat → Int} (hu : Chn p q (k + 1) u0) :
    Card (fun u => Chn p q (k + 1) u ∧ ∀ t, t < 64 → (p : Int) ∣ bd u t - bd u0 t) (p ^ (fN q (k + 1) - rk p q (k + 1))) := by
  have hp : 0 < p := by have := hP.1; omega
  refine (card_cyc hP dq (k + 1)).1.bij (fun y s => (y s + u0 s) % p) (fun u s => (u s - u0 s) % p) ?_ ?_ ?_ ?_
  · intro y hy
    refine ⟨emod_vec hp fun s hs => by rw [hy.1.2 s hs, hu.2 s hs]; exact ⟨0, by simp⟩, fun t ht => ?_⟩
    obtain ⟨a, ha⟩ := bd_emod p (fun s => y s + u0 s) t
    obtain ⟨b, hb⟩ := hy.2 t ht
    rw [bd_add] at ha
    exact ⟨a + b, by grind⟩
  · rintro u ⟨hv, hd⟩
    refine ⟨emod_vec hp fun s hs => by rw [hv.2 s hs, hu.2 s hs]; exact ⟨0, by simp⟩, fun t ht => ?_⟩
    have e : (fun s => u s - u0 s) = fun s => u s + (-1) * u0 s := funext fun s => by grind
    obtain ⟨a, ha⟩ := bd_emod p (fun s => u s - u0 s) t
    rw [e, bd_add, bd_mul] at ha
    obtain ⟨b, hb⟩ := hd t ht
    exact ⟨a + b, by grind⟩
  · intro y hy
    funext s
    obtain ⟨a, ha⟩ := dvd_emod_sub (y s + u0 s) p
    have hm : (p : Int) ∣ ((y s + u0 s) % p - u0 s) - y s := ⟨a, by grind⟩
    exact (Int.emod_eq_emod_iff_emod_sub_eq_zero.2 (Int.emod_eq_zero_of_dvd hm)).trans (vec_mod hy.1 s)
  · rintro u ⟨hv, _⟩
    funext s
    obtain ⟨a, ha⟩ := dvd_emod_sub (u s - u0 s) p
    have hm : (p : Int) ∣ ((u s - u0 s) % p + u0 s) - u s := ⟨a, by grind⟩
    exact (Int.emod_eq_emod_iff_emod_sub_eq_zero.2 (Int.emod_eq_zero_of_dvd hm)).trans (vec_mod hv s)
/-- The border of a chain modulo p. -/
def bdp (p : Nat) (u : Nat → Int) : Nat → Int := fun t => bd u t % p
theorem bdp_eq {p : Nat} {u v : Nat → Int} : bdp p u = bdp p v ↔ ∀ t, t < 64 → (p : Int) ∣ bd u t - bd v t := by
  constructor
  · intro h t _
    have := congrFun h t
    unfold bdp at this
    exact Int.dvd_of_emod_eq_zero (Int.emod_eq_emod_iff_emod_sub_eq_zero.1 this)
  · intro h
    funext t
    unfold bdp
    by_cases ht : t < 64
    · exact Int.emod_eq_emod_iff_emod_sub_eq_zero.2 (Int.emod_eq_zero_of_dvd (h t ht))
    · rw [bd_out u (by omega), bd_out v (by omega)]
theorem bdp_chn {p : Nat} (hp : 0 < p) {q : Nat → Bool} (dq : Down q) {k : Nat} {u : Nat → Int} (hu : Chn p q (k + 1) u) : Chn p q k (bdp p u) := emod_vec hp fun t ht => by
  by_cases h : t < 64
  · rw [bd_off dq hu h fun e => ht ((mem_J q k t).2 ⟨h, by omega, e.1⟩)]; exact ⟨0, by simp⟩
  · rw [bd_out _ (by omega)]; exact ⟨0, by simp⟩
theorem bdp_cyc (p : Nat) (u : Nat → Int) (t : Nat) (ht : t < 64) : (p : Int) ∣ bd (bdp p u) t := by
  have := bd_emod p (bd u) t
  rw [bd_bd u ht, Int.sub_zero] at this
  exact this
/-- How many borders there are. -/
theorem card_bor {p : Nat} (hP : IsP p) {q : Nat → Bool} (dq : Down q) (k : Nat) : Card (fun z => ∃ u, Chn p q (k + 1) u ∧ z = bdp p u) (p ^ rk p q (k + 1)) := by
  have hp : 0 < p := by have := hP.1; omega
  obtain ⟨d, _, hd⟩ := (card_chn p q k).sub (T := fun z => ∃ u, Chn p q (k + 1) u ∧ z = bdp p u) fun z ⟨u, hu, e⟩ => by rw [e]; exact bdp_chn hp dq hu
  have hS := hd.fibre (S := Chn p q (k + 1)) (bdp p) (fun u hu => ⟨u, hu, rfl⟩) (d := p ^ (fN q (k + 1) - rk p q (k + 1))) fun z ⟨u0, hu0, e⟩ => by
    refine (coset hP dq hu0).congr fun u => and_congr_right fun _ => ?_
    rw [e, ← bdp_eq]
  have h1 := hS.unique (card_chn p q (k + 1))
  have hle := cyc_le hP dq (k + 1)
  have h2 : d * p ^ (fN q (k + 1) - rk p q (k + 1)) = p ^ rk p q (k + 1) * p ^ (fN q (k + 1) - rk p q (k + 1)) := by
    rw [h1, ← Nat.pow_add]
    congr 1
    unfold fN at hle ⊢; omega
  have := Nat.eq_of_mul_eq_mul_right (Nat.pow_pos hp) h2
  rw [← this]; exact hd
theorem full_bor {p : Nat} (hP : IsP p) {n : Nat} (hn : n ≤ 5) (k : Nat) (z : Nat → Int) (hz : Cyc p (full (n + 1)) k z) : ∃ u, Chn p (full (n + 1)) (k + 1) u ∧ z = bdp p u := by
  have hp : 0 < p := by have := hP.1; omega
  have h := full_hol hP hn k
  have hc := (card_cyc hP (full_down (n + 1)) k).1
  rw [show (J (full (n + 1)) k).length - rk p (full (n + 1)) k = rk p (full (n + 1)) (k + 1) by unfold fN at h; omega] at hc
  exact hc.eq_of_le (card_bor hP (full_down (n + 1)) k) (fun z ⟨u, hu, e⟩ => by rw [e]; exact ⟨bdp_chn hp (full_down _) hu, bdp_cyc p u⟩) z hz

/-! ### chains whose border lies in the complex -/

theorem card_rel {p : Nat} (hP : IsP p) {n : Nat} (hn : n ≤ 5) {q : Nat → Bool} (hq : Low (n + 1) q) (dq : Down q) (k : Nat) :
    Card (Rel p (full (n + 1)) q (k + 1)) (p ^ (fN q k - rk p q k) * p ^ (fN (full (n + 1)) (k + 1) - rk p (full (n + 1)) (k + 1))) := by
  have hp : 0 < p := by have := hP.1; omega
  have hJ : ∀ {t}, t ∈ J q k → t ∈ J (full (n + 1)) k := fun {t} h => by
    obtain ⟨h1, h2, h3⟩ := (mem_J q k t).1 h
    exact (mem_J _ k t).2 ⟨h1, h2, (full_iff _ t).2 (hq t h1 h3)⟩
  refine (card_cyc hP dq k).1.fibre (bdp p) (fun u hu => ⟨emod_vec hp fun t ht => ?_, bdp_cyc p u⟩) fun z hz => ?_
  · by_cases h : t < 64
    · by_cases e : q t = true
      · rw [bd_off (full_down _) hu.1 h fun e2 => ht ((mem_J q k t).2 ⟨h, by omega, e⟩)]; exact ⟨0, by simp⟩
      · exact hu.2 t h (by simpa using e)
    · rw [bd_out _ (by omega)]; exact ⟨0, by simp⟩
  · have hz' : Cyc p (full (n + 1)) k z := ⟨⟨fun t _ => by
      by_cases e : t ∈ J q k
      · exact hz.1.1 t e
      · rw [hz.1.2 t e]; omega, fun t ht => hz.1.2 t fun e => ht (hJ e)⟩, hz.2⟩
    obtain ⟨u0, hu0, e0⟩ := full_bor hP hn k z hz'
    refine (coset hP (full_down _) hu0).congr fun u => ?_
    rw [← bdp_eq, e0]
    constructor
    · rintro ⟨h1, h2⟩
      refine ⟨⟨h1, fun t ht hqt => ?_⟩, h2⟩
      have h3 := congrFun h2 t
      rw [← e0, hz.1.2 t fun e => by rw [((mem_J q k t).1 e).2.2] at hqt; cases hqt] at h3
      exact Int.dvd_of_emod_eq_zero h3
    · rintro ⟨h1, h2⟩
      exact ⟨h1.1, h2⟩

/-! ### sums over complements -/

theorem sm_perm {α : Type} {l m : List α} (h : l.Perm m) (f : α → Int) : sm l f = sm m f := by
  induction h with
  | nil => rfl
  | cons x _ ih => show f x + _ = f x + _; rw [ih]
  | swap x y l => show f y + (f x + _) = f x + (f y + _); grind
  | trans _ _ i1 i2 => rw [i1, i2]
theorem sm_rev (N : Nat) (f : Nat → Int) : sm (List.range N) f = sm (List.range N) fun u => f (N - 1 - u) := by
  rw [← sm_map (fun u => N - 1 - u) f]
  refine sm_perm ((List.perm_ext_iff_of_nodup List.nodup_range ?_).2 fun t => ?_) f
  · refine nodup_map_of _ _ List.nodup_range fun a ha b hb e => ?_
    have := List.mem_range.1 ha
    have := List.mem_range.1 hb
    omega
  · rw [List.mem_map, List.mem_range]
    constructor
    · intro h
      exact ⟨N - 1 - t, List.mem_range.2 (by omega), by omega⟩
    · rintro ⟨u, hu, rfl⟩
      have := List.mem_range.1 hu
      omega
theorem sum_J {p : Nat} {q : Nat → Bool} {k : Nat} {y : Nat → Int} (hy : Vec p (J q k) y) (c : Nat → Int) : sm (J q k) (fun s => c s * y s) = S fun s => c s * y s := by
  unfold S J
  rw [sm_filter]
  refine sm_congr _ _ _ fun s hs => ?_
  split
  · rfl
  · rw [hy.2 s (fun hm => by unfold J at hm; exact absurd (List.mem_filter.1 hm).2 (by assumption))]; simp

/-! ### the dual -/

def dualQ (n : Nat) (q : Nat → Bool) (s : Nat) : Bool := decide (s < 2 ^ n) && !q (2 ^ n - 1 - s)
theorem dualQ_iff (n : Nat) (q : Nat → Bool) (s : Nat) : dualQ n q s = true ↔ s < 2 ^ n ∧ q (2 ^ n - 1 - s) = false := by
  unfold dualQ; rw [Bool.and_eq_true, decide_eq_true_iff, Bool.not_eq_true']
theorem comp_pc : ∀ n : Fin 7, ∀ u : Fin 64, u.val < 2 ^ n.val → pc (2 ^ n.val - 1 - u.val) + pc u.val = n.val := by decide +kernel
theorem comp_sub : ∀ n : Fin 7, ∀ s t : Fin 64, s.val < 2 ^ n.val → t.val < 2 ^ n.val → sub s.val t.val = true → sub (2 ^ n.val - 1 - t.val) (2 ^ n.val - 1 - s.val) = true := by decide +kernel
theorem comp_sgn : ∀ n : Fin 7, ∀ t s : Fin 64, t.val < 2 ^ n.val → s.val < 2 ^ n.val → (sgn (2 ^ n.val - 1 - s.val) (2 ^ n.val - 1 - t.val) - sgn t.val s.val) % 2 = 0 := by decide +kernel
theorem dualQ_down {n : Nat} (hn : n ≤ 6) {q : Nat → Bool} (dq : Down q) : Down (dualQ n q) := fun s t hs ht h k => by
  obtain ⟨h1, h2⟩ := (dualQ_iff n q t).1 k
  have h64 := pow64 hn
  have := sub_le h
  refine (dualQ_iff n q s).2 ⟨by omega, ?_⟩
  rw [Bool.eq_false_iff]; intro e
  have := dq _ _ (show 2 ^ n - 1 - t < 64 by omega) (show 2 ^ n - 1 - s < 64 by omega) (comp_sub ⟨n, by omega⟩ ⟨s, hs⟩ ⟨t, ht⟩ (by show s < 2 ^ n; omega) h1 h) e
  rw [h2] at this; cases this
/-- The sets of n points that are no faces. -/
def outQ (n : Nat) (q : Nat → Bool) (s : Nat) : Bool := full n s && !q s
theorem outQ_iff (n : Nat) (q : Nat → Bool) (s : Nat) : outQ n q s = true ↔ s < 2 ^ n ∧ q s = false := by
  unfold outQ; rw [Bool.and_eq_true, full_iff, Bool.not_eq_true']
theorem mem_comp {n : Nat} (hn : n ≤ 6) (q : Nat → Bool) {k : Nat} (hk : k ≤ n) (u : Nat) (hu : u < 2 ^ n) : u ∈ J (dualQ n q) (n - k) ↔ 2 ^ n - 1 - u ∈ J (outQ n q) k := by
  have h64 := pow64 hn
  have hpc := comp_pc ⟨n, by omega⟩ ⟨u, by omega⟩ hu
  dsimp only at hpc
  rw [mem_J, mem_J, dualQ_iff, outQ_iff]
  constructor
  · rintro ⟨_, h2, _, h3⟩
    exact ⟨by omega, by omega, by omega, h3⟩
  · rintro ⟨_, h2, _, h3⟩
    exact ⟨by omega, by omega, hu, h3⟩
def flip (n : Nat) (y : Nat → Int) (u : Nat) : Int := if u < 2 ^ n then y (2 ^ n - 1 - u) else 0
theorem flip_lt {n : Nat} {y : Nat → Int} {u : Nat} (h : u < 2 ^ n) : flip n y u = y (2 ^ n - 1 - u) := if_pos h
theorem flip_ge {n : Nat} {y : Nat → Int} {u : Nat} (h : ¬u < 2 ^ n) : flip n y u = 0 := if_neg h
theorem flip_flip {n : Nat} {y : Nat → Int} (h : ∀ u, 2 ^ n ≤ u → y u = 0) : flip n (flip n y) = y := by
  funext u
  by_cases e : u < 2 ^ n
  · rw [flip_lt e, flip_lt (by omega), show 2 ^ n - 1 - (2 ^ n - 1 - u) = u by omega]
  · rw [flip_ge e, h u (by omega)]
theorem vec_out {p n : Nat} {q : Nat → Bool} {k : Nat} {y : Nat → Int} (h : Vec p (J (outQ n q) k) y) (u : Nat) (hu : 2 ^ n ≤ u) : y u = 0 := h.2 u fun e => by
  have := ((outQ_iff n q u).1 ((mem_J _ k u).1 e).2.2).1
  omega
theorem vec_dual {p n : Nat} {q : Nat → Bool} {k : Nat} {y : Nat → Int} (h : Vec p (J (dualQ n q) k) y) (u : Nat) (hu : 2 ^ n ≤ u) : y u = 0 := h.2 u fun e => by
  have := ((dualQ_iff n q u).1 ((mem_J _ k u).1 e).2.2).1
  omega
theorem flip_vec {p n : Nat} (hn : n ≤ 6) {q : Nat → Bool} {k : Nat} (hk : k ≤ n) {y : Nat → Int} (h : Vec p (J (outQ n q) k) y) : Vec p (J (dualQ n q) (n - k)) (flip n y) := by
  refine ⟨fun u hu => ?_, fun u hu => ?_⟩
  · have hlt := ((dualQ_iff n q u).1 ((mem_J _ _ u).1 hu).2.2).1
    rw [flip_lt hlt]
    exact h.1 _ ((mem_comp hn q hk u hlt).1 hu)
  · by_cases e : u < 2 ^ n
    · rw [flip_lt e]; exact h.2 _ fun hm => hu ((mem_comp hn q hk u e).2 hm)
    · exact flip_ge e
theorem flip_vec' {p n : Nat} (hn : n ≤ 6) {q : Nat → Bool} {k : Nat} (hk : k ≤ n) {y : Nat → Int} (h : Vec p (J (dualQ n q) (n - k)) y) : Vec p (J (outQ n q) k) (flip n y) := by
  refine ⟨fun u hu => ?_, fun u hu => ?_⟩
  · have hlt := ((outQ_iff n q u).1 ((mem_J _ _ u).1 hu).2.2).1
    rw [flip_lt hlt]
    refine h.1 _ ((mem_comp hn q hk _ (by omega)).2 ?_)
    rw [show 2 ^ n - 1 - (2 ^ n - 1 - u) = u by omega]; exact hu
  · by_cases e : u < 2 ^ n
    · rw [flip_lt e]
      refine h.2 _ fun hm => hu ?_
      have := (mem_comp hn q hk _ (by omega)).1 hm
      rwa [show 2 ^ n - 1 - (2 ^ n - 1 - u) = u by omega] at this
    · exact flip_ge e
/-- The dual has as many faces of n - k points as there are sets of k points that are no faces. -/
theorem out_count {n : Nat} (hn : n ≤ 6) (q : Nat → Bool) {k : Nat} (hk : k ≤ n) : (J (outQ n q) k).length = fN (dualQ n q) (n - k) := by
  have h := (card_vec 2 _ (J_nodup (outQ n q) k)).bij (T := Vec 2 (J (dualQ n q) (n - k))) (flip n) (flip n) (fun y hy => flip_vec hn hk hy) (fun y hy => flip_vec' hn hk hy) (fun y hy => flip_flip (vec_out hy)) fun y hy => flip_flip (vec_dual hy)
  exact pow_inj (by decide) (h.unique (card_vec 2 _ (J_nodup _ _)))
theorem full_count {n : Nat} {q : Nat → Bool} (hq : Low n q) (k : Nat) : (J (outQ n q) k).length + fN q k = fN (full n) k := by
  unfold fN J
  have : ∀ l : List Nat, (∀ s ∈ l, s < 64) → (l.filter fun s => pc s == k && outQ n q s).length + (l.filter fun s => pc s == k && q s).length = (l.filter fun s => pc s == k && full n s).length := by
    intro l
    induction l with
    | nil => intro _; rfl
    | cons s l ih =>
      intro hl
      have ih := ih fun t ht => hl t (List.mem_cons_of_mem _ ht)
      have hs := hl s (List.mem_cons_self ..)
      simp only [List.filter_cons]
      have e : outQ n q s = (full n s && !q s) := rfl
      rw [e]
      cases hqs : q s with
      | true =>
        rw [(full_iff n s).2 (hq s hs hqs)]
        cases pc s == k <;> simp <;> omega
      | false =>
        cases full n s <;> cases pc s == k <;> simp <;> omega
  exact this _ fun s hs => List.mem_range.1 hs
/-- The rows of the border matrix that are no faces, and its transpose: cycles of the dual. -/
theorem ker_rel {p n : Nat} {q : Nat → Bool} (k : Nat) (x : Nat → Int) : KerE p (J (outQ n q) k) (J (full n) (k + 1)) sgn x ↔ Rel p (full n) q (k + 1) x := by
  unfold KerE Rel
  refine and_congr_right fun hx => ⟨fun h t ht hqt => ?_, fun h t ht => ?_⟩
  · by_cases e : full n t = true ∧ pc t + 1 = k + 1
    · rw [bd_faces hx]
      exact h t ((mem_J _ k t).2 ⟨ht, by omega, (outQ_iff n q t).2 ⟨(full_iff n t).1 e.1, hqt⟩⟩)
    · rw [bd_off (full_down n) hx ht e]; exact ⟨0, by simp⟩
  · obtain ⟨h1, h2, h3⟩ := (mem_J _ k t).1 ht
    have := h t h1 ((outQ_iff n q t).1 h3).2
    rwa [bd_faces hx] at this
theorem ker_dual {n : Nat} (hn : n ≤ 6) {q : Nat → Bool} (dq : Down q) {k : Nat} (hk : k ≤ n) {b : Nat} (h : Card (Cyc 2 (dualQ n q) (n - k)) b) : Card (KerE 2 (J (full n) (k + 1)) (J (outQ n q) k) fun s t => sgn t s) b := by
  have h64 := pow64 hn
  have hdd := dualQ_down hn dq
  have key : ∀ y, Vec 2 (J (outQ n q) k) y → ∀ s, s < 2 ^ n → (2 : Int) ∣ bd (flip n y) (2 ^ n - 1 - s) - sm (J (outQ n q) k) fun t => sgn t s * y t := fun y hy s hs => by
    rw [sum_J hy]
    have e1 : bd (flip n y) (2 ^ n - 1 - s) = sm (List.range (2 ^ n)) fun t => sgn (2 ^ n - 1 - s) (2 ^ n - 1 - t) * y t := by
      unfold bd
      rw [S_low h64 fun u hu _ => by rw [flip_ge (by omega)]; simp, sm_rev]
      refine sm_congr _ _ _ fun t ht => ?_
      have ht := List.mem_range.1 ht
      rw [flip_lt (by omega), show 2 ^ n - 1 - (2 ^ n - 1 - t) = t by omega]
    rw [e1, S_low h64 fun u hu _ => by rw [vec_out hy u hu]; simp]
    refine sm_dvd 2 _ _ _ fun t ht => ?_
    have ht := List.mem_range.1 ht
    obtain ⟨m, hm⟩ := Int.dvd_of_emod_eq_zero (comp_sgn ⟨n, by omega⟩ ⟨t, by omega⟩ ⟨s, by omega⟩ ht hs)
    dsimp only at hm
    exact ⟨m * y t, by grind⟩
  refine h.bij (flip n) (flip n) ?_ ?_ (fun y hy => flip_flip (vec_dual hy.1)) fun y hy => flip_flip (vec_out hy.1)
  · intro y hy
    have hv := flip_vec' hn hk hy.1
    refine ⟨hv, fun s hs => ?_⟩
    have hs' := (full_iff n s).1 ((mem_J _ _ s).1 hs).2.2
    have hk1 := key _ hv s hs'
    rw [flip_flip (vec_dual hy.1)] at hk1
    obtain ⟨a, ha⟩ := hk1
    obtain ⟨c, hc⟩ := hy.2 (2 ^ n - 1 - s) (by omega)
    exact ⟨c - a, by grind⟩
  · intro y hy
    have hv := flip_vec hn hk hy.1
    refine ⟨hv, fun w hw => ?_⟩
    by_cases e : dualQ n q w = true ∧ pc w + 1 = n - k
    · have hw2 := ((dualQ_iff n q w).1 e.1).1
      have hpc := comp_pc ⟨n, by omega⟩ ⟨w, hw⟩ hw2
      dsimp only at hpc
      have hs : 2 ^ n - 1 - w ∈ J (full n) (k + 1) := (mem_J _ _ _).2 ⟨by omega, by omega, (full_iff n _).2 (by omega)⟩
      have hk1 := key y hy.1 (2 ^ n - 1 - w) (by omega)
      rw [show 2 ^ n - 1 - (2 ^ n - 1 - w) = w by omega] at hk1
      obtain ⟨a, ha⟩ := hk1
      obtain ⟨c, hc⟩ := hy.2 _ hs
      exact ⟨a + c, by grind⟩
    · rw [bd_off hdd hv hw e]; exact ⟨0, by simp⟩

/-! ### the duality -/

theorem dual_rk {n : Nat} (hn : n ≤ 5) {q : Nat → Bool} (hq : Low (n + 1) q) (dq : Down q) {k : Nat} (hk : k ≤ n + 1) : fN q k + rk 2 (dualQ (n + 1) q) (n + 1 - k) = rk 2 q k + rk 2 (full (n + 1)) (k + 1) := by
  have hdd := dualQ_down (n := n + 1) (by omega) dq
  have h1 := (card_rel isP2 hn hq dq k).congr fun x => (ker_rel k x).symm
  have h2 := ker_dual (n := n + 1) (by omega) dq hk (card_cyc isP2 hdd (n + 1 - k)).1
  have h3 := transpose_card isP2 (J_nodup _ _) (J_nodup _ _) sgn h1 h2
  rw [← Nat.pow_add, ← Nat.pow_add, ← Nat.pow_add] at h3
  have h4 := pow_inj (by decide) h3
  have h5 := out_count (n := n + 1) (by omega) q hk
  have h6 := cyc_le isP2 dq k
  have h7 := cyc_le isP2 hdd (n + 1 - k)
  have h8 := cyc_le isP2 (full_down (n + 1)) (k + 1)
  unfold fN at h4 h5 h6 h7 h8 ⊢
  omega
/-- HOLES of both belong together. -/
theorem dual_hol {n : Nat} (hn : n ≤ 5) {q : Nat → Bool} (hq : Low (n + 1) q) (dq : Down q) {k : Nat} (hk : k ≤ n) : hol 2 q k = hol 2 (dualQ (n + 1) q) (n - k) := by
  have h1 := dual_rk hn hq dq (k := k) (by omega)
  have h2 := dual_rk hn hq dq (k := k + 1) (by omega)
  have h3 := full_hol isP2 hn (k + 1)
  have h4 := out_count (n := n + 1) (by omega) q (k := k + 1) (by omega)
  have h5 := full_count hq (k + 1)
  rw [show n + 1 - k = n - k + 1 by omega] at h1
  rw [show n + 1 - (k + 1) = n - k by omega] at h2 h4
  unfold hol
  omega

end Hom
end Go.Proofs.Ythjgpbcdcgagfaa

/-! WALKS: the points of a set; its subsets; lists in order. -/

namespace Go.Proofs.Ythjgpbcdcgagfaa
open Go.RowKit
open Sets

/-- Is point i in s? -/
def ptB (s i : Nat) : Bool := s / 2 ^ i % 2 == 1

theorem shr_and (s i : Nat) (hs : s < 64) : bits BinOp.and IntKind.i64 ((s : Int) / 2 ^ i) 1 = ((s / 2 ^ i % 2 : Nat) : Int) := by
  have h : s / 2 ^ i < 64 := Nat.lt_of_le_of_lt (Nat.div_le_self _ _) hs
  have := and_one (s / 2 ^ i) h
  rw [← this]
  congr 1
theorem ptB_int (s i : Nat) (hs : s < 64) : (bits BinOp.and IntKind.i64 ((s : Int) / 2 ^ i) 1 == 1) = ptB s i := by
  rw [shr_and s i hs]
  unfold ptB
  rw [Bool.eq_iff_iff, beq_iff_eq, beq_iff_eq]
  omega

theorem pts_hit (s i : Nat) (h : ptB s i = true) : pts s (i + 1) = pts s i ++ [(i : Int)] := by
  rw [pts_next, if_pos (by unfold ptB at h; simpa using h)]
theorem pts_miss (s i : Nat) (h : ptB s i = false) : pts s (i + 1) = pts s i := by
  rw [pts_next, if_neg (by unfold ptB at h; simpa using h), List.append_nil]

theorem points_nat (s : Nat) (h : s < 64) : points (s : Int) = pts s 6 := by unfold points; rw [if_pos ((okZ_nat s).2 h)]; rfl
theorem points_no (x : Int) (h : okZ x = false) : points x = [] := by unfold points; rw [if_neg (by rw [h]; simp)]

end Go.Proofs.Ythjgpbcdcgagfaa

/-! SETS THAT ARE NO FACES, of no program: the least sets of a family; a complex is told by its least no-faces. -/

namespace Go.Proofs.Ythjgpbcdcgagfaa
open Sets

/-! ### the least sets of a family -/

/-- The least sets of a family, in order. -/
def minQ (q : Nat → Bool) : List Int := ord fun s => q s && (List.range 64).all fun t => !(q t && sub t s && t != s)
theorem mem_minQ (q : Nat → Bool) (x : Int) : x ∈ minQ q ↔ ∃ s : Nat, x = (s : Int) ∧ s < 64 ∧ q s = true ∧ ∀ t, t < 64 → q t = true → sub t s = true → t = s := by
  unfold minQ
  rw [mem_ord]
  constructor
  · rintro ⟨s, rfl, hs, h⟩
    rw [Bool.and_eq_true, List.all_eq_true] at h
    refine ⟨s, rfl, hs, h.1, fun t ht h1 h2 => ?_⟩
    have := h.2 t (List.mem_range.2 ht)
    rw [h1, h2] at this
    simpa using this
  · rintro ⟨s, rfl, hs, h1, h2⟩
    refine ⟨s, rfl, hs, ?_⟩
    rw [Bool.and_eq_true, List.all_eq_true]
    refine ⟨h1, fun t ht => ?_⟩
    rw [Bool.not_eq_true', Bool.and_eq_false_iff]
    cases e1 : q t with
    | false => left; rfl
    | true =>
      cases e2 : sub t s with
      | false => left; rfl
      | true => right; rw [h2 t (List.mem_range.1 ht) e1 e2]; simp
theorem minQ_congr {p q : Nat → Bool} (h : ∀ s, s < 64 → p s = q s) : minQ p = minQ q := by
  refine rises_eq _ _ (ord_rises _) (ord_rises _) fun x => ?_
  rw [mem_minQ, mem_minQ]
  constructor
  · rintro ⟨s, e, hs, h1, h2⟩
    exact ⟨s, e, hs, by rw [← h s hs]; exact h1, fun t ht k1 k2 => h2 t ht (by rw [h t ht]; exact k1) k2⟩
  · rintro ⟨s, e, hs, h1, h2⟩
    exact ⟨s, e, hs, by rw [h s hs]; exact h1, fun t ht k1 k2 => h2 t ht (by rw [← h t ht]; exact k1) k2⟩
theorem minQ_le (q : Nat → Bool) : (minQ q).length ≤ 64 := ord_le _
theorem minQ_ok (q : Nat → Bool) : allOk (minQ q) = true := ord_ok _
theorem minQ_rises (q : Nat → Bool) : Rises (minQ q) := ord_rises _
/-- Each set of a family holds a least one. -/
theorem minQ_below (q : Nat → Bool) : ∀ (m t : Nat), t < 64 → t ≤ m → q t = true → ∃ u : Nat, u < 64 ∧ (u : Int) ∈ minQ q ∧ sub u t = true
  | m, t, ht, hm, hq => by
    by_cases h : ∀ v, v < 64 → q v = true → sub v t = true → v = t
    · exact ⟨t, ht, (mem_minQ q _).2 ⟨t, rfl, ht, hq, h⟩, sub_refl t⟩
    · have : ∃ v, v < 64 ∧ q v = true ∧ sub v t = true ∧ v ≠ t := by
        refine Classical.byContradiction fun k => h fun v h1 h2 h3 => Classical.byContradiction fun h4 => k ⟨v, h1, h2, h3, h4⟩
      obtain ⟨v, h1, h2, h3, h4⟩ := this
      have := sub_le h3
      cases m with
      | zero => omega
      | succ m =>
        obtain ⟨u, k1, k2, k3⟩ := minQ_below q m v h1 (by omega) h2
        exact ⟨u, k1, k2, sub_trans k3 h3⟩
/-- What MinimalSets keeps. -/
theorem mem_minimal (A : List Int) (h : allOk A = true) (x : Int) : x ∈ minimal A ↔ ∃ s : Nat, x = (s : Int) ∧ s < 64 ∧ (s : Int) ∈ A ∧ ∀ t : Nat, (t : Int) ∈ A → sub t s = true → t = s := by
  unfold minimal best
  rw [List.mem_filter, order_iff A h]
  constructor
  · rintro ⟨hx, hu⟩
    obtain ⟨s, rfl, hs⟩ := ok_nat h hx
    refine ⟨s, rfl, hs, hx, fun t ht k => ?_⟩
    unfold unbeaten at hu
    have := List.all_eq_true.1 hu (t : Int) ((order_iff A h _).2 ht)
    rw [Bool.not_eq_true', Bool.and_eq_false_iff] at this
    rcases this with e | e
    · have : (t : Int) = (s : Int) := by simpa using e
      omega
    · have e : sub t s = false := e
      rw [k] at e; cases e
  · rintro ⟨s, rfl, hs, hx, hu⟩
    refine ⟨hx, ?_⟩
    unfold unbeaten
    rw [List.all_eq_true]
    intro y hy
    have hy := (order_iff A h y).1 hy
    obtain ⟨v, rfl, hv⟩ := ok_nat h hy
    rw [Bool.not_eq_true', Bool.and_eq_false_iff]
    by_cases hne : v = s
    · left; subst hne; simp
    · right
      rw [Bool.eq_false_iff]
      intro k
      exact hne (hu v hy k)
theorem minimal_rises (A : List Int) : Rises (minimal A) := by
  unfold minimal best
  exact List.Pairwise.filter _ (order_rises A)
/-- The least sets of a list that holds a family. -/
theorem minimal_of (A : List Int) (q : Nat → Bool) (h : ∀ x, x ∈ A ↔ ∃ s : Nat, x = (s : Int) ∧ s < 64 ∧ q s = true) : minimal A = minQ q := by
  have hok : allOk A = true := by
    unfold allOk; rw [List.all_eq_true]; intro x hx
    obtain ⟨s, rfl, hs, _⟩ := (h x).1 hx
    exact (okZ_nat s).2 hs
  refine rises_eq _ _ (minimal_rises A) (minQ_rises q) fun x => ?_
  rw [mem_minimal A hok, mem_minQ]
  constructor
  · rintro ⟨s, rfl, hs, hx, hu⟩
    obtain ⟨s', e, _, hq⟩ := (h _).1 hx
    have : s = s' := by omega
    subst this
    exact ⟨s, rfl, hs, hq, fun t ht k1 k2 => hu t ((h _).2 ⟨t, rfl, ht, k1⟩) k2⟩
  · rintro ⟨s, rfl, hs, hq, hu⟩
    refine ⟨s, rfl, hs, (h _).2 ⟨s, rfl, hs, hq⟩, fun t ht k => ?_⟩
    obtain ⟨t', e, ht', hq'⟩ := (h _).1 ht
    have : t = t' := by omega
    subst this
    exact hu t ht' hq' k
theorem minimal_firsts (q : Nat → Bool) : best (fun s o => sub o s) (order (firsts q 64)) = minQ q := minimal_of _ q fun x => mem_firsts q 64 x

/-! ### what lies above a list -/

/-- Does the set hold one of the list? -/
def abv (xs : List Int) (s : Nat) : Bool := xs.any fun f => sub f.toNat s
theorem abv_iff (xs : List Int) (s : Nat) : abv xs s = true ↔ ∃ f, f ∈ xs ∧ sub f.toNat s = true := by unfold abv; rw [List.any_eq_true]
theorem abv_up {xs : List Int} {s t : Nat} (h : sub s t = true) (k : abv xs s = true) : abv xs t = true := by
  rw [abv_iff] at *
  obtain ⟨f, hf, e⟩ := k
  exact ⟨f, hf, sub_trans e h⟩

/-! ### a point less -/

/-- Does the set lose a point into the family? -/
def loses (f : Nat → Bool) (s : Nat) : Bool := (List.range 6).any fun p => ptB s p && f (s - 2 ^ p)
theorem less_sub : ∀ s : Fin 64, ∀ p : Fin 6, ptB s.val p.val = true → sub (s.val - 2 ^ p.val) s.val = true ∧ s.val - 2 ^ p.val < s.val := by decide +kernel
theorem less_has : ∀ t s : Fin 64, sub t.val s.val = true → t.val ≠ s.val → ((List.range 6).any fun p => ptB s.val p && sub t.val (s.val - 2 ^ p)) = true := by decide +kernel
theorem loses_iff (f : Nat → Bool) (s : Nat) : loses f s = true ↔ ∃ p, p < 6 ∧ ptB s p = true ∧ f (s - 2 ^ p) = true := by
  unfold loses; rw [List.any_eq_true]
  constructor
  · rintro ⟨p, hp, h⟩
    rw [Bool.and_eq_true] at h
    exact ⟨p, List.mem_range.1 hp, h.1, h.2⟩
  · rintro ⟨p, hp, h1, h2⟩
    exact ⟨p, List.mem_range.2 hp, by rw [h1, h2]; rfl⟩
theorem loses_hit {f : Nat → Bool} {s p : Nat} (hp : p < 6) (h1 : ptB s p = true) (h2 : f (s - 2 ^ p) = true) : loses f s = true := (loses_iff f s).2 ⟨p, hp, h1, h2⟩
theorem loses_miss {f : Nat → Bool} {s : Nat} (h : ∀ p, p < 6 → ptB s p = true → f (s - 2 ^ p) = false) : loses f s = false := by
  rw [Bool.eq_false_iff]; intro k
  obtain ⟨p, hp, h1, h2⟩ := (loses_iff f s).1 k
  rw [h p hp h1] at h2; cases h2
theorem loses_congr {f g : Nat → Bool} {s : Nat} (h : ∀ t, t < s → f t = g t) (hs : s < 64) : loses f s = loses g s := by
  rw [Bool.eq_iff_iff, loses_iff, loses_iff]
  constructor
  · rintro ⟨p, hp, h1, h2⟩
    have := (less_sub ⟨s, hs⟩ ⟨p, hp⟩ h1).2
    exact ⟨p, hp, h1, by rw [← h _ this]; exact h2⟩
  · rintro ⟨p, hp, h1, h2⟩
    have := (less_sub ⟨s, hs⟩ ⟨p, hp⟩ h1).2
    exact ⟨p, hp, h1, by rw [h _ this]; exact h2⟩
/-- What lies above a list is in it, or a point less lies above it. -/
theorem abv_step (xs : List Int) (h : allOk xs = true) (s : Nat) (hs : s < 64) : abv xs s = (inZ xs s || loses (abv xs) s) := by
  rw [Bool.eq_iff_iff, Bool.or_eq_true, abv_iff, loses_iff, inZ_iff]
  constructor
  · rintro ⟨f, hf, e⟩
    obtain ⟨t, rfl, ht⟩ := ok_nat h hf
    have e : sub t s = true := e
    by_cases hne : t = s
    · left; rw [← hne]; exact hf
    · right
      have := less_has ⟨t, ht⟩ ⟨s, hs⟩ e hne
      rw [List.any_eq_true] at this
      obtain ⟨p, hp, k⟩ := this
      rw [Bool.and_eq_true] at k
      exact ⟨p, List.mem_range.1 hp, k.1, (abv_iff _ _).2 ⟨_, hf, k.2⟩⟩
  · rintro (e | ⟨p, hp, h1, h2⟩)
    · exact ⟨_, e, sub_refl s⟩
    · have := (less_sub ⟨s, hs⟩ ⟨p, hp⟩ h1).1
      exact (abv_iff _ _).1 (abv_up this h2)

/-! ### the map that FromMissing fills: what it holds when the first k sets are settled -/

def settle (xs : List Int) (k s : Nat) : Bool := if s < k then abv xs s else inZ xs s
theorem settle_start (xs : List Int) : settle xs 0 = inZ xs := by funext s; unfold settle; rw [if_neg (by omega)]
theorem settle_loses (xs : List Int) (k : Nat) (hk : k < 64) : loses (settle xs k) k = loses (abv xs) k :=
  loses_congr (fun t ht => by unfold settle; rw [if_pos ht]) hk
theorem settle_hit (xs : List Int) (h : allOk xs = true) (k : Nat) (hk : k < 64) (e : loses (settle xs k) k = true) (s : Nat) : settle xs (k + 1) s = if s = k then true else settle xs k s := by
  rw [settle_loses xs k hk] at e
  unfold settle
  by_cases h1 : s = k
  · subst h1
    rw [if_pos rfl, if_pos (by omega), abv_step xs h s hk, e, Bool.or_true]
  · rw [if_neg h1]
    by_cases h2 : s < k
    · rw [if_pos h2, if_pos (by omega)]
    · rw [if_neg h2, if_neg (by omega)]
theorem settle_miss (xs : List Int) (h : allOk xs = true) (k : Nat) (hk : k < 64) (e : loses (settle xs k) k = false) (s : Nat) : settle xs (k + 1) s = settle xs k s := by
  rw [settle_loses xs k hk] at e
  unfold settle
  by_cases h1 : s = k
  · subst h1
    rw [if_pos (by omega), if_neg (by omega), abv_step xs h s hk, e, Bool.or_false]
  · by_cases h2 : s < k
    · rw [if_pos h2, if_pos (by omega)]
    · rw [if_neg h2, if_neg (by omega)]

/-! ### the chapter's answers -/

/-- The sets of the complex's points that are no faces. -/
def missQ (n : Int) (xs : List Int) (s : Nat) : Bool := setB n (s : Int) && !inF xs s
/-- MissingSets. -/
def missing (n : Int) (xs : List Int) : List Int := if isC n xs = true then minQ (missQ n xs) else []
theorem missing_le (n : Int) (xs : List Int) : (missing n xs).length ≤ 64 := by
  unfold missing; split
  · exact minQ_le _
  · simp
theorem missing_ok (n : Int) (xs : List Int) : allOk (missing n xs) = true := by
  unfold missing; split
  · exact minQ_ok _
  · rfl
theorem missing_rises (n : Int) (xs : List Int) : Rises (missing n xs) := by
  unfold missing; split
  · exact minQ_rises _
  · exact List.Pairwise.nil
theorem missing_yes {n : Int} {xs : List Int} (h : isC n xs = true) : missing n xs = minQ (missQ n xs) := by unfold missing; rw [if_pos h]
theorem missing_no {n : Int} {xs : List Int} (h : isC n xs = false) : missing n xs = [] := by unfold missing; rw [if_neg (by rw [h]; simp)]
theorem missing_set {n : Int} {xs : List Int} (x : Int) (hx : x ∈ missing n xs) : setB n x = true := by
  unfold missing at hx; split at hx
  · obtain ⟨s, rfl, _, h, _⟩ := (mem_minQ _ x).1 hx
    unfold missQ at h; rw [Bool.and_eq_true] at h; exact h.1
  · simp at hx
/-- Sets of n points that hold none of the list. -/
def avoidQ (n : Int) (xs : List Int) (s : Nat) : Bool := setB n (s : Int) && !abv xs s
theorem avoidQ_down (n : Int) (xs : List Int) : Down (avoidQ n xs) := fun s t _ _ h k => by
  unfold avoidQ at *
  rw [Bool.and_eq_true, Bool.not_eq_true'] at *
  refine ⟨setB_sub k.1 h, ?_⟩
  rw [Bool.eq_false_iff]; intro e
  rw [abv_up h e] at k; cases k.2
theorem avoidQ_set {n : Int} {xs : List Int} (s : Nat) (_ : s < 64) (h : avoidQ n xs s = true) : setB n (s : Int) = true := by
  unfold avoidQ at h; rw [Bool.and_eq_true] at h; exact h.1
/-- FromMissing. -/
def fromO (n : Int) (xs : List Int) := partO (setsOf n xs) n (avoidQ n xs)
/-- Those of at most two points. -/
def small (xs : List Int) : List Int := xs.filter fun x => decide (pc x.toNat ≤ 2)
/-- FlagOf. -/
def flagO (n : Int) (xs : List Int) := partO (isC n xs) n (avoidQ n (small (missing n xs)))
/-- GreatestMissing. -/
def great (n : Int) (xs : List Int) : Int := if (missing n xs).length = 0 then -1 else (pc ((missing n xs).getD ((missing n xs).length - 1) 0).toNat : Int)
/-- CompleteUpTo. -/
def fullTo (n : Int) (xs : List Int) : Int := if isC n xs = true then (if (missing n xs).length = 0 then n else (pc ((missing n xs).getD 0 0).toNat : Int) - 1) else -1
/-- IsFlag. -/
def flagB (n : Int) (xs : List Int) : Bool := isC n xs && decide (great n xs ≤ 2)

/-- The complex of a list that holds a family. -/
theorem maximal_of (A : List Int) (q : Nat → Bool) (hd : Down q) (h : ∀ x, x ∈ A ↔ ∃ s : Nat, x = (s : Int) ∧ s < 64 ∧ q s = true) : maximal A = maxQ q := by
  have hok : allOk A = true := by
    unfold allOk; rw [List.all_eq_true]; intro x hx
    obtain ⟨s, rfl, hs, _⟩ := (h x).1 hx
    exact (okZ_nat s).2 hs
  rw [maximal_maxQ A hok]
  refine maxQ_congr fun t ht => ?_
  rw [Bool.eq_iff_iff, inF_iff]
  constructor
  · rintro ⟨f, hf, e⟩
    obtain ⟨u, rfl, hu, hq⟩ := (h f).1 hf
    exact hd t u ht hu e hq
  · intro k
    exact ⟨(t : Int), (h _).2 ⟨t, rfl, ht, k⟩, sub_refl t⟩
theorem pow_le64 (n : Int) (h1 : 1 ≤ n) (h2 : n ≤ 6) : 2 ^ n.toNat ≤ 64 := by
  have : 2 ^ n.toNat ≤ 2 ^ 6 := Nat.pow_le_pow_right (by decide) (by omega)
  omega
theorem setB_lt (n : Int) (s : Nat) (h1 : 0 ≤ n) (h2 : n ≤ 6) : setB n (s : Int) = decide (s < 2 ^ n.toNat) := by
  rw [Bool.eq_iff_iff, setB_iff, decide_eq_true_iff]
  have e : ((2 ^ n.toNat : Nat) : Int) = 2 ^ n.toNat := by simp
  constructor
  · rintro ⟨_, _, _, h⟩
    omega
  · intro h
    exact ⟨h1, h2, by omega, by omega⟩
/-- The model's way to make a complex out of what may not be in it. -/
theorem maximal_avoid (n : Int) (xs : List Int) (h1 : 1 ≤ n) (h2 : n ≤ 6) : maximal (firsts (fun s => !abv xs s) (2 ^ n.toNat)) = maxQ (avoidQ n xs) := by
  refine maximal_of _ _ (avoidQ_down n xs) fun x => ?_
  rw [mem_firsts]
  have h64 := pow_le64 n h1 h2
  constructor
  · rintro ⟨t, rfl, ht, e⟩
    exact ⟨t, rfl, by omega, by unfold avoidQ; rw [e, setB_lt n t (by omega) h2]; simp [ht]⟩
  · rintro ⟨t, rfl, ht, e⟩
    unfold avoidQ at e
    rw [Bool.and_eq_true, setB_lt n t (by omega) h2, decide_eq_true_iff] at e
    exact ⟨t, rfl, e.1, e.2⟩
theorem firsts_ok_le (p : Nat → Bool) (k : Nat) (hk : k ≤ 64) : allOk (firsts p k) = true := by
  unfold allOk
  rw [List.all_eq_true]
  intro x hx
  obtain ⟨t, rfl, ht, _⟩ := (mem_firsts p k x).1 hx
  exact (okZ_nat t).2 (by omega)
/-- The program's way to find the least: a point less is always a face. -/
theorem minQ_loses {n : Int} {xs : List Int} (_ : isC n xs = true) : ord (fun s => missQ n xs s && !loses (missQ n xs) s) = minQ (missQ n xs) := by
  refine rises_eq _ _ (ord_rises _) (ord_rises _) fun x => ?_
  rw [mem_ord, mem_minQ]
  constructor
  · rintro ⟨s, rfl, hs, h⟩
    rw [Bool.and_eq_true, Bool.not_eq_true'] at h
    refine ⟨s, rfl, hs, h.1, fun t ht k1 k2 => Classical.byContradiction fun hne => ?_⟩
    have := less_has ⟨t, ht⟩ ⟨s, hs⟩ k2 hne
    rw [List.any_eq_true] at this
    obtain ⟨p, hp, k⟩ := this
    rw [Bool.and_eq_true] at k
    have hp := List.mem_range.1 hp
    have hl := less_sub ⟨s, hs⟩ ⟨p, hp⟩ k.1
    have k3 : sub t (s - 2 ^ p) = true := k.2
    have hm : missQ n xs (s - 2 ^ p) = true := by
      unfold missQ at *
      rw [Bool.and_eq_true, Bool.not_eq_true'] at *
      refine ⟨setB_sub h.1.1 hl.1, ?_⟩
      rw [Bool.eq_false_iff]; intro e
      rw [inF_sub k3 e] at k1; cases k1.2
    rw [loses_hit hp k.1 hm] at h
    cases h.2
  · rintro ⟨s, rfl, hs, h1, h2⟩
    refine ⟨s, rfl, hs, ?_⟩
    rw [h1, loses_miss]
    · rfl
    · intro p hp hb
      have hl := less_sub ⟨s, hs⟩ ⟨p, hp⟩ hb
      have hl2 : s - 2 ^ p < s := hl.2
      rw [Bool.eq_false_iff]; intro e
      have := h2 (s - 2 ^ p) (by omega) e hl.1
      omega

end Go.Proofs.Ythjgpbcdcgagfaa

/-! SETS THAT ARE NO FACES, of no program: what the chapter's promise says of them. -/

namespace Go.Proofs.Ythjgpbcdcgagfaa
open Sets

theorem avoid_isC {n : Int} {xs : List Int} (h : inB 1 6 n = true) : isC n (maxQ (avoidQ n xs)) = true := by
  have hn := (inB_iff _ _ _).1 h
  exact maxQ_isC n _ hn.1 hn.2 (avoidQ_down n xs) fun s hs => avoidQ_set s hs
theorem setsOf_n {n : Int} {xs : List Int} (h : setsOf n xs = true) : inB 1 6 n = true := ((setsOf_iff n xs).1 h).1
theorem setsOf_set {n : Int} {xs : List Int} (h : setsOf n xs = true) (x : Int) (hx : x ∈ xs) : setB n x = true := ((setsOf_iff n xs).1 h).2.2 x hx
/-- Of a complex made out of missing sets, the least of them are missing. -/
theorem miss_from {n : Int} {xs : List Int} (h : setsOf n xs = true) : missing n (maxQ (avoidQ n xs)) = minimal xs := by
  have hok := setsOf_ok h
  rw [missing_yes (avoid_isC (setsOf_n h))]
  have e : ∀ s, s < 64 → missQ n (maxQ (avoidQ n xs)) s = (setB n (s : Int) && abv xs s) := fun s hs => by
    unfold missQ
    rw [inF_maxQ _ (avoidQ_down n xs) s hs]
    unfold avoidQ
    cases setB n (s : Int) <;> simp
  rw [minQ_congr e]
  refine rises_eq _ _ (minQ_rises _) (minimal_rises _) fun x => ?_
  rw [mem_minQ, mem_minimal xs hok]
  constructor
  · rintro ⟨s, rfl, hs, h1, h2⟩
    rw [Bool.and_eq_true] at h1
    obtain ⟨f, hf, k⟩ := (abv_iff xs s).1 h1.2
    obtain ⟨t, rfl, ht⟩ := ok_nat hok hf
    have k : sub t s = true := k
    have hin : ∀ u : Nat, (u : Int) ∈ xs → sub u s = true → u = s := fun u hu ku => by
      have hu6 := (okZ_nat u).1 (setB_ok (setsOf_set h _ hu))
      refine h2 u hu6 ?_ ku
      rw [setsOf_set h _ hu, (abv_iff xs u).2 ⟨_, hu, sub_refl u⟩]; rfl
    have := hin t hf k
    subst this
    exact ⟨t, rfl, hs, hf, hin⟩
  · rintro ⟨s, rfl, hs, hx, hu⟩
    refine ⟨s, rfl, hs, ?_, fun t ht k1 k2 => ?_⟩
    · rw [setsOf_set h _ hx, (abv_iff xs s).2 ⟨_, hx, sub_refl s⟩]; rfl
    · rw [Bool.and_eq_true] at k1
      obtain ⟨f, hf, k⟩ := (abv_iff xs t).1 k1.2
      obtain ⟨u, rfl, _⟩ := ok_nat hok hf
      have k : sub u t = true := k
      have := hu u hf (sub_trans k k2)
      subst this
      exact sub_anti k2 k
/-- A complex is told by its least sets that are no faces. -/
theorem from_miss {n : Int} {xs : List Int} (h : isC n xs = true) : maxQ (avoidQ n (missing n xs)) = xs := by
  conv => rhs; rw [← isC_maxQ h]
  refine maxQ_congr fun s hs => ?_
  rw [missing_yes h]
  cases e : inF xs s with
  | true =>
    unfold avoidQ
    rw [inF_set h s e, Bool.true_and, Bool.not_eq_true']
    rw [Bool.eq_false_iff]; intro k
    obtain ⟨f, hf, k⟩ := (abv_iff _ s).1 k
    obtain ⟨t, rfl, ht, hm, _⟩ := (mem_minQ _ f).1 hf
    have k : sub t s = true := k
    unfold missQ at hm
    rw [inF_sub k e, Bool.and_eq_true] at hm
    cases hm.2
  | false =>
    rw [Bool.eq_false_iff]; intro k
    unfold avoidQ at k
    rw [Bool.and_eq_true, Bool.not_eq_true'] at k
    have hm : missQ n xs s = true := by unfold missQ; rw [k.1, e]; rfl
    obtain ⟨u, _, h2, h3⟩ := minQ_below (missQ n xs) s s hs (Nat.le_refl _) hm
    rw [(abv_iff _ s).2 ⟨_, h2, h3⟩] at k
    cases k.2
theorem miss_setsOf {n : Int} {xs : List Int} (h : isC n xs = true) : setsOf n (missing n xs) = true :=
  (setsOf_iff _ _).2 ⟨(inB_iff _ _ _).2 (isC_n h), missing_le n xs, missing_set⟩
theorem small_mem {xs : List Int} {x : Int} (h : x ∈ small xs) : x ∈ xs ∧ pc x.toNat ≤ 2 := by
  unfold small at h
  rw [List.mem_filter, decide_eq_true_iff] at h
  exact h
theorem small_le (xs : List Int) : (small xs).length ≤ xs.length := List.length_filter_le _ _
theorem small_setsOf {n : Int} {xs : List Int} (h : isC n xs = true) : setsOf n (small (missing n xs)) = true :=
  (setsOf_iff _ _).2 ⟨(inB_iff _ _ _).2 (isC_n h), Nat.le_trans (small_le _) (missing_le n xs), fun x hx => missing_set x (small_mem hx).1⟩
theorem getD_mem {xs : List Int} {k : Nat} (h : k < xs.length) : xs.getD k 0 ∈ xs := by
  rw [List.getD, List.getElem?_eq_getElem h]; exact List.getElem_mem h
/-- Made out of sets of at most two points: a flag complex. -/
theorem small_flag {n : Int} {S : List Int} (h : setsOf n S = true) (hs : ∀ x, x ∈ S → pc x.toNat ≤ 2) : flagB n (maxQ (avoidQ n S)) = true := by
  unfold flagB
  rw [avoid_isC (setsOf_n h), Bool.true_and, decide_eq_true_iff]
  unfold great
  rw [miss_from h]
  by_cases h0 : (minimal S).length = 0
  · rw [if_pos h0]; decide
  · rw [if_neg h0]
    have hm : (minimal S).getD ((minimal S).length - 1) 0 ∈ minimal S := getD_mem (by omega)
    obtain ⟨s, e, _, hx, _⟩ := (mem_minimal S (setsOf_ok h) _).1 hm
    rw [e]
    have := hs _ hx
    omega
theorem flag_flag {n : Int} {xs : List Int} (h : isC n xs = true) : flagB n (maxQ (avoidQ n (small (missing n xs)))) = true :=
  small_flag (small_setsOf h) fun _ hx => (small_mem hx).2
theorem rises_pc {L : List Int} (h : Rises L) (i j : Nat) (hij : i ≤ j) (hj : j < L.length) : pc (L.getD i 0).toNat ≤ pc (L.getD j 0).toNat := by
  by_cases e : i = j
  · subst e; exact Nat.le_refl _
  · have := List.pairwise_iff_getElem.1 h i j (by omega) hj (by omega)
    rw [List.getD, List.getD, List.getElem?_eq_getElem hj, List.getElem?_eq_getElem (show i < L.length by omega)]
    rw [befZ_iff, befN_iff] at this
    show pc (L[i]).toNat ≤ pc (L[j]).toNat
    omega
theorem great_ge {n : Int} {xs : List Int} (k : Nat) (hk : k < (missing n xs).length) : (pc ((missing n xs).getD k 0).toNat : Int) ≤ great n xs := by
  unfold great
  rw [if_neg (by omega)]
  have := rises_pc (missing_rises n xs) k ((missing n xs).length - 1) (by omega) (by omega)
  omega
theorem full_lt {n : Int} {xs : List Int} (h : isC n xs = true) (k : Nat) (hk : k < (missing n xs).length) : fullTo n xs < (pc ((missing n xs).getD k 0).toNat : Int) := by
  unfold fullTo
  rw [if_pos h, if_neg (by omega)]
  have := rises_pc (missing_rises n xs) 0 k (by omega) hk
  omega
/-- A complex is a flag complex just if its flag complex is itself. -/
theorem flag_iff {n : Int} {xs : List Int} (h : isC n xs = true) : flagB n xs = true ↔ maxQ (avoidQ n (small (missing n xs))) = xs := by
  constructor
  · intro hf
    have e : small (missing n xs) = missing n xs := by
      unfold small
      rw [List.filter_eq_self]
      intro x hx
      obtain ⟨k, hk, rfl⟩ := List.mem_iff_getElem.1 hx
      unfold flagB at hf
      rw [Bool.and_eq_true, decide_eq_true_iff] at hf
      have := great_ge (n := n) (xs := xs) k hk
      rw [List.getD, List.getElem?_eq_getElem hk] at this
      have this : (pc ((missing n xs)[k]).toNat : Int) ≤ great n xs := this
      rw [decide_eq_true_iff]
      omega
    rw [e]; exact from_miss h
  · intro e
    have := flag_flag h
    rw [e] at this
    exact this
theorem great_bounds (n : Int) (xs : List Int) : -1 ≤ great n xs ∧ great n xs ≤ 6 := by
  unfold great
  split
  · omega
  · have := pc_le ((missing n xs).getD ((missing n xs).length - 1) 0).toNat
    omega

end Go.Proofs.Ythjgpbcdcgagfaa
