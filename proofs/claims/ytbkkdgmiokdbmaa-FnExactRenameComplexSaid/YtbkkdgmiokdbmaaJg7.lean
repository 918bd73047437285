/-
  TEXTS of one claim, put together: Dual2, Nam1, Nam2.
-/
import Derived.Test.YtbkkdgmiokdbmaaJg5
import Derived.Test.YtbkkdgmiokdbmaaJg6
/-! HOLES of a complex and of its dual (Alexander's duality), modulo 2, of no program. -/

namespace Go.Proofs.Ytbkkdgmiokdbmaa
open Sets Lin
namespace Hom

/-! ### all sets of n points -/

def full (n s : Nat) : Bool := decide (s < 2 ^ n)
theorem full_iff (n s : Nat) : full n s = true ↔ s < 2 ^ n := by unfold full; exact decide_eq_true_iff
theorem full_low (n : Nat) : Low n (full n) := fun s _ h => (full_iff n s).1 h
theorem full_down (n : Nat) : Down (full n) := fun s t _ _ h k => by
  have := sub_le h
  have := (full_iff n t).1 k
  exact (full_iff n s).2 (by omega)
theorem full_add (n : Nat) (s : Nat) : addQ n (full n) (full n) s = full (n + 1) s := by
  have e := pow_two n
  by_cases h : s < 2 ^ n
  · rw [addQ_lo h, (full_iff n s).2 h, (full_iff _ s).2 (by omega)]
  · obtain ⟨t, rfl⟩ : ∃ t, s = 2 ^ n + t := ⟨s - 2 ^ n, by omega⟩
    rw [addQ_hi, Bool.eq_iff_iff, full_iff, full_iff]; omega
/-- All sets have no holes. -/
theorem full_hol {p : Nat} (hP : IsP p) {n : Nat} (hn : n ≤ 5) (k : Nat) : fN (full (n + 1)) k = rk p (full (n + 1)) k + rk p (full (n + 1)) (k + 1) := by
  have h := cone_hol hP hn (full_low n) (full_down n) k
  rw [hol_congr (fun s _ => full_add n s)] at h
  unfold hol at h
  omega

/-! ### borders -/

theorem coset {p : Nat} (hP : IsP p) {q : Nat → Bool} (dq : Down q) {k : Nat} {u0 : Nat → Int} (hu : Chn p q (k + 1) u0) :
    Card (fun u => Chn p q (k + 1) u ∧ ∀ t, t < 64 → (p : Int) ∣ bd u t - bd u0 t) (p ^ (fN q (k + 1) - rk p q (k + 1))) := by
  have hp : 0 < p := by have := hP.1; omega
  refine (card_cyc hP dq (k + 1)).1.bij (fun y s => (y s + u0 s) % p) (fun u s => (u s - u0 s) % p) ?_ ?_ ?_ ?_
  · intro y hy
    refine ⟨emod_vec hp fun s hs => by rw [hy.1.2 s hs, hu.2 s hs]; exact ⟨0, by simp⟩, fun t ht => ?_⟩
    obtain ⟨a, ha⟩ := bd_emod p (fun s => y s + u0 s) t
    obtain ⟨b, hb⟩ := hy.2 t ht
    rw [bd_add] at ha
    exact ⟨a + b, by grind⟩
  · rintro u ⟨hv, hd⟩
    refine ⟨emod_vec hp fun s hs => by rw [hv.2 s hs, hu.2 s hs]; exact ⟨0, by simp⟩, fun t ht => ?_⟩
    have e : (fun s => u s - u0 s) = fun s => u s + (-1) * u0 s := funext fun s => by grind
    obtain ⟨a, ha⟩ := bd_emod p (fun s => u s - u0 s) t
    rw [e, bd_add, bd_mul] at ha
    obtain ⟨b, hb⟩ := hd t ht
    exact ⟨a + b, by grind⟩
  · intro y hy
    funext s
    obtain ⟨a, ha⟩ := dvd_emod_sub (y s + u0 s) p
    have hm : (p : Int) ∣ ((y s + u0 s) % p - u0 s) - y s := ⟨a, by grind⟩
    exact (Int.emod_eq_emod_iff_emod_sub_eq_zero.2 (Int.emod_eq_zero_of_dvd hm)).trans (vec_mod hy.1 s)
  · rintro u ⟨hv, _⟩
    funext s
    obtain ⟨a, ha⟩ := dvd_emod_sub (u s - u0 s) p
    have hm : (p : Int) ∣ ((u s - u0 s) % p + u0 s) - u s := ⟨a, by grind⟩
    exact (Int.emod_eq_emod_iff_emod_sub_eq_zero.2 (Int.emod_eq_zero_of_dvd hm)).trans (vec_mod hv s)
/-- The border of a chain modulo p. -/
def bdp (p : Nat) (u : Nat → Int) : Nat → Int := fun t => bd u t % p
theorem bdp_eq {p : Nat} {u v : Nat → Int} : bdp p u = bdp p v ↔ ∀ t, t < 64 → (p : Int) ∣ bd u t - bd v t := by
  constructor
  · intro h t _
    have := congrFun h t
    unfold bdp at this
    exact Int.dvd_of_emod_eq_zero (Int.emod_eq_emod_iff_emod_sub_eq_zero.1 this)
  · intro h
    funext t
    unfold bdp
    by_cases ht : t < 64
    · exact Int.emod_eq_emod_iff_emod_sub_eq_zero.2 (Int.emod_eq_zero_of_dvd (h t ht))
    · rw [bd_out u (by omega), bd_out v (by omega)]
theorem bdp_chn {p : Nat} (hp : 0 < p) {q : Nat → Bool} (dq : Down q) {k : Nat} {u : Nat → Int} (hu : Chn p q (k + 1) u) : Chn p q k (bdp p u) := emod_vec hp fun t ht => by
  by_cases h : t < 64
  · rw [bd_off dq hu h fun e => ht ((mem_J q k t).2 ⟨h, by omega, e.1⟩)]; exact ⟨0, by simp⟩
  · rw [bd_out _ (by omega)]; exact ⟨0, by simp⟩
theorem bdp_cyc (p : Nat) (u : Nat → Int) (t : Nat) (ht : t < 64) : (p : Int) ∣ bd (bdp p u) t := by
  have := bd_emod p (bd u) t
  rw [bd_bd u ht, Int.sub_zero] at this
  exact this
/-- How many borders there are. -/
theorem card_bor {p : Nat} (hP : IsP p) {q : Nat → Bool} (dq : Down q) (k : Nat) : Card (fun z => ∃ u, Chn p q (k + 1) u ∧ z = bdp p u) (p ^ rk p q (k + 1)) := by
  have hp : 0 < p := by have := hP.1; omega
  obtain ⟨d, _, hd⟩ := (card_chn p q k).sub (T := fun z => ∃ u, Chn p q (k + 1) u ∧ z = bdp p u) fun z ⟨u, hu, e⟩ => by rw [e]; exact bdp_chn hp dq hu
  have hS := hd.fibre (S := Chn p q (k + 1)) (bdp p) (fun u hu => ⟨u, hu, rfl⟩) (d := p ^ (fN q (k + 1) - rk p q (k + 1))) fun z ⟨u0, hu0, e⟩ => by
    refine (coset hP dq hu0).congr fun u => and_congr_right fun _ => ?_
    rw [e, ← bdp_eq]
  have h1 := hS.unique (card_chn p q (k + 1))
  have hle := cyc_le hP dq (k + 1)
  have h2 : d * p ^ (fN q (k + 1) - rk p q (k + 1)) = p ^ rk p q (k + 1) * p ^ (fN q (k + 1) - rk p q (k + 1)) := by
    rw [h1, ← Nat.pow_add]
    congr 1
    unfold fN at hle ⊢; omega
  have := Nat.eq_of_mul_eq_mul_right (Nat.pow_pos hp) h2
  rw [← this]; exact hd
theorem full_bor {p : Nat} (hP : IsP p) {n : Nat} (hn : n ≤ 5) (k : Nat) (z : Nat → Int) (hz : Cyc p (full (n + 1)) k z) : ∃ u, Chn p (full (n + 1)) (k + 1) u ∧ z = bdp p u := by
  have hp : 0 < p := by have := hP.1; omega
  have h := full_hol hP hn k
  have hc := (card_cyc hP (full_down (n + 1)) k).1
  rw [show (J (full (n + 1)) k).length - rk p (full (n + 1)) k = rk p (full (n + 1)) (k + 1) by unfold fN at h; omega] at hc
  exact hc.eq_of_le (card_bor hP (full_down (n + 1)) k) (fun z ⟨u, hu, e⟩ => by rw [e]; exact ⟨bdp_chn hp (full_down _) hu, bdp_cyc p u⟩) z hz

/-! ### chains whose border lies in the complex -/

theorem card_rel {p : Nat} (hP : IsP p) {n : Nat} (hn : n ≤ 5) {q : Nat → Bool} (hq : Low (n + 1) q) (dq : Down q) (k : Nat) :
    Card (Rel p (full (n + 1)) q (k + 1)) (p ^ (fN q k - rk p q k) * p ^ (fN (full (n + 1)) (k + 1) - rk p (full (n + 1)) (k + 1))) := by
  have hp : 0 < p := by have := hP.1; omega
  have hJ : ∀ {t}, t ∈ J q k → t ∈ J (full (n + 1)) k := fun {t} h => by
    obtain ⟨h1, h2, h3⟩ := (mem_J q k t).1 h
    exact (mem_J _ k t).2 ⟨h1, h2, (full_iff _ t).2 (hq t h1 h3)⟩
  refine (card_cyc hP dq k).1.fibre (bdp p) (fun u hu => ⟨emod_vec hp fun t ht => ?_, bdp_cyc p u⟩) fun z hz => ?_
  · by_cases h : t < 64
    · by_cases e : q t = true
      · rw [bd_off (full_down _) hu.1 h fun e2 => ht ((mem_J q k t).2 ⟨h, by omega, e⟩)]; exact ⟨0, by simp⟩
      · exact hu.2 t h (by simpa using e)
    · rw [bd_out _ (by omega)]; exact ⟨0, by simp⟩
  · have hz' : Cyc p (full (n + 1)) k z := ⟨⟨fun t _ => by
      by_cases e : t ∈ J q k
      · exact hz.1.1 t e
      · rw [hz.1.2 t e]; omega, fun t ht => hz.1.2 t fun e => ht (hJ e)⟩, hz.2⟩
    obtain ⟨u0, hu0, e0⟩ := full_bor hP hn k z hz'
    refine (coset hP (full_down _) hu0).congr fun u => ?_
    rw [← bdp_eq, e0]
    constructor
    · rintro ⟨h1, h2⟩
      refine ⟨⟨h1, fun t ht hqt => ?_⟩, h2⟩
      have h3 := congrFun h2 t
      rw [← e0, hz.1.2 t fun e => by rw [((mem_J q k t).1 e).2.2] at hqt; cases hqt] at h3
      exact Int.dvd_of_emod_eq_zero h3
    · rintro ⟨h1, h2⟩
      exact ⟨h1.1, h2⟩

/-! ### sums over complements -/

theorem sm_perm {α : Type} {l m : List α} (h : l.Perm m) (f : α → Int) : sm l f = sm m f := by
  induction h with
  | nil => rfl
  | cons x _ ih => show f x + _ = f x + _; rw [ih]
  | swap x y l => show f y + (f x + _) = f x + (f y + _); grind
  | trans _ _ i1 i2 => rw [i1, i2]
theorem sm_rev (N : Nat) (f : Nat → Int) : sm (List.range N) f = sm (List.range N) fun u => f (N - 1 - u) := by
  rw [← sm_map (fun u => N - 1 - u) f]
  refine sm_perm ((List.perm_ext_iff_of_nodup List.nodup_range ?_).2 fun t => ?_) f
  · refine nodup_map_of _ _ List.nodup_range fun a ha b hb e => ?_
    have := List.mem_range.1 ha
    have := List.mem_range.1 hb
    omega
  · rw [List.mem_map, List.mem_range]
    constructor
    · intro h
      exact ⟨N - 1 - t, List.mem_range.2 (by omega), by omega⟩
    · rintro ⟨u, hu, rfl⟩
      have := List.mem_range.1 hu
      omega
theorem sum_J {p : Nat} {q : Nat → Bool} {k : Nat} {y : Nat → Int} (hy : Vec p (J q k) y) (c : Nat → Int) : sm (J q k) (fun s => c s * y s) = S fun s => c s * y s := by
  unfold S J
  rw [sm_filter]
  refine sm_congr _ _ _ fun s hs => ?_
  split
  · rfl
  · rw [hy.2 s (fun hm => by unfold J at hm; exact absurd (List.mem_filter.1 hm).2 (by assumption))]; simp

/-! ### the dual -/

def dualQ (n : Nat) (q : Nat → Bool) (s : Nat) : Bool := decide (s < 2 ^ n) && !q (2 ^ n - 1 - s)
theorem dualQ_iff (n : Nat) (q : Nat → Bool) (s : Nat) : dualQ n q s = true ↔ s < 2 ^ n ∧ q (2 ^ n - 1 - s) = false := by
  unfold dualQ; rw [Bool.and_eq_true, decide_eq_true_iff, Bool.not_eq_true']
theorem comp_pc : ∀ n : Fin 7, ∀ u : Fin 64, u.val < 2 ^ n.val → pc (2 ^ n.val - 1 - u.val) + pc u.val = n.val := by decide +kernel
theorem comp_sub : ∀ n : Fin 7, ∀ s t : Fin 64, s.val < 2 ^ n.val → t.val < 2 ^ n.val → sub s.val t.val = true → sub (2 ^ n.val - 1 - t.val) (2 ^ n.val - 1 - s.val) = true := by decide +kernel
theorem comp_sgn : ∀ n : Fin 7, ∀ t s : Fin 64, t.val < 2 ^ n.val → s.val < 2 ^ n.val → (sgn (2 ^ n.val - 1 - s.val) (2 ^ n.val - 1 - t.val) - sgn t.val s.val) % 2 = 0 := by decide +kernel
theorem dualQ_down {n : Nat} (hn : n ≤ 6) {q : Nat → Bool} (dq : Down q) : Down (dualQ n q) := fun s t hs ht h k => by
  obtain ⟨h1, h2⟩ := (dualQ_iff n q t).1 k
  have h64 := pow64 hn
  have := sub_le h
  refine (dualQ_iff n q s).2 ⟨by omega, ?_⟩
  rw [Bool.eq_false_iff]; intro e
  have := dq _ _ (show 2 ^ n - 1 - t < 64 by omega) (show 2 ^ n - 1 - s < 64 by omega) (comp_sub ⟨n, by omega⟩ ⟨s, hs⟩ ⟨t, ht⟩ (by show s < 2 ^ n; omega) h1 h) e
  rw [h2] at this; cases this
/-- The sets of n points that are no faces. -/
def outQ (n : Nat) (q : Nat → Bool) (s : Nat) : Bool := full n s && !q s
theorem outQ_iff (n : Nat) (q : Nat → Bool) (s : Nat) : outQ n q s = true ↔ s < 2 ^ n ∧ q s = false := by
  unfold outQ; rw [Bool.and_eq_true, full_iff, Bool.not_eq_true']
theorem mem_comp {n : Nat} (hn : n ≤ 6) (q : Nat → Bool) {k : Nat} (hk : k ≤ n) (u : Nat) (hu : u < 2 ^ n) : u ∈ J (dualQ n q) (n - k) ↔ 2 ^ n - 1 - u ∈ J (outQ n q) k := by
  have h64 := pow64 hn
  have hpc := comp_pc ⟨n, by omega⟩ ⟨u, by omega⟩ hu
  dsimp only at hpc
  rw [mem_J, mem_J, dualQ_iff, outQ_iff]
  constructor
  · rintro ⟨_, h2, _, h3⟩
    exact ⟨by omega, by omega, by omega, h3⟩
  · rintro ⟨_, h2, _, h3⟩
    exact ⟨by omega, by omega, hu, h3⟩
def flip (n : Nat) (y : Nat → Int) (u : Nat) : Int := if u < 2 ^ n then y (2 ^ n - 1 - u) else 0
theorem flip_lt {n : Nat} {y : Nat → Int} {u : Nat} (h : u < 2 ^ n) : flip n y u = y (2 ^ n - 1 - u) := if_pos h
theorem flip_ge {n : Nat} {y : Nat → Int} {u : Nat} (h : ¬u < 2 ^ n) : flip n y u = 0 := if_neg h
theorem flip_flip {n : Nat} {y : Nat → Int} (h : ∀ u, 2 ^ n ≤ u → y u = 0) : flip n (flip n y) = y := by
  funext u
  by_cases e : u < 2 ^ n
  · rw [flip_lt e, flip_lt (by omega), show 2 ^ n - 1 - (2 ^ n - 1 - u) = u by omega]
  · rw [flip_ge e, h u (by omega)]
theorem vec_out {p n : Nat} {q : Nat → Bool} {k : Nat} {y : Nat → Int} (h : Vec p (J (outQ n q) k) y) (u : Nat) (hu : 2 ^ n ≤ u) : y u = 0 := h.2 u fun e => by
  have := ((outQ_iff n q u).1 ((mem_J _ k u).1 e).2.2).1
  omega
theorem vec_dual {p n : Nat} {q : Nat → Bool} {k : Nat} {y : Nat → Int} (h : Vec p (J (dualQ n q) k) y) (u : Nat) (hu : 2 ^ n ≤ u) : y u = 0 := h.2 u fun e => by
  have := ((dualQ_iff n q u).1 ((mem_J _ k u).1 e).2.2).1
  omega
theorem flip_vec {p n : Nat} (hn : n ≤ 6) {q : Nat → Bool} {k : Nat} (hk : k ≤ n) {y : Nat → Int} (h : Vec p (J (outQ n q) k) y) : Vec p (J (dualQ n q) (n - k)) (flip n y) := by
  refine ⟨fun u hu => ?_, fun u hu => ?_⟩
  · have hlt := ((dualQ_iff n q u).1 ((mem_J _ _ u).1 hu).2.2).1
    rw [flip_lt hlt]
    exact h.1 _ ((mem_comp hn q hk u hlt).1 hu)
  · by_cases e : u < 2 ^ n
    · rw [flip_lt e]; exact h.2 _ fun hm => hu ((mem_comp hn q hk u e).2 hm)
    · exact flip_ge e
theorem flip_vec' {p n : Nat} (hn : n ≤ 6) {q : Nat → Bool} {k : Nat} (hk : k ≤ n) {y : Nat → Int} (h : Vec p (J (dualQ n q) (n - k)) y) : Vec p (J (outQ n q) k) (flip n y) := by
  refine ⟨fun u hu => ?_, fun u hu => ?_⟩
  · have hlt := ((outQ_iff n q u).1 ((mem_J _ _ u).1 hu).2.2).1
    rw [flip_lt hlt]
    refine h.1 _ ((mem_comp hn q hk _ (by omega)).2 ?_)
    rw [show 2 ^ n - 1 - (2 ^ n - 1 - u) = u by omega]; exact hu
  · by_cases e : u < 2 ^ n
    · rw [flip_lt e]
      refine h.2 _ fun hm => hu ?_
      have := (mem_comp hn q hk _ (by omega)).1 hm
      rwa [show 2 ^ n - 1 - (2 ^ n - 1 - u) = u by omega] at this
    · exact flip_ge e
/-- The dual has as many faces of n - k points as there are sets of k points that are no faces. -/
theorem out_count {n : Nat} (hn : n ≤ 6) (q : Nat → Bool) {k : Nat} (hk : k ≤ n) : (J (outQ n q) k).length = fN (dualQ n q) (n - k) := by
  have h := (card_vec 2 _ (J_nodup (outQ n q) k)).bij (T := Vec 2 (J (dualQ n q) (n - k))) (flip n) (flip n) (fun y hy => flip_vec hn hk hy) (fun y hy => flip_vec' hn hk hy) (fun y hy => flip_flip (vec_out hy)) fun y hy => flip_flip (vec_dual hy)
  exact pow_inj (by decide) (h.unique (card_vec 2 _ (J_nodup _ _)))
theorem full_count {n : Nat} {q : Nat → Bool} (hq : Low n q) (k : Nat) : (J (outQ n q) k).length + fN q k = fN (full n) k := by
  unfold fN J
  have : ∀ l : List Nat, (∀ s ∈ l, s < 64) → (l.filter fun s => pc s == k && outQ n q s).length + (l.filter fun s => pc s == k && q s).length = (l.filter fun s => pc s == k && full n s).length := by
    intro l
    induction l with
    | nil => intro _; rfl
    | cons s l ih =>
      intro hl
      have ih := ih fun t ht => hl t (List.mem_cons_of_mem _ ht)
      have hs := hl s (List.mem_cons_self ..)
      simp only [List.filter_cons]
      have e : outQ n q s = (full n s && !q s) := rfl
      rw [e]
      cases hqs : q s with
      | true =>
        rw [(full_iff n s).2 (hq s hs hqs)]
        cases pc s == k <;> simp <;> omega
      | false =>
        cases full n s <;> cases pc s == k <;> simp <;> omega
  exact this _ fun s hs => List.mem_range.1 hs
/-- The rows of the border matrix that are no faces, and its transpose: cycles of the dual. -/
theorem ker_rel {p n : Nat} {q : Nat → Bool} (k : Nat) (x : Nat → Int) : KerE p (J (outQ n q) k) (J (full n) (k + 1)) sgn x ↔ Rel p (full n) q (k + 1) x := by
  unfold KerE Rel
  refine and_congr_right fun hx => ⟨fun h t ht hqt => ?_, fun h t ht => ?_⟩
  · by_cases e : full n t = true ∧ pc t + 1 = k + 1
    · rw [bd_faces hx]
      exact h t ((mem_J _ k t).2 ⟨ht, by omega, (outQ_iff n q t).2 ⟨(full_iff n t).1 e.1, hqt⟩⟩)
    · rw [bd_off (full_down n) hx ht e]; exact ⟨0, by simp⟩
  · obtain ⟨h1, h2, h3⟩ := (mem_J _ k t).1 ht
    have := h t h1 ((outQ_iff n q t).1 h3).2
    rwa [bd_faces hx] at this
theorem ker_dual {n : Nat} (hn : n ≤ 6) {q : Nat → Bool} (dq : Down q) {k : Nat} (hk : k ≤ n) {b : Nat} (h : Card (Cyc 2 (dualQ n q) (n - k)) b) : Card (KerE 2 (J (full n) (k + 1)) (J (outQ n q) k) fun s t => sgn t s) b := by
  have h64 := pow64 hn
  have hdd := dualQ_down hn dq
  have key : ∀ y, Vec 2 (J (outQ n q) k) y → ∀ s, s < 2 ^ n → (2 : Int) ∣ bd (flip n y) (2 ^ n - 1 - s) - sm (J (outQ n q) k) fun t => sgn t s * y t := fun y hy s hs => by
    rw [sum_J hy]
    have e1 : bd (flip n y) (2 ^ n - 1 - s) = sm (List.range (2 ^ n)) fun t => sgn (2 ^ n - 1 - s) (2 ^ n - 1 - t) * y t := by
      unfold bd
      rw [S_low h64 fun u hu _ => by rw [flip_ge (by omega)]; simp, sm_rev]
      refine sm_congr _ _ _ fun t ht => ?_
      have ht := List.mem_range.1 ht
      rw [flip_lt (by omega), show 2 ^ n - 1 - (2 ^ n - 1 - t) = t by omega]
    rw [e1, S_low h64 fun u hu _ => by rw [vec_out hy u hu]; simp]
    refine sm_dvd 2 _ _ _ fun t ht => ?_
    have ht := List.mem_range.1 ht
    obtain ⟨m, hm⟩ := Int.dvd_of_emod_eq_zero (comp_sgn ⟨n, by omega⟩ ⟨t, by omega⟩ ⟨s, by omega⟩ ht hs)
    dsimp only at hm
    exact ⟨m * y t, by grind⟩
  refine h.bij (flip n) (flip n) ?_ ?_ (fun y hy => flip_flip (vec_dual hy.1)) fun y hy => flip_flip (vec_out hy.1)
  · intro y hy
    have hv := flip_vec' hn hk hy.1
    refine ⟨hv, fun s hs => ?_⟩
    have hs' := (full_iff n s).1 ((mem_J _ _ s).1 hs).2.2
    have hk1 := key _ hv s hs'
    rw [flip_flip (vec_dual hy.1)] at hk1
    obtain ⟨a, ha⟩ := hk1
    obtain ⟨c, hc⟩ := hy.2 (2 ^ n - 1 - s) (by omega)
    exact ⟨c - a, by grind⟩
  · intro y hy
    have hv := flip_vec hn hk hy.1
    refine ⟨hv, fun w hw => ?_⟩
    by_cases e : dualQ n q w = true ∧ pc w + 1 = n - k
    · have hw2 := ((dualQ_iff n q w).1 e.1).1
      have hpc := comp_pc ⟨n, by omega⟩ ⟨w, hw⟩ hw2
      dsimp only at hpc
      have hs : 2 ^ n - 1 - w ∈ J (full n) (k + 1) := (mem_J _ _ _).2 ⟨by omega, by omega, (full_iff n _).2 (by omega)⟩
      have hk1 := key y hy.1 (2 ^ n - 1 - w) (by omega)
      rw [show 2 ^ n - 1 - (2 ^ n - 1 - w) = w by omega] at hk1
      obtain ⟨a, ha⟩ := hk1
      obtain ⟨c, hc⟩ := hy.2 _ hs
      exact ⟨a + c, by grind⟩
    · rw [bd_off hdd hv hw e]; exact ⟨0, by simp⟩

/-! ### the duality -/

theorem dual_rk {n : Nat} (hn : n ≤ 5) {q : Nat → Bool} (hq : Low (n + 1) q) (dq : Down q) {k : Nat} (hk : k ≤ n + 1) : fN q k + rk 2 (dualQ (n + 1) q) (n + 1 - k) = rk 2 q k + rk 2 (full (n + 1)) (k + 1) := by
  have hdd := dualQ_down (n := n + 1) (by omega) dq
  have h1 := (card_rel isP2 hn hq dq k).congr fun x => (ker_rel k x).symm
  have h2 := ker_dual (n := n + 1) (by omega) dq hk (card_cyc isP2 hdd (n + 1 - k)).1
  have h3 := transpose_card isP2 (J_nodup _ _) (J_nodup _ _) sgn h1 h2
  rw [← Nat.pow_add, ← Nat.pow_add, ← Nat.pow_add] at h3
  have h4 := pow_inj (by decide) h3
  have h5 := out_count (n := n + 1) (by omega) q hk
  have h6 := cyc_le isP2 dq k
  have h7 := cyc_le isP2 hdd (n + 1 - k)
  have h8 := cyc_le isP2 (full_down (n + 1)) (k + 1)
  unfold fN at h4 h5 h6 h7 h8 ⊢
  omega
/-- HOLES of both belong together. -/
theorem dual_hol {n : Nat} (hn : n ≤ 5) {q : Nat → Bool} (hq : Low (n + 1) q) (dq : Down q) {k : Nat} (hk : k ≤ n) : hol 2 q k = hol 2 (dualQ (n + 1) q) (n - k) := by
  have h1 := dual_rk hn hq dq (k := k) (by omega)
  have h2 := dual_rk hn hq dq (k := k + 1) (by omega)
  have h3 := full_hol isP2 hn (k + 1)
  have h4 := out_count (n := n + 1) (by omega) q (k := k + 1) (by omega)
  have h5 := full_count hq (k + 1)
  rw [show n + 1 - k = n - k + 1 by omega] at h1
  rw [show n + 1 - (k + 1) = n - k by omega] at h2 h4
  unfold hol
  omega

end Hom
end Go.Proofs.Ytbkkdgmiokdbmaa

/-! NAMES OF POINTS, of no program: lists of names, sets with new names, bit by bit. -/

namespace Go.Proofs.Ytbkkdgmiokdbmaa
open Sets Lin Hom
namespace Nam

/-! ### names -/

/-- ns are names for n points. -/
def Names (n : Nat) (ns : List Nat) : Prop := ns.Perm (List.range n)
def pt (ns : List Nat) (i : Nat) : Nat := ns.getD i 0
theorem Names.len {n : Nat} {ns : List Nat} (h : Names n ns) : ns.length = n := by rw [h.length_eq, List.length_range]
theorem Names.nodup {n : Nat} {ns : List Nat} (h : Names n ns) : ns.Nodup := h.nodup_iff.2 List.nodup_range
theorem Names.mem {n : Nat} {ns : List Nat} (h : Names n ns) (j : Nat) : j ∈ ns ↔ j < n := by rw [h.mem_iff, List.mem_range]
theorem names_of {n : Nat} {ns : List Nat} (hl : ns.length = n) (hn : ns.Nodup) (hm : ∀ j ∈ ns, j < n) : Names n ns := by
  have h1 : Card (fun j => j < n) n := ⟨List.range n, List.nodup_range, fun j => List.mem_range, List.length_range⟩
  have h2 : Card (fun j => j ∈ ns) n := ⟨ns, hn, fun j => Iff.rfl, hl⟩
  refine (List.perm_ext_iff_of_nodup hn List.nodup_range).2 fun j => ?_
  rw [List.mem_range]
  exact ⟨hm j, h1.eq_of_le h2 hm j⟩
theorem pt_get {ns : List Nat} {i : Nat} (h : i < ns.length) : pt ns i = ns[i] := by unfold pt; rw [List.getD, List.getElem?_eq_getElem h]; rfl
theorem Names.lt {n : Nat} {ns : List Nat} (h : Names n ns) {i : Nat} (hi : i < n) : pt ns i < n := by
  rw [pt_get (by rw [h.len]; exact hi)]
  exact (h.mem _).1 (List.getElem_mem _)
theorem Names.inj {n : Nat} {ns : List Nat} (h : Names n ns) {i j : Nat} (hi : i < n) (hj : j < n) (e : pt ns i = pt ns j) : i = j := by
  rw [pt_get (by rw [h.len]; exact hi), pt_get (by rw [h.len]; exact hj)] at e
  have h1 := h.nodup.idxOf_getElem i (by rw [h.len]; exact hi)
  have h2 := h.nodup.idxOf_getElem j (by rw [h.len]; exact hj)
  rw [← h1, ← h2, e]
/-- Where a name stands. -/
def ix (ns : List Nat) (j : Nat) : Nat := ns.idxOf j
theorem Names.ix_lt {n : Nat} {ns : List Nat} (h : Names n ns) {j : Nat} (hj : j < n) : ix ns j < n := by
  have := List.idxOf_lt_length_of_mem ((h.mem j).2 hj)
  rw [h.len] at this; exact this
theorem Names.pt_ix {n : Nat} {ns : List Nat} (h : Names n ns) {j : Nat} (hj : j < n) : pt ns (ix ns j) = j := by
  have := List.idxOf_lt_length_of_mem ((h.mem j).2 hj)
  unfold ix; rw [pt_get this]; exact List.getElem_idxOf this
theorem Names.ix_pt {n : Nat} {ns : List Nat} (h : Names n ns) {i : Nat} (hi : i < n) : ix ns (pt ns i) = i := h.inj (h.ix_lt (h.lt hi)) hi (h.pt_ix (h.lt hi))
/-- The names that lead back. -/
def bak (n : Nat) (ns : List Nat) : List Nat := (List.range n).map (ix ns)
theorem pt_map {n : Nat} (f : Nat → Nat) {i : Nat} (hi : i < n) : pt ((List.range n).map f) i = f i := by
  rw [pt_get (by simpa using hi)]; simp
theorem names_map {n : Nat} {f : Nat → Nat} (hf : ∀ i, i < n → f i < n) (hi : ∀ i j, i < n → j < n → f i = f j → i = j) : Names n ((List.range n).map f) := by
  refine names_of (by simp) (nodup_map_of f _ List.nodup_range fun a ha b hb e => hi a b (List.mem_range.1 ha) (List.mem_range.1 hb) e) fun j hj => ?_
  obtain ⟨i, h, rfl⟩ := List.mem_map.1 hj
  exact hf i (List.mem_range.1 h)
theorem Names.bak {n : Nat} {ns : List Nat} (h : Names n ns) : Names n (bak n ns) :=
  names_map (fun _ hi => h.ix_lt hi) fun i j hi hj e => by rw [← h.pt_ix hi, ← h.pt_ix hj, e]
theorem pt_bak {n : Nat} {ns : List Nat} {j : Nat} (hj : j < n) : pt (bak n ns) j = ix ns j := pt_map _ hj
/-- One after the other. -/
def cmp (n : Nat) (ns ms : List Nat) : List Nat := (List.range n).map fun i => pt ns (pt ms i)
theorem Names.cmp {n : Nat} {ns ms : List Nat} (h : Names n ns) (k : Names n ms) : Names n (cmp n ns ms) :=
  names_map (fun _ hi => h.lt (k.lt hi)) fun _ _ hi hj e => k.inj hi hj (h.inj (k.lt hi) (k.lt hj) e)
theorem pt_cmp {n : Nat} {ns ms : List Nat} {i : Nat} (hi : i < n) : pt (cmp n ns ms) i = pt ns (pt ms i) := pt_map _ hi
theorem names_ext {n : Nat} {ns ms : List Nat} (h : Names n ns) (k : Names n ms) (e : ∀ i, i < n → pt ns i = pt ms i) : ns = ms := by
  apply List.ext_getElem (by rw [h.len, k.len])
  intro i h1 h2
  have := e i (by rw [← h.len]; exact h1)
  rwa [pt_get h1, pt_get h2] at this
theorem names_id (n : Nat) : Names n (List.range n) := List.Perm.refl _
theorem pt_id {n i : Nat} (hi : i < n) : pt (List.range n) i = i := by rw [pt_get (by simpa using hi)]; simp

/-! ### sets with new names -/

def renU (ns : List Nat) (s : Nat) : Nat → Nat
  | 0 => 0
  | k + 1 => renU ns s k ||| (if s.testBit k = true then 2 ^ pt ns k else 0)
def ren (ns : List Nat) (s : Nat) : Nat := renU ns s ns.length
theorem renU_bit (ns : List Nat) (s : Nat) (j : Nat) : ∀ k, (renU ns s k).testBit j = true ↔ ∃ i, i < k ∧ s.testBit i = true ∧ pt ns i = j
  | 0 => by
    show (0 : Nat).testBit j = true ↔ _
    rw [Nat.zero_testBit]
    exact ⟨fun h => absurd h (by simp), fun ⟨i, h, _⟩ => absurd h (Nat.not_lt_zero _)⟩
  | k + 1 => by
    show (renU ns s k ||| _).testBit j = true ↔ _
    rw [Nat.testBit_or, Bool.or_eq_true, renU_bit ns s j k]
    constructor
    · rintro (⟨i, h1, h2, h3⟩ | h)
      · exact ⟨i, by omega, h2, h3⟩
      · by_cases e : s.testBit k = true
        · rw [if_pos e, Nat.testBit_two_pow, decide_eq_true_iff] at h
          exact ⟨k, by omega, e, h⟩
        · rw [if_neg e, Nat.zero_testBit] at h; cases h
    · rintro ⟨i, h1, h2, h3⟩
      by_cases e : i = k
      · subst e
        right
        rw [if_pos h2, Nat.testBit_two_pow, decide_eq_true_iff]; exact h3
      · exact .inl ⟨i, by omega, h2, h3⟩
theorem ren_bit {n : Nat} {ns : List Nat} (h : Names n ns) (s j : Nat) : (ren ns s).testBit j = true ↔ ∃ i, i < n ∧ s.testBit i = true ∧ pt ns i = j := by
  unfold ren; rw [renU_bit, h.len]
theorem ren_at {n : Nat} {ns : List Nat} (h : Names n ns) (s : Nat) {i : Nat} (hi : i < n) : (ren ns s).testBit (pt ns i) = s.testBit i := by
  rw [Bool.eq_iff_iff, ren_bit h]
  constructor
  · rintro ⟨i', h1, h2, h3⟩
    rw [← h.inj h1 hi h3]; exact h2
  · intro e; exact ⟨i, hi, e, rfl⟩
theorem ren_of {n : Nat} {ns : List Nat} (h : Names n ns) (s : Nat) {j : Nat} (hj : j < n) : (ren ns s).testBit j = s.testBit (ix ns j) := by
  rw [← ren_at h s (h.ix_lt hj), h.pt_ix hj]
theorem lt_pow {s n : Nat} (h : ∀ i, n ≤ i → s.testBit i = false) : s < 2 ^ n := Nat.lt_pow_two_of_testBit s h
theorem bit_lt {s n i : Nat} (h : s < 2 ^ n) (hb : s.testBit i = true) : i < n := by
  rcases Nat.lt_or_ge i n with h1 | h1
  · exact h1
  · rw [Nat.testBit_lt_two_pow (Nat.lt_of_lt_of_le h (Nat.pow_le_pow_right (by decide) h1))] at hb; cases hb
theorem ren_lt {n : Nat} {ns : List Nat} (h : Names n ns) (s : Nat) : ren ns s < 2 ^ n := lt_pow fun j hj => by
  rw [Bool.eq_false_iff]; intro e
  obtain ⟨i, h1, _, h3⟩ := (ren_bit h s j).1 e
  have := h.lt h1
  omega
theorem eq_bits {n s t : Nat} (hs : s < 2 ^ n) (ht : t < 2 ^ n) (h : ∀ i, i < n → s.testBit i = t.testBit i) : s = t := by
  apply Nat.eq_of_testBit_eq
  intro i
  by_cases hi : i < n
  · exact h i hi
  · rw [Bool.eq_iff_iff]
    exact ⟨fun e => absurd (bit_lt hs e) hi, fun e => absurd (bit_lt ht e) hi⟩
theorem ren_cmp {n : Nat} {ns ms : List Nat} (h : Names n ns) (k : Names n ms) (s : Nat) : ren ns (ren ms s) = ren (cmp n ns ms) s := by
  refine eq_bits (n := n) (ren_lt h _) (ren_lt (h.cmp k) _) fun j hj => ?_
  have e : j = pt (cmp n ns ms) (ix ms (ix ns j)) := by rw [pt_cmp (k.ix_lt (h.ix_lt hj)), k.pt_ix (h.ix_lt hj), h.pt_ix hj]
  rw [ren_of h _ hj, ren_of k _ (h.ix_lt hj)]
  conv => rhs; rw [e]
  rw [ren_at (h.cmp k) s (k.ix_lt (h.ix_lt hj))]
theorem ren_id {n s : Nat} (hs : s < 2 ^ n) : ren (List.range n) s = s :=
  eq_bits (n := n) (ren_lt (names_id n) _) hs fun j hj => by
    have := ren_at (names_id n) s hj
    rwa [pt_id hj] at this
theorem ren_bak {n : Nat} {ns : List Nat} (h : Names n ns) {s : Nat} (hs : s < 2 ^ n) : ren (bak n ns) (ren ns s) = s := by
  rw [ren_cmp h.bak h, show cmp n (bak n ns) ns = List.range n from names_ext (h.bak.cmp h) (names_id n) fun i hi => by rw [pt_cmp hi, pt_bak (h.lt hi), h.ix_pt hi, pt_id hi], ren_id hs]
theorem bak_ren {n : Nat} {ns : List Nat} (h : Names n ns) {s : Nat} (hs : s < 2 ^ n) : ren ns (ren (bak n ns) s) = s := by
  rw [ren_cmp h h.bak, show cmp n ns (bak n ns) = List.range n from names_ext (h.cmp h.bak) (names_id n) fun i hi => by rw [pt_cmp hi, pt_bak hi, h.pt_ix hi, pt_id hi], ren_id hs]
theorem ren_sub {n : Nat} {ns : List Nat} (h : Names n ns) {s t : Nat} (hs : s < 2 ^ n) : sub (ren ns s) (ren ns t) = sub s t := by
  rw [Bool.eq_iff_iff, sub_iff, sub_iff]
  constructor
  · intro k i hi
    have hn := bit_lt hs hi
    rw [← ren_at h t hn]
    exact k _ (by rw [ren_at h s hn]; exact hi)
  · intro k j hj
    obtain ⟨i, h1, h2, rfl⟩ := (ren_bit h s j).1 hj
    rw [ren_at h t h1]; exact k i h2
theorem pc_bits : ∀ s : Fin 64, ((List.range 6).filter fun i => s.val.testBit i).length = pc s.val := by decide +kernel
theorem card_pc {n s : Nat} (hn : n ≤ 6) (hs : s < 2 ^ n) : Card (fun i => i < n ∧ s.testBit i = true) (pc s) := by
  have h64 := pow64 hn
  refine ⟨(List.range 6).filter fun i => s.testBit i, List.nodup_range.filter _, fun i => ?_, pc_bits ⟨s, by omega⟩⟩
  rw [List.mem_filter, List.mem_range]
  exact ⟨fun k => ⟨bit_lt hs k.2, k.2⟩, fun k => ⟨by omega, k.2⟩⟩
theorem ren_pc {n : Nat} (hn : n ≤ 6) {ns : List Nat} (h : Names n ns) {s : Nat} (hs : s < 2 ^ n) : pc (ren ns s) = pc s := by
  refine (card_pc hn (ren_lt h s)).unique ((card_pc hn hs).bij (pt ns) (ix ns) (fun i hi => ⟨h.lt hi.1, by rw [ren_at h s hi.1]; exact hi.2⟩) (fun j hj => ⟨h.ix_lt hj.1, by rw [← ren_of h s hj.1]; exact hj.2⟩) (fun i hi => h.ix_pt hi.1) fun j hj => h.pt_ix hj.1)

end Nam
end Go.Proofs.Ytbkkdgmiokdbmaa

/-! NAMES OF POINTS, of no program: a complex with new names has as many faces and holes. -/

namespace Go.Proofs.Ytbkkdgmiokdbmaa
open Sets Lin Hom
namespace Nam

/-! ### signs -/

def B (s i : Nat) : Int := if s.testBit i = true then 1 else 0
/-- Is the pair (i, j) turned over? -/
def turned (ns : List Nat) (i j : Nat) : Int := if i < j ∧ pt ns j < pt ns i then 1 else 0
/-- How many pairs of the set are turned over. -/
def eps (n : Nat) (ns : List Nat) (s : Nat) : Int := sm (List.range n) fun i => sm (List.range n) fun j => turned ns i j * (B s i * B s j)
def sgE (x : Int) : Int := 1 - 2 * (x % 2)
theorem sgE_two (x : Int) : sgE x = 1 ∨ sgE x = -1 := by unfold sgE; omega
theorem sgE_sq (x : Int) : sgE x * sgE x = 1 := by rcases sgE_two x with h | h <;> rw [h] <;> rfl
theorem sgE_add {x y z : Int} (h : (2 : Int) ∣ x + y + z) : sgE x = sgE y * sgE z := by
  obtain ⟨m, hm⟩ := h
  unfold sgE
  rcases (show x % 2 = 0 ∨ x % 2 = 1 by omega) with h1 | h1 <;> rcases (show y % 2 = 0 ∨ y % 2 = 1 by omega) with h2 | h2 <;> rcases (show z % 2 = 0 ∨ z % 2 = 1 by omega) with h3 | h3 <;> rw [h1, h2, h3] <;> first | rfl | omega
/-- The points of s below p. -/
def low (n s p : Nat) : Int := sm (List.range n) fun i => (if i < p then 1 else 0) * B s i
theorem one_more : ∀ t u : Fin 64, (sub t.val u.val && pc u.val == pc t.val + 1) = true → ((List.range 6).any fun p => u.val == t.val + 2 ^ p && !t.val.testBit p) = true := by decide +kernel
theorem add_bit : ∀ t : Fin 64, ∀ p : Fin 6, t.val.testBit p.val = false → ∀ i : Fin 6, (t.val + 2 ^ p.val).testBit i.val = (t.val.testBit i.val || decide (i.val = p.val)) := by decide +kernel
theorem add_low : ∀ n : Fin 7, ∀ t : Fin 64, ∀ p : Fin 6, t.val < 2 ^ n.val → t.val.testBit p.val = false → sgn t.val (t.val + 2 ^ p.val) = sgE (low n.val t.val p.val) := by decide +kernel
theorem B_add {t p : Nat} (ht : t < 64) (hp : p < 6) (h : t.testBit p = false) {i : Nat} (hi : i < 6) : B (t + 2 ^ p) i = B t i + if i = p then 1 else 0 := by
  have := add_bit ⟨t, ht⟩ ⟨p, hp⟩ h ⟨i, hi⟩
  dsimp only at this
  unfold B
  rw [this]
  by_cases e : i = p
  · subst e; rw [h]; simp
  · cases t.testBit i <;> simp [e]
theorem turned_self (ns : List Nat) (i : Nat) : turned ns i i = 0 := if_neg (by omega)
theorem eps_add {n : Nat} (hn : n ≤ 6) (ns : List Nat) {t p : Nat} (ht : t < 2 ^ n) (hp : p < n) (h : t.testBit p = false) : eps n ns (t + 2 ^ p) = eps n ns t + sm (List.range n) fun i => (turned ns i p + turned ns p i) * B t i := by
  have h64 := pow64 hn
  have e : ∀ i ∈ List.range n, (sm (List.range n) fun j => turned ns i j * (B (t + 2 ^ p) i * B (t + 2 ^ p) j)) = (sm (List.range n) fun j => turned ns i j * (B t i * B t j)) + (turned ns i p * B t i + if i = p then sm (List.range n) fun j => turned ns p j * B t j else 0) := fun i hi => by
    have hi := List.mem_range.1 hi
    have e1 : (sm (List.range n) fun j => turned ns i j * (B (t + 2 ^ p) i * B (t + 2 ^ p) j)) = sm (List.range n) fun j => (turned ns i j * (B t i * B t j)) + ((if j = p then turned ns i p * B t i else 0) + ((if i = p then turned ns p j * B t j else 0) + if j = p then (if i = p then turned ns p p else 0) else 0)) := sm_congr _ _ _ fun j hj => by
      have hj := List.mem_range.1 hj
      rw [B_add (by omega) (by omega) h (by omega), B_add (by omega) (by omega) h (by omega)]
      by_cases a : i = p <;> by_cases b : j = p <;> simp only [a, b, if_true, if_false] <;> grind
    rw [e1, sm_add, sm_add, sm_add]
    congr 1
    rw [sm_one p _ _ List.nodup_range (List.mem_range.2 hp) fun j _ hj => if_neg hj, if_pos rfl]
    rw [sm_one p (fun j => if j = p then (if i = p then turned ns p p else 0) else 0) _ List.nodup_range (List.mem_range.2 hp) fun j _ hj => if_neg hj, if_pos rfl, turned_self]
    by_cases a : i = p
    · simp only [a, if_true]; grind
    · simp only [a, if_false]; rw [sm_zero _ _ fun _ _ => rfl]; grind
  unfold eps
  rw [sm_congr _ _ _ e, sm_add, sm_add]
  congr 1
  rw [sm_one p (fun i => if i = p then _ else 0) _ List.nodup_range (List.mem_range.2 hp) fun j _ hj => if_neg hj, if_pos rfl, ← sm_add]
  exact sm_congr _ _ _ fun i _ => by grind
theorem names_sum {n : Nat} {ns : List Nat} (h : Names n ns) (f : Nat → Int) : sm (List.range n) f = sm (List.range n) fun i => f (pt ns i) := by
  rw [← sm_perm h f]
  conv => lhs; rw [show ns = (List.range n).map (pt ns) from by
    apply List.ext_getElem (by rw [h.len]; simp)
    intro i h1 h2
    rw [List.getElem_map, List.getElem_range, pt_get h1]]
  exact sm_map _ _ _
theorem ren_add {n : Nat} (hn : n ≤ 6) {ns : List Nat} (h : Names n ns) {t p : Nat} (ht : t < 2 ^ n) (hp : p < n) (hb : t.testBit p = false) : ren ns (t + 2 ^ p) = ren ns t + 2 ^ pt ns p := by
  have h64 := pow64 hn
  have hr := ren_lt h t
  have hpp := h.lt hp
  have hrb : (ren ns t).testBit (pt ns p) = false := by rw [ren_at h t hp]; exact hb
  have hlt : ren ns t + 2 ^ pt ns p < 2 ^ 6 + 2 ^ 6 := by
    have : 2 ^ pt ns p ≤ 2 ^ 6 := Nat.pow_le_pow_right (by decide) (by omega)
    omega
  apply Nat.eq_of_testBit_eq
  intro j
  by_cases hj : j < 6
  · have e := add_bit ⟨ren ns t, by omega⟩ ⟨pt ns p, by omega⟩ hrb ⟨j, hj⟩
    dsimp only at e
    rw [e]
    rw [Bool.eq_iff_iff, Bool.or_eq_true, decide_eq_true_iff, ren_bit h, ren_bit h]
    constructor
    · rintro ⟨i, h1, h2, h3⟩
      have e2 := add_bit ⟨t, by omega⟩ ⟨p, by omega⟩ hb ⟨i, by omega⟩
      dsimp only at e2
      rw [e2, Bool.or_eq_true, decide_eq_true_iff] at h2
      rcases h2 with h2 | h2
      · exact .inl ⟨i, h1, h2, h3⟩
      · right; rw [← h3, h2]
    · rintro (⟨i, h1, h2, h3⟩ | h2)
      · have e2 := add_bit ⟨t, by omega⟩ ⟨p, by omega⟩ hb ⟨i, by omega⟩
        dsimp only at e2
        exact ⟨i, h1, by rw [e2, h2]; rfl, h3⟩
      · have e2 := add_bit ⟨t, by omega⟩ ⟨p, by omega⟩ hb ⟨p, by omega⟩
        dsimp only at e2
        exact ⟨p, hp, by rw [e2]; simp, h2.symm⟩
  · have h1 : (ren ns (t + 2 ^ p)).testBit j = false := Nat.testBit_lt_two_pow (Nat.lt_of_lt_of_le (ren_lt h _) (Nat.pow_le_pow_right (by decide) (by omega)))
    have hs : sub (2 ^ pt ns p) (2 ^ n - 1) = true := by
      rw [sub_iff]; intro i hi
      rw [Nat.testBit_two_pow, decide_eq_true_iff] at hi
      rw [Nat.testBit_two_pow_sub_one, decide_eq_true_iff]; omega
    have h2 : ren ns t + 2 ^ pt ns p < 2 ^ 6 := by
      have : ∀ t : Fin 64, ∀ p : Fin 6, t.val.testBit p.val = false → t.val + 2 ^ p.val < 64 := by decide +kernel
      exact this ⟨ren ns t, by omega⟩ ⟨pt ns p, by omega⟩ hrb
    rw [h1, Nat.testBit_lt_two_pow (Nat.lt_of_lt_of_le h2 (Nat.pow_le_pow_right (by decide) (by omega)))]
/-- The signs of the border under new names. -/
theorem ren_sgn {n : Nat} (hn : n ≤ 6) {ns : List Nat} (h : Names n ns) {t u : Nat} (ht : t < 2 ^ n) (hu : u < 2 ^ n) : sgn (ren ns t) (ren ns u) = sgE (eps n ns u) * sgE (eps n ns t) * sgn t u := by
  have h64 := pow64 hn
  by_cases e : sub t u = true ∧ pc u = pc t + 1
  · have := one_more ⟨t, by omega⟩ ⟨u, by omega⟩ (by rw [e.1, e.2]; simp)
    rw [List.any_eq_true] at this
    obtain ⟨p, hp, hq⟩ := this
    rw [Bool.and_eq_true, beq_iff_eq, Bool.not_eq_true'] at hq
    obtain ⟨hpu, hb⟩ := hq
    dsimp only at hpu hb
    subst hpu
    have hp := List.mem_range.1 hp
    have hpn : p < n := by
      refine bit_lt hu ?_
      have := add_bit ⟨t, by omega⟩ ⟨p, hp⟩ hb ⟨p, hp⟩
      dsimp only at this
      rw [this]; simp
    have hrb : (ren ns t).testBit (pt ns p) = false := by rw [ren_at h t hpn]; exact hb
    have hl := ren_lt h t
    have hpl := h.lt hpn
    rw [ren_add hn h ht hpn hb, add_low ⟨n, by omega⟩ ⟨t, by omega⟩ ⟨p, hp⟩ ht hb, add_low ⟨n, by omega⟩ ⟨ren ns t, by omega⟩ ⟨pt ns p, by omega⟩ hl hrb, eps_add hn ns ht hpn hb]
    dsimp only
    have hlow : low n (ren ns t) (pt ns p) = sm (List.range n) fun i => (if pt ns i < pt ns p then 1 else 0) * B t i := by
      unfold low
      rw [names_sum h]
      refine sm_congr _ _ _ fun i hi => ?_
      unfold B
      rw [ren_at h t (List.mem_range.1 hi)]
    have hpar : (2 : Int) ∣ low n (ren ns t) (pt ns p) + low n t p + sm (List.range n) fun i => (turned ns i p + turned ns p i) * B t i := by
      rw [hlow]
      unfold low
      rw [← sm_add, ← sm_add]
      have := sm_dvd (2 : Int) (List.range n) (fun i => (if pt ns i < pt ns p then 1 else 0) * B t i + (if i < p then 1 else 0) * B t i + (turned ns i p + turned ns p i) * B t i) (fun _ => 0) fun i hi => by
        have hi := List.mem_range.1 hi
        by_cases ei : i = p
        · subst ei
          rw [show B t i = 0 from if_neg (by rw [hb]; simp)]; exact ⟨0, by simp⟩
        · have hne : pt ns i ≠ pt ns p := fun e => ei (h.inj hi hpn e)
          unfold turned
          rcases Nat.lt_or_gt_of_ne ei with h1 | h1 <;> rcases Nat.lt_or_gt_of_ne hne with h2 | h2
          · exact ⟨B t i, by simp only [h1, h2, show ¬ (pt ns p < pt ns i) by omega, show ¬ (p < i) by omega, and_false, false_and, if_true, if_false]; grind⟩
          · exact ⟨B t i, by simp only [h1, show ¬ (pt ns i < pt ns p) by omega, show pt ns p < pt ns i by omega, show ¬ (p < i) by omega, and_self, if_true, if_false]; grind⟩
          · exact ⟨B t i, by simp only [show p < i by omega, h2, show ¬ (pt ns p < pt ns i) by omega, show ¬ (i < p) by omega, and_self, if_true, if_false]; grind⟩
          · exact ⟨0, by simp only [show ¬ (i < p) by omega, show ¬ (pt ns i < pt ns p) by omega, and_false, false_and, if_false]; grind⟩
      rw [sm_zero _ _ fun _ _ => rfl, Int.sub_zero] at this
      exact this
    generalize (sm (List.range n) fun i => (turned ns i p + turned ns p i) * B t i) = d at *
    obtain ⟨m, hm⟩ := hpar
    rw [sgE_add (x := low n (ren ns t) (pt ns p)) (y := d) (z := low n t p) ⟨m, by omega⟩, sgE_add (x := eps n ns t + d) (y := d) (z := eps n ns t) ⟨eps n ns t + d, by omega⟩]
    have := sgE_sq (eps n ns t)
    grind
  · rw [sgn_zero e, sgn_zero]
    · simp
    · rw [ren_sub h ht, ren_pc hn h ht, ren_pc hn h hu]; exact e

/-! ### complexes with new names -/

def renQ (n : Nat) (ns : List Nat) (q : Nat → Bool) (s : Nat) : Bool := full n s && q (ren (bak n ns) s)
theorem renQ_iff (n : Nat) (ns : List Nat) (q : Nat → Bool) (s : Nat) : renQ n ns q s = true ↔ s < 2 ^ n ∧ q (ren (bak n ns) s) = true := by
  unfold renQ; rw [Bool.and_eq_true, full_iff]
theorem renQ_down {n : Nat} (hn : n ≤ 6) {ns : List Nat} (h : Names n ns) {q : Nat → Bool} (dq : Down q) : Down (renQ n ns q) := fun s t hs ht hst k => by
  have h64 := pow64 hn
  obtain ⟨h1, h2⟩ := (renQ_iff n ns q t).1 k
  have := sub_le hst
  have hs1 : s < 2 ^ n := by omega
  refine (renQ_iff n ns q s).2 ⟨hs1, dq _ _ ?_ ?_ (by rw [ren_sub h.bak hs1]; exact hst) h2⟩
  · have := ren_lt h.bak s; omega
  · have := ren_lt h.bak t; omega
theorem renQ_low (n : Nat) (ns : List Nat) (q : Nat → Bool) : Low n (renQ n ns q) := fun s _ hs => ((renQ_iff n ns q s).1 hs).1
theorem ren_mem {n : Nat} (hn : n ≤ 6) {ns : List Nat} (h : Names n ns) {q : Nat → Bool} {k t : Nat} (ht : t < 2 ^ n) : ren ns t ∈ J (renQ n ns q) k ↔ t ∈ J q k := by
  have h64 := pow64 hn
  have hr := ren_lt h t
  rw [mem_J, mem_J, renQ_iff, ren_bak h ht, ren_pc hn h ht]
  constructor
  · rintro ⟨_, h2, _, h3⟩
    exact ⟨by omega, h2, h3⟩
  · rintro ⟨_, h2, h3⟩
    exact ⟨by omega, h2, hr, h3⟩
/-- Chains there and back. -/
def fwd (p n : Nat) (ns : List Nat) (y : Nat → Int) (s : Nat) : Int := if s < 2 ^ n then (sgE (eps n ns (ren (bak n ns) s)) * y (ren (bak n ns) s)) % p else 0
def bwd (p n : Nat) (ns : List Nat) (z : Nat → Int) (t : Nat) : Int := if t < 2 ^ n then (sgE (eps n ns t) * z (ren ns t)) % p else 0
theorem mod_zero {p : Nat} {x : Int} (h : x = 0) : x % (p : Int) = 0 := by rw [h]; simp
theorem fwd_vec {p : Nat} (hp : 0 < p) {n : Nat} (hn : n ≤ 6) {ns : List Nat} (h : Names n ns) {q : Nat → Bool} {k : Nat} {y : Nat → Int} (hy : Vec p (J q k) y) : Vec p (J (renQ n ns q) k) (fwd p n ns y) := by
  refine ⟨fun s hs => ?_, fun s hs => ?_⟩
  · unfold fwd
    have := ((renQ_iff n ns q s).1 ((mem_J _ k s).1 hs).2.2).1
    rw [if_pos this]
    exact ⟨Int.emod_nonneg _ (by omega), Int.emod_lt_of_pos _ (by omega)⟩
  · unfold fwd
    by_cases e : s < 2 ^ n
    · rw [if_pos e]
      refine mod_zero ?_
      rw [hy.2 _ fun hm => hs ?_, Int.mul_zero]
      have := (ren_mem hn h (q := q) (k := k) (ren_lt h.bak s)).2 hm
      rwa [bak_ren h e] at this
    · exact if_neg e
theorem bwd_vec {p : Nat} (hp : 0 < p) {n : Nat} (hn : n ≤ 6) {ns : List Nat} (h : Names n ns) {q : Nat → Bool} (hq : Low n q) {k : Nat} {z : Nat → Int} (hz : Vec p (J (renQ n ns q) k) z) : Vec p (J q k) (bwd p n ns z) := by
  refine ⟨fun t ht => ?_, fun t ht => ?_⟩
  · unfold bwd
    obtain ⟨h1, _, h3⟩ := (mem_J _ k t).1 ht
    rw [if_pos (hq t h1 h3)]
    exact ⟨Int.emod_nonneg _ (by omega), Int.emod_lt_of_pos _ (by omega)⟩
  · unfold bwd
    by_cases e : t < 2 ^ n
    · rw [if_pos e]
      refine mod_zero ?_
      rw [hz.2 _ fun hm => ht ((ren_mem hn h e).1 hm), Int.mul_zero]
    · exact if_neg e
theorem sgE_mod {p : Nat} {e x : Int} (he : e * e = 1) : (e * ((e * x) % (p : Int))) % (p : Int) = x % p := by
  obtain ⟨m, hm⟩ := dvd_emod_sub (e * x) p
  refine Int.emod_eq_emod_iff_emod_sub_eq_zero.2 (Int.emod_eq_zero_of_dvd ⟨e * m, ?_⟩)
  grind
theorem bwd_fwd {p n : Nat} {ns : List Nat} (h : Names n ns) {q : Nat → Bool} (hq : Low n q) {k : Nat} {y : Nat → Int} (hy : Vec p (J q k) y) : bwd p n ns (fwd p n ns y) = y := by
  funext t
  unfold bwd
  by_cases e : t < 2 ^ n
  · rw [if_pos e]
    unfold fwd
    rw [if_pos (ren_lt h t), ren_bak h e, sgE_mod (sgE_sq _), vec_mod hy t]
  · rw [if_neg e]
    exact (hy.2 t fun hm => e (hq t ((mem_J _ k t).1 hm).1 ((mem_J _ k t).1 hm).2.2)).symm
theorem fwd_bwd {p n : Nat} {ns : List Nat} (h : Names n ns) {q : Nat → Bool} {k : Nat} {z : Nat → Int} (hz : Vec p (J (renQ n ns q) k) z) : fwd p n ns (bwd p n ns z) = z := by
  funext s
  unfold fwd
  by_cases e : s < 2 ^ n
  · rw [if_pos e]
    unfold bwd
    rw [if_pos (ren_lt h.bak s), bak_ren h e, sgE_mod (sgE_sq _), vec_mod hz s]
  · rw [if_neg e]
    exact (hz.2 s fun hm => e ((renQ_iff n ns q s).1 ((mem_J _ k s).1 hm).2.2).1).symm
theorem ren_sum {n : Nat} {ns : List Nat} (h : Names n ns) (f : Nat → Int) : sm (List.range (2 ^ n)) f = sm (List.range (2 ^ n)) fun u => f (ren ns u) := by
  rw [← sm_map (ren ns) f]
  refine sm_perm ((List.perm_ext_iff_of_nodup List.nodup_range ?_).2 fun s => ?_) f
  · refine nodup_map_of _ _ List.nodup_range fun a ha b hb e => ?_
    rw [← ren_bak h (List.mem_range.1 ha), ← ren_bak h (List.mem_range.1 hb), e]
  · rw [List.mem_map, List.mem_range]
    constructor
    · intro hs
      exact ⟨_, List.mem_range.2 (ren_lt h.bak s), bak_ren h hs⟩
    · rintro ⟨u, _, rfl⟩
      exact ren_lt h u
theorem bd_fwd {p : Nat} {n : Nat} (hn : n ≤ 6) {ns : List Nat} (h : Names n ns) {q : Nat → Bool} (hq : Low n q) {k : Nat} {y : Nat → Int} (hy : Vec p (J q k) y) {t : Nat} (ht : t < 2 ^ n) : (p : Int) ∣ bd (fwd p n ns y) (ren ns t) - sgE (eps n ns t) * bd y t := by
  have h64 := pow64 hn
  unfold bd
  rw [S_low h64 (f := fun s => sgn (ren ns t) s * fwd p n ns y s) fun s hs _ => by rw [show fwd p n ns y s = 0 from if_neg (by omega)]; simp, ren_sum h]
  rw [S_low h64 (f := fun s => sgn t s * y s) fun s hs _ => by rw [hy.2 s fun hm => by have := hq s ((mem_J _ k s).1 hm).1 ((mem_J _ k s).1 hm).2.2; omega]; simp, ← sm_mul]
  refine sm_dvd _ _ _ _ fun u hu => ?_
  have hu := List.mem_range.1 hu
  rw [ren_sgn hn h ht hu]
  rw [show fwd p n ns y (ren ns u) = (sgE (eps n ns u) * y u) % p from by unfold fwd; rw [if_pos (ren_lt h u), ren_bak h hu]]
  obtain ⟨m, hm⟩ := dvd_emod_sub (sgE (eps n ns u) * y u) p
  have := sgE_sq (eps n ns u)
  exact ⟨sgE (eps n ns u) * sgE (eps n ns t) * sgn t u * m, by grind⟩
theorem ren_cyc {p : Nat} (hP : IsP p) {n : Nat} (hn : n ≤ 6) {ns : List Nat} (h : Names n ns) {q : Nat → Bool} (hq : Low n q) (dq : Down q) {k c : Nat} (hc : Card (Cyc p q k) c) : Card (Cyc p (renQ n ns q) k) c := by
  have hp : 0 < p := by have := hP.1; omega
  have h64 := pow64 hn
  have hdr := renQ_down hn h dq
  refine hc.bij (fwd p n ns) (bwd p n ns) ?_ ?_ (fun y hy => bwd_fwd h hq hy.1) fun z hz => fwd_bwd h hz.1
  · intro y hy
    have hv := fwd_vec hp hn h hy.1
    refine ⟨hv, fun s hs => ?_⟩
    by_cases e : s < 2 ^ n
    · have h1 := bd_fwd hn h hq hy.1 (ren_lt h.bak s)
      rw [bak_ren h e] at h1
      obtain ⟨a, ha⟩ := h1
      obtain ⟨b, hb⟩ := hy.2 (ren (bak n ns) s) (by have := ren_lt h.bak s; omega)
      exact ⟨a + sgE (eps n ns (ren (bak n ns) s)) * b, by grind⟩
    · rw [bd_off hdr hv hs fun e2 => e ((renQ_iff n ns q s).1 e2.1).1]; exact ⟨0, by simp⟩
  · intro z hz
    have hv := bwd_vec hp hn h hq hz.1
    refine ⟨hv, fun t ht => ?_⟩
    by_cases e : t < 2 ^ n
    · have h1 := bd_fwd hn h hq hv e
      rw [fwd_bwd h hz.1] at h1
      obtain ⟨a, ha⟩ := h1
      obtain ⟨b, hb⟩ := hz.2 (ren ns t) (by have := ren_lt h t; omega)
      have := sgE_sq (eps n ns t)
      exact ⟨sgE (eps n ns t) * (b - a), by grind⟩
    · rw [bd_off dq hv ht fun e2 => e (hq t ht e2.1)]; exact ⟨0, by simp⟩
/-- As many faces. -/
theorem ren_fN {n : Nat} (hn : n ≤ 6) {ns : List Nat} (h : Names n ns) {q : Nat → Bool} (hq : Low n q) (k : Nat) : fN (renQ n ns q) k = fN q k := by
  have h1 := (card_vec 2 _ (J_nodup q k)).bij (T := Vec 2 (J (renQ n ns q) k)) (fwd 2 n ns) (bwd 2 n ns) (fun y hy => fwd_vec (by decide) hn h hy) (fun z hz => bwd_vec (by decide) hn h hq hz) (fun y hy => bwd_fwd h hq hy) fun z hz => fwd_bwd h hz
  exact pow_inj (by decide) ((card_vec 2 _ (J_nodup _ _)).unique h1)
/-- AS MANY HOLES. -/
theorem ren_hol {p : Nat} (hP : IsP p) {n : Nat} (hn : n ≤ 6) {ns : List Nat} (h : Names n ns) {q : Nat → Bool} (hq : Low n q) (dq : Down q) (k : Nat) : hol p (renQ n ns q) k = hol p q k := by
  have hdr := renQ_down hn h dq
  have hr : ∀ k, rk p (renQ n ns q) k = rk p q k := fun k => by
    have h1 := rk_of_card hP hdr (ren_cyc hP hn h hq dq (card_cyc hP dq k).1)
    have h2 := cyc_le hP dq k
    rw [ren_fN hn h hq] at h1
    unfold fN at h1 h2
    omega
  unfold hol
  rw [ren_fN hn h hq, hr, hr]

end Nam
end Go.Proofs.Ytbkkdgmiokdbmaa
