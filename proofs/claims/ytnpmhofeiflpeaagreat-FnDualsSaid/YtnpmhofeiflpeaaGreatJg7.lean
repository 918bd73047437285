/-
  TEXTS of one claim, put together: Dual2, WSet3, WCx1, WWhere.
-/
import Derived.Test.YtnpmhofeiflpeaaGreatJg4
import Derived.Test.YtnpmhofeiflpeaaGreatJg6
import Derived.Test.YtnpmhofeiflpeaaGreatJg2
import Derived.Test.YtnpmhofeiflpeaaGreatJg3
import Derived.Laws.ResultCell
import Derived.WalkMore
import Derived.Shelf.Abstract
/-! HOLES of a complex and of its dual (Alexander's duality), modulo 2, of no program. -/

namespace Go.Proofs.YtnpmhofeiflpeaaGreat
open Sets Lin
namespace Hom

/-! ### all sets of n points -/

def full (n s : Nat) : Bool := decide (s < 2 ^ n)
theorem full_iff (n s : Nat) : full n s = true ↔ s < 2 ^ n := by unfold full; exact decide_eq_true_iff
theorem full_low (n : Nat) : Low n (full n) := fun s _ h => (full_iff n s).1 h
theorem full_down (n : Nat) : Down (full n) := fun s t _ _ h k => by
  have := sub_le h
  have := (full_iff n t).1 k
  exact (full_iff n s).2 (by omega)
theorem full_add (n : Nat) (s : Nat) : addQ n (full n) (full n) s = full (n + 1) s := by
  have e := pow_two n
  by_cases h : s < 2 ^ n
  · rw [addQ_lo h, (full_iff n s).2 h, (full_iff _ s).2 (by omega)]
  · obtain ⟨t, rfl⟩ : ∃ t, s = 2 ^ n + t := ⟨s - 2 ^ n, by omega⟩
    rw [addQ_hi, Bool.eq_iff_iff, full_iff, full_iff]; omega
/-- All sets have no holes. -/
theorem full_hol {p : Nat} (hP : IsP p) {n : Nat} (hn : n ≤ 5) (k : Nat) : fN (full (n + 1)) k = rk p (full (n + 1)) k + rk p (full (n + 1)) (k + 1) := by
  have h := cone_hol hP hn (full_low n) (full_down n) k
  rw [hol_congr (fun s _ => full_add n s)] at h
  unfold hol at h
  omega

/-! ### borders -/

theorem coset {p : Nat} (hP : IsP p) {q : Nat → Bool} (dq : Down q) {k : Nat} {u0 : Nat → Int} (hu : Chn p q (k + 1) u0) :
    Card (fun u => Chn p q (k + 1) u ∧ ∀ t, t < 64 → (p : Int) ∣ bd u t - bd u0 t) (p ^ (fN q (k + 1) - rk p q (k + 1))) := by
  have hp : 0 < p := by have := hP.1; omega
  refine (card_cyc hP dq (k + 1)).1.bij (fun y s => (y s + u0 s) % p) (fun u s => (u s - u0 s) % p) ?_ ?_ ?_ ?_
  · intro y hy
    refine ⟨emod_vec hp fun s hs => by rw [hy.1.2 s hs, hu.2 s hs]; exact ⟨0, by simp⟩, fun t ht => ?_⟩
    obtain ⟨a, ha⟩ := bd_emod p (fun s => y s + u0 s) t
    obtain ⟨b, hb⟩ := hy.2 t ht
    rw [bd_add] at ha
    exact ⟨a + b, by grind⟩
  · rintro u ⟨hv, hd⟩
    refine ⟨emod_vec hp fun s hs => by rw [hv.2 s hs, hu.2 s hs]; exact ⟨0, by simp⟩, fun t ht => ?_⟩
    have e : (fun s => u s - u0 s) = fun s => u s + (-1) * u0 s := funext fun s => by grind
    obtain ⟨a, ha⟩ := bd_emod p (fun s => u s - u0 s) t
    rw [e, bd_add, bd_mul] at ha
    obtain ⟨b, hb⟩ := hd t ht
    exact ⟨a + b, by grind⟩
  · intro y hy
    funext s
    obtain ⟨a, ha⟩ := dvd_emod_sub (y s + u0 s) p
    have hm : (p : Int) ∣ ((y s + u0 s) % p - u0 s) - y s := ⟨a, by grind⟩
    exact (Int.emod_eq_emod_iff_emod_sub_eq_zero.2 (Int.emod_eq_zero_of_dvd hm)).trans (vec_mod hy.1 s)
  · rintro u ⟨hv, _⟩
    funext s
    obtain ⟨a, ha⟩ := dvd_emod_sub (u s - u0 s) p
    have hm : (p : Int) ∣ ((u s - u0 s) % p + u0 s) - u s := ⟨a, by grind⟩
    exact (Int.emod_eq_emod_iff_emod_sub_eq_zero.2 (Int.emod_eq_zero_of_dvd hm)).trans (vec_mod hv s)
/-- The border of a chain modulo p. -/
def bdp (p : Nat) (u : Nat → Int) : Nat → Int := fun t => bd u t % p
theorem bdp_eq {p : Nat} {u v : Nat → Int} : bdp p u = bdp p v ↔ ∀ t, t < 64 → (p : Int) ∣ bd u t - bd v t := by
  constructor
  · intro h t _
    have := congrFun h t
    unfold bdp at this
    exact Int.dvd_of_emod_eq_zero (Int.emod_eq_emod_iff_emod_sub_eq_zero.1 this)
  · intro h
    funext t
    unfold bdp
    by_cases ht : t < 64
    · exact Int.emod_eq_emod_iff_emod_sub_eq_zero.2 (Int.emod_eq_zero_of_dvd (h t ht))
    · rw [bd_out u (by omega), bd_out v (by omega)]
theorem bdp_chn {p : Nat} (hp : 0 < p) {q : Nat → Bool} (dq : Down q) {k : Nat} {u : Nat → Int} (hu : Chn p q (k + 1) u) : Chn p q k (bdp p u) := emod_vec hp fun t ht => by
  by_cases h : t < 64
  · rw [bd_off dq hu h fun e => ht ((mem_J q k t).2 ⟨h, by omega, e.1⟩)]; exact ⟨0, by simp⟩
  · rw [bd_out _ (by omega)]; exact ⟨0, by simp⟩
theorem bdp_cyc (p : Nat) (u : Nat → Int) (t : Nat) (ht : t < 64) : (p : Int) ∣ bd (bdp p u) t := by
  have := bd_emod p (bd u) t
  rw [bd_bd u ht, Int.sub_zero] at this
  exact this
/-- How many borders there are. -/
theorem card_bor {p : Nat} (hP : IsP p) {q : Nat → Bool} (dq : Down q) (k : Nat) : Card (fun z => ∃ u, Chn p q (k + 1) u ∧ z = bdp p u) (p ^ rk p q (k + 1)) := by
  have hp : 0 < p := by have := hP.1; omega
  obtain ⟨d, _, hd⟩ := (card_chn p q k).sub (T := fun z => ∃ u, Chn p q (k + 1) u ∧ z = bdp p u) fun z ⟨u, hu, e⟩ => by rw [e]; exact bdp_chn hp dq hu
  have hS := hd.fibre (S := Chn p q (k + 1)) (bdp p) (fun u hu => ⟨u, hu, rfl⟩) (d := p ^ (fN q (k + 1) - rk p q (k + 1))) fun z ⟨u0, hu0, e⟩ => by
    refine (coset hP dq hu0).congr fun u => and_congr_right fun _ => ?_
    rw [e, ← bdp_eq]
  have h1 := hS.unique (card_chn p q (k + 1))
  have hle := cyc_le hP dq (k + 1)
  have h2 : d * p ^ (fN q (k + 1) - rk p q (k + 1)) = p ^ rk p q (k + 1) * p ^ (fN q (k + 1) - rk p q (k + 1)) := by
    rw [h1, ← Nat.pow_add]
    congr 1
    unfold fN at hle ⊢; omega
  have := Nat.eq_of_mul_eq_mul_right (Nat.pow_pos hp) h2
  rw [← this]; exact hd
theorem full_bor {p : Nat} (hP : IsP p) {n : Nat} (hn : n ≤ 5) (k : Nat) (z : Nat → Int) (hz : Cyc p (full (n + 1)) k z) : ∃ u, Chn p (full (n + 1)) (k + 1) u ∧ z = bdp p u := by
  have hp : 0 < p := by have := hP.1; omega
  have h := full_hol hP hn k
  have hc := (card_cyc hP (full_down (n + 1)) k).1
  rw [show (J (full (n + 1)) k).length - rk p (full (n + 1)) k = rk p (full (n + 1)) (k + 1) by unfold fN at h; omega] at hc
  exact hc.eq_of_le (card_bor hP (full_down (n + 1)) k) (fun z ⟨u, hu, e⟩ => by rw [e]; exact ⟨bdp_chn hp (full_down _) hu, bdp_cyc p u⟩) z hz

/-! ### chains whose border lies in the complex -/

theorem card_rel {p : Nat} (hP : IsP p) {n : Nat} (hn : n ≤ 5) {q : Nat → Bool} (hq : Low (n + 1) q) (dq : Down q) (k : Nat) :
    Card (Rel p (full (n + 1)) q (k + 1)) (p ^ (fN q k - rk p q k) * p ^ (fN (full (n + 1)) (k + 1) - rk p (full (n + 1)) (k + 1))) := by
  have hp : 0 < p := by have := hP.1; omega
  have hJ : ∀ {t}, t ∈ J q k → t ∈ J (full (n + 1)) k := fun {t} h => by
    obtain ⟨h1, h2, h3⟩ := (mem_J q k t).1 h
    exact (mem_J _ k t).2 ⟨h1, h2, (full_iff _ t).2 (hq t h1 h3)⟩
  refine (card_cyc hP dq k).1.fibre (bdp p) (fun u hu => ⟨emod_vec hp fun t ht => ?_, bdp_cyc p u⟩) fun z hz => ?_
  · by_cases h : t < 64
    · by_cases e : q t = true
      · rw [bd_off (full_down _) hu.1 h fun e2 => ht ((mem_J q k t).2 ⟨h, by omega, e⟩)]; exact ⟨0, by simp⟩
      · exact hu.2 t h (by simpa using e)
    · rw [bd_out _ (by omega)]; exact ⟨0, by simp⟩
  · have hz' : Cyc p (full (n + 1)) k z := ⟨⟨fun t _ => by
      by_cases e : t ∈ J q k
      · exact hz.1.1 t e
      · rw [hz.1.2 t e]; omega, fun t ht => hz.1.2 t fun e => ht (hJ e)⟩, hz.2⟩
    obtain ⟨u0, hu0, e0⟩ := full_bor hP hn k z hz'
    refine (coset hP (full_down _) hu0).congr fun u => ?_
    rw [← bdp_eq, e0]
    constructor
    · rintro ⟨h1, h2⟩
      refine ⟨⟨h1, fun t ht hqt => ?_⟩, h2⟩
      have h3 := congrFun h2 t
      rw [← e0, hz.1.2 t fun e => by rw [((mem_J q k t).1 e).2.2] at hqt; cases hqt] at h3
      exact Int.dvd_of_emod_eq_zero h3
    · rintro ⟨h1, h2⟩
      exact ⟨h1.1, h2⟩

/-! ### sums over complements -/

theorem sm_perm {α : Type} {l m : List α} (h : l.Perm m) (f : α → Int) : sm l f = sm m f := by
  induction h with
  | nil => rfl
  | cons x _ ih => show f x + _ = f x + _; rw [ih]
  | swap x y l => show f y + (f x + _) = f x + (f y + _); grind
  | trans _ _ i1 i2 => rw [i1, i2]
theorem sm_rev (N : Nat) (f : Nat → Int) : sm (List.range N) f = sm (List.range N) fun u => f (N - 1 - u) := by
  rw [← sm_map (fun u => N - 1 - u) f]
  refine sm_perm ((List.perm_ext_iff_of_nodup List.nodup_range ?_).2 fun t => ?_) f
  · refine nodup_map_of _ _ List.nodup_range fun a ha b hb e => ?_
    have := List.mem_range.1 ha
    have := List.mem_range.1 hb
    omega
  · rw [List.mem_map, List.mem_range]
    constructor
    · intro h
      exact ⟨N - 1 - t, List.mem_range.2 (by omega), by omega⟩
    · rintro ⟨u, hu, rfl⟩
      have := List.mem_range.1 hu
      omega
theorem sum_J {p : Nat} {q : Nat → Bool} {k : Nat} {y : Nat → Int} (hy : Vec p (J q k) y) (c : Nat → Int) : sm (J q k) (fun s => c s * y s) = S fun s => c s * y s := by
  unfold S J
  rw [sm_filter]
  refine sm_congr _ _ _ fun s hs => ?_
  split
  · rfl
  · rw [hy.2 s (fun hm => by unfold J at hm; exact absurd (List.mem_filter.1 hm).2 (by assumption))]; simp

/-! ### the dual -/

def dualQ (n : Nat) (q : Nat → Bool) (s : Nat) : Bool := decide (s < 2 ^ n) && !q (2 ^ n - 1 - s)
theorem dualQ_iff (n : Nat) (q : Nat → Bool) (s : Nat) : dualQ n q s = true ↔ s < 2 ^ n ∧ q (2 ^ n - 1 - s) = false := by
  unfold dualQ; rw [Bool.and_eq_true, decide_eq_true_iff, Bool.not_eq_true']
theorem comp_pc : ∀ n : Fin 7, ∀ u : Fin 64, u.val < 2 ^ n.val → pc (2 ^ n.val - 1 - u.val) + pc u.val = n.val := by decide +kernel
theorem comp_sub : ∀ n : Fin 7, ∀ s t : Fin 64, s.val < 2 ^ n.val → t.val < 2 ^ n.val → sub s.val t.val = true → sub (2 ^ n.val - 1 - t.val) (2 ^ n.val - 1 - s.val) = true := by decide +kernel
theorem comp_sgn : ∀ n : Fin 7, ∀ t s : Fin 64, t.val < 2 ^ n.val → s.val < 2 ^ n.val → (sgn (2 ^ n.val - 1 - s.val) (2 ^ n.val - 1 - t.val) - sgn t.val s.val) % 2 = 0 := by decide +kernel
theorem dualQ_down {n : Nat} (hn : n ≤ 6) {q : Nat → Bool} (dq : Down q) : Down (dualQ n q) := fun s t hs ht h k => by
  obtain ⟨h1, h2⟩ := (dualQ_iff n q t).1 k
  have h64 := pow64 hn
  have := sub_le h
  refine (dualQ_iff n q s).2 ⟨by omega, ?_⟩
  rw [Bool.eq_false_iff]; intro e
  have := dq _ _ (show 2 ^ n - 1 - t < 64 by omega) (show 2 ^ n - 1 - s < 64 by omega) (comp_sub ⟨n, by omega⟩ ⟨s, hs⟩ ⟨t, ht⟩ (by show s < 2 ^ n; omega) h1 h) e
  rw [h2] at this; cases this
/-- The sets of n points that are no faces. -/
def outQ (n : Nat) (q : Nat → Bool) (s : Nat) : Bool := full n s && !q s
theorem outQ_iff (n : Nat) (q : Nat → Bool) (s : Nat) : outQ n q s = true ↔ s < 2 ^ n ∧ q s = false := by
  unfold outQ; rw [Bool.and_eq_true, full_iff, Bool.not_eq_true']
theorem mem_comp {n : Nat} (hn : n ≤ 6) (q : Nat → Bool) {k : Nat} (hk : k ≤ n) (u : Nat) (hu : u < 2 ^ n) : u ∈ J (dualQ n q) (n - k) ↔ 2 ^ n - 1 - u ∈ J (outQ n q) k := by
  have h64 := pow64 hn
  have hpc := comp_pc ⟨n, by omega⟩ ⟨u, by omega⟩ hu
  dsimp only at hpc
  rw [mem_J, mem_J, dualQ_iff, outQ_iff]
  constructor
  · rintro ⟨_, h2, _, h3⟩
    exact ⟨by omega, by omega, by omega, h3⟩
  · rintro ⟨_, h2, _, h3⟩
    exact ⟨by omega, by omega, hu, h3⟩
def flip (n : Nat) (y : Nat → Int) (u : Nat) : Int := if u < 2 ^ n then y (2 ^ n - 1 - u) else 0
theorem flip_lt {n : Nat} {y : Nat → Int} {u : Nat} (h : u < 2 ^ n) : flip n y u = y (2 ^ n - 1 - u) := if_pos h
theorem flip_ge {n : Nat} {y : Nat → Int} {u : Nat} (h : ¬u < 2 ^ n) : flip n y u = 0 := if_neg h
theorem flip_flip {n : Nat} {y : Nat → Int} (h : ∀ u, 2 ^ n ≤ u → y u = 0) : flip n (flip n y) = y := by
  funext u
  by_cases e : u < 2 ^ n
  · rw [flip_lt e, flip_lt (by omega), show 2 ^ n - 1 - (2 ^ n - 1 - u) = u by omega]
  · rw [flip_ge e, h u (by omega)]
theorem vec_out {p n : Nat} {q : Nat → Bool} {k : Nat} {y : Nat → Int} (h : Vec p (J (outQ n q) k) y) (u : Nat) (hu : 2 ^ n ≤ u) : y u = 0 := h.2 u fun e => by
  have := ((outQ_iff n q u).1 ((mem_J _ k u).1 e).2.2).1
  omega
theorem vec_dual {p n : Nat} {q : Nat → Bool} {k : Nat} {y : Nat → Int} (h : Vec p (J (dualQ n q) k) y) (u : Nat) (hu : 2 ^ n ≤ u) : y u = 0 := h.2 u fun e => by
  have := ((dualQ_iff n q u).1 ((mem_J _ k u).1 e).2.2).1
  omega
theorem flip_vec {p n : Nat} (hn : n ≤ 6) {q : Nat → Bool} {k : Nat} (hk : k ≤ n) {y : Nat → Int} (h : Vec p (J (outQ n q) k) y) : Vec p (J (dualQ n q) (n - k)) (flip n y) := by
  refine ⟨fun u hu => ?_, fun u hu => ?_⟩
  · have hlt := ((dualQ_iff n q u).1 ((mem_J _ _ u).1 hu).2.2).1
    rw [flip_lt hlt]
    exact h.1 _ ((mem_comp hn q hk u hlt).1 hu)
  · by_cases e : u < 2 ^ n
    · rw [flip_lt e]; exact h.2 _ fun hm => hu ((mem_comp hn q hk u e).2 hm)
    · exact flip_ge e
theorem flip_vec' {p n : Nat} (hn : n ≤ 6) {q : Nat → Bool} {k : Nat} (hk : k ≤ n) {y : Nat → Int} (h : Vec p (J (dualQ n q) (n - k)) y) : Vec p (J (outQ n q) k) (flip n y) := by
  refine ⟨fun u hu => ?_, fun u hu => ?_⟩
  · have hlt := ((outQ_iff n q u).1 ((mem_J _ _ u).1 hu).2.2).1
    rw [flip_lt hlt]
    refine h.1 _ ((mem_comp hn q hk _ (by omega)).2 ?_)
    rw [show 2 ^ n - 1 - (2 ^ n - 1 - u) = u by omega]; exact hu
  · by_cases e : u < 2 ^ n
    · rw [flip_lt e]
      refine h.2 _ fun hm => hu ?_
      have := (mem_comp hn q hk _ (by omega)).1 hm
      rwa [show 2 ^ n - 1 - (2 ^ n - 1 - u) = u by omega] at this
    · exact flip_ge e
/-- The dual has as many faces of n - k points as there are sets of k points that are no faces. -/
theorem out_count {n : Nat} (hn : n ≤ 6) (q : Nat → Bool) {k : Nat} (hk : k ≤ n) : (J (outQ n q) k).length = fN (dualQ n q) (n - k) := by
  have h := (card_vec 2 _ (J_nodup (outQ n q) k)).bij (T := Vec 2 (J (dualQ n q) (n - k))) (flip n) (flip n) (fun y hy => flip_vec hn hk hy) (fun y hy => flip_vec' hn hk hy) (fun y hy => flip_flip (vec_out hy)) fun y hy => flip_flip (vec_dual hy)
  exact pow_inj (by decide) (h.unique (card_vec 2 _ (J_nodup _ _)))
theorem full_count {n : Nat} {q : Nat → Bool} (hq : Low n q) (k : Nat) : (J (outQ n q) k).length + fN q k = fN (full n) k := by
  unfold fN J
  have : ∀ l : List Nat, (∀ s ∈ l, s < 64) → (l.filter fun s => pc s == k && outQ n q s).length + (l.filter fun s => pc s == k && q s).length = (l.filter fun s => pc s == k && full n s).length := by
    intro l
    induction l with
    | nil => intro _; rfl
    | cons s l ih =>
      intro hl
      have ih := ih fun t ht => hl t (List.mem_cons_of_mem _ ht)
      have hs := hl s (List.mem_cons_self ..)
      simp only [List.filter_cons]
      have e : outQ n q s = (full n s && !q s) := rfl
      rw [e]
      cases hqs : q s with
      | true =>
        rw [(full_iff n s).2 (hq s hs hqs)]
        cases pc s == k <;> simp <;> omega
      | false =>
        cases full n s <;> cases pc s == k <;> simp <;> omega
  exact this _ fun s hs => List.mem_range.1 hs
/-- The rows of the border matrix that are no faces, and its transpose: cycles of the dual. -/
theorem ker_rel {p n : Nat} {q : Nat → Bool} (k : Nat) (x : Nat → Int) : KerE p (J (outQ n q) k) (J (full n) (k + 1)) sgn x ↔ Rel p (full n) q (k + 1) x := by
  unfold KerE Rel
  refine and_congr_right fun hx => ⟨fun h t ht hqt => ?_, fun h t ht => ?_⟩
  · by_cases e : full n t = true ∧ pc t + 1 = k + 1
    · rw [bd_faces hx]
      exact h t ((mem_J _ k t).2 ⟨ht, by omega, (outQ_iff n q t).2 ⟨(full_iff n t).1 e.1, hqt⟩⟩)
    · rw [bd_off (full_down n) hx ht e]; exact ⟨0, by simp⟩
  · obtain ⟨h1, h2, h3⟩ := (mem_J _ k t).1 ht
    have := h t h1 ((outQ_iff n q t).1 h3).2
    rwa [bd_faces hx] at this
theorem ker_dual {n : Nat} (hn : n ≤ 6) {q : Nat → Bool} (dq : Down q) {k : Nat} (hk : k ≤ n) {b : Nat} (h : Card (Cyc 2 (dualQ n q) (n - k)) b) : Card (KerE 2 (J (full n) (k + 1)) (J (outQ n q) k) fun s t => sgn t s) b := by
  have h64 := pow64 hn
  have hdd := dualQ_down hn dq
  have key : ∀ y, Vec 2 (J (outQ n q) k) y → ∀ s, s < 2 ^ n → (2 : Int) ∣ bd (flip n y) (2 ^ n - 1 - s) - sm (J (outQ n q) k) fun t => sgn t s * y t := fun y hy s hs => by
    rw [sum_J hy]
    have e1 : bd (flip n y) (2 ^ n - 1 - s) = sm (List.range (2 ^ n)) fun t => sgn (2 ^ n - 1 - s) (2 ^ n - 1 - t) * y t := by
      unfold bd
      rw [S_low h64 fun u hu _ => by rw [flip_ge (by omega)]; simp, sm_rev]
      refine sm_congr _ _ _ fun t ht => ?_
      have ht := List.mem_range.1 ht
      rw [flip_lt (by omega), show 2 ^ n - 1 - (2 ^ n - 1 - t) = t by omega]
    rw [e1, S_low h64 fun u hu _ => by rw [vec_out hy u hu]; simp]
    refine sm_dvd 2 _ _ _ fun t ht => ?_
    have ht := List.mem_range.1 ht
    obtain ⟨m, hm⟩ := Int.dvd_of_emod_eq_zero (comp_sgn ⟨n, by omega⟩ ⟨t, by omega⟩ ⟨s, by omega⟩ ht hs)
    dsimp only at hm
    exact ⟨m * y t, by grind⟩
  refine h.bij (flip n) (flip n) ?_ ?_ (fun y hy => flip_flip (vec_dual hy.1)) fun y hy => flip_flip (vec_out hy.1)
  · intro y hy
    have hv := flip_vec' hn hk hy.1
    refine ⟨hv, fun s hs => ?_⟩
    have hs' := (full_iff n s).1 ((mem_J _ _ s).1 hs).2.2
    have hk1 := key _ hv s hs'
    rw [flip_flip (vec_dual hy.1)] at hk1
    obtain ⟨a, ha⟩ := hk1
    obtain ⟨c, hc⟩ := hy.2 (2 ^ n - 1 - s) (by omega)
    exact ⟨c - a, by grind⟩
  · intro y hy
    have hv := flip_vec hn hk hy.1
    refine ⟨hv, fun w hw => ?_⟩
    by_cases e : dualQ n q w = true ∧ pc w + 1 = n - k
    · have hw2 := ((dualQ_iff n q w).1 e.1).1
      have hpc := comp_pc ⟨n, by omega⟩ ⟨w, hw⟩ hw2
      dsimp only at hpc
      have hs : 2 ^ n - 1 - w ∈ J (full n) (k + 1) := (mem_J _ _ _).2 ⟨by omega, by omega, (full_iff n _).2 (by omega)⟩
      have hk1 := key y hy.1 (2 ^ n - 1 - w) (by omega)
      rw [show 2 ^ n - 1 - (2 ^ n - 1 - w) = w by omega] at hk1
      obtain ⟨a, ha⟩ := hk1
      obtain ⟨c, hc⟩ := hy.2 _ hs
      exact ⟨a + c, by grind⟩
    · rw [bd_off hdd hv hw e]; exact ⟨0, by simp⟩

/-! ### the duality -/

theorem dual_rk {n : Nat} (hn : n ≤ 5) {q : Nat → Bool} (hq : Low (n + 1) q) (dq : Down q) {k : Nat} (hk : k ≤ n + 1) : fN q k + rk 2 (dualQ (n + 1) q) (n + 1 - k) = rk 2 q k + rk 2 (full (n + 1)) (k + 1) := by
  have hdd := dualQ_down (n := n + 1) (by omega) dq
  have h1 := (card_rel isP2 hn hq dq k).congr fun x => (ker_rel k x).symm
  have h2 := ker_dual (n := n + 1) (by omega) dq hk (card_cyc isP2 hdd (n + 1 - k)).1
  have h3 := transpose_card isP2 (J_nodup _ _) (J_nodup _ _) sgn h1 h2
  rw [← Nat.pow_add, ← Nat.pow_add, ← Nat.pow_add] at h3
  have h4 := pow_inj (by decide) h3
  have h5 := out_count (n := n + 1) (by omega) q hk
  have h6 := cyc_le isP2 dq k
  have h7 := cyc_le isP2 hdd (n + 1 - k)
  have h8 := cyc_le isP2 (full_down (n + 1)) (k + 1)
  unfold fN at h4 h5 h6 h7 h8 ⊢
  omega
/-- HOLES of both belong together. -/
theorem dual_hol {n : Nat} (hn : n ≤ 5) {q : Nat → Bool} (hq : Low (n + 1) q) (dq : Down q) {k : Nat} (hk : k ≤ n) : hol 2 q k = hol 2 (dualQ (n + 1) q) (n - k) := by
  have h1 := dual_rk hn hq dq (k := k) (by omega)
  have h2 := dual_rk hn hq dq (k := k + 1) (by omega)
  have h3 := full_hol isP2 hn (k + 1)
  have h4 := out_count (n := n + 1) (by omega) q (k := k + 1) (by omega)
  have h5 := full_count hq (k + 1)
  rw [show n + 1 - k = n - k + 1 by omega] at h1
  rw [show n + 1 - (k + 1) = n - k by omega] at h2 h4
  unfold hol
  omega

end Hom
end Go.Proofs.YtnpmhofeiflpeaaGreat

/-! WALKS: the points of a set; its subsets; lists in order. -/

namespace Go.Proofs.YtnpmhofeiflpeaaGreat
open Go.RowKit
open Sets

/-- Is point i in s? -/
def ptB (s i : Nat) : Bool := s / 2 ^ i % 2 == 1

theorem shr_and (s i : Nat) (hs : s < 64) : bits BinOp.and IntKind.i64 ((s : Int) / 2 ^ i) 1 = ((s / 2 ^ i % 2 : Nat) : Int) := by
  have h : s / 2 ^ i < 64 := Nat.lt_of_le_of_lt (Nat.div_le_self _ _) hs
  have := and_one (s / 2 ^ i) h
  rw [← this]
  congr 1
theorem ptB_int (s i : Nat) (hs : s < 64) : (bits BinOp.and IntKind.i64 ((s : Int) / 2 ^ i) 1 == 1) = ptB s i := by
  rw [shr_and s i hs]
  unfold ptB
  rw [Bool.eq_iff_iff, beq_iff_eq, beq_iff_eq]
  omega

theorem pts_hit (s i : Nat) (h : ptB s i = true) : pts s (i + 1) = pts s i ++ [(i : Int)] := by
  rw [pts_next, if_pos (by unfold ptB at h; simpa using h)]
theorem pts_miss (s i : Nat) (h : ptB s i = false) : pts s (i + 1) = pts s i := by
  rw [pts_next, if_neg (by unfold ptB at h; simpa using h), List.append_nil]

theorem points_nat (s : Nat) (h : s < 64) : points (s : Int) = pts s 6 := by unfold points; rw [if_pos ((okZ_nat s).2 h)]; rfl
theorem points_no (x : Int) (h : okZ x = false) : points x = [] := by unfold points; rw [if_neg (by rw [h]; simp)]

end Go.Proofs.YtnpmhofeiflpeaaGreat

/-! WALKS: the law's own functions at complexes: sizes, copies, equality, marks, what is held. -/

namespace Go.Proofs.YtnpmhofeiflpeaaGreat
open Go.RowKit
open Sets

/-- A block of two cells that can be written. -/
def Two (w : World) (b : Nat) (x y : Value) : Prop := b < w.heap.size ∧ w.cell? ⟨b, 0, none⟩ = some x ∧ w.cell? ⟨b, 1, none⟩ = some y ∧ w.frozen? ⟨b, 0, none⟩ = false ∧ w.frozen? ⟨b, 1, none⟩ = false
theorem Two.new (w : World) (x y : Value) (t : TypeId) : Two (w.alloc (.cells #[x, y] t)) w.heap.size x y := by
  refine ⟨by simp, ?_, ?_, World.frozen?_alloc_at _ _ _ _ rfl, World.frozen?_alloc_at _ _ _ _ rfl⟩
  · rw [World.cell?_alloc_new]; rfl
  · rw [World.cell?_alloc_new]; rfl
theorem Two.keeps {w w' : World} {b : Nat} {x y : Value} (h : Two w b x y) (hb : Below w.heap.size w w') : Two w' b x y := by
  obtain ⟨h1, h2, h3, h4, h5⟩ := h
  refine ⟨by have := hb.size; omega, ?_, ?_, ?_, ?_⟩
  · rw [hb.cell (p := ⟨b, 0, none⟩) h1]; exact h2
  · rw [hb.cell (p := ⟨b, 1, none⟩) h1]; exact h3
  · rw [hb.frozen (p := ⟨b, 0, none⟩) h1]; exact h4
  · rw [hb.frozen (p := ⟨b, 1, none⟩) h1]; exact h5
theorem Two.alloc {w : World} {b : Nat} {x y : Value} (h : Two w b x y) (o : Obj) : Two (w.alloc o) b x y := h.keeps ((Below.refl _ _).alloc (Nat.le_refl _) _)
theorem Two.set1 {w : World} {b : Nat} {x y : Value} (h : Two w b x y) (z : Value) : Two (w.setCell ⟨b, 1, none⟩ z) b x z := by
  obtain ⟨h1, h2, h3, h4, h5⟩ := h
  refine ⟨by simp [World.setCell]; exact h1, ?_, World.cell?_setCell_same _ _ _ h3, by rw [World.frozen?_setCell]; exact h4, by rw [World.frozen?_setCell]; exact h5⟩
  rw [World.cell?_setCell_other _ _ _ _ (by simp)]; exact h2

theorem IntsAt.set {w : World} {g b : Nat} {a : Option Addr} {xs : List Int} (h : IntsAt w g a xs) (hne : g ≠ b) (o : Nat) (v : Value) : IntsAt (w.setCell ⟨b, o, none⟩ v) g a xs := h.far (Mem.but_setCell _ _ _ _) hne

/-! ### a complex as a result -/

theorem results_one {fn : Func} {p : Tmp} {ty : TypeId} (h : fn.results = #[.cell p ty]) (tmps : Array Value) (P : Program) (w : World) :
    (results fn tmps).run P w = ((asAddr (tmps.getD p undef)).run P w).andThen fun a w₁ => (loadVar ty a).run P w₁ := by
  simp only [results, h]
  simp [Sem.run_bind, Result.andThen]

theorem cx_load (w : World) (b : Nat) (x y : Value) (h0 : w.cell? ⟨b, 0, none⟩ = some x) (h1 : w.cell? ⟨b, 1, none⟩ = some y) :
    (loadVar 26 ⟨b, 0, none⟩).run Tryz.prog w = .ok (.agg #[x, y]) w := by
  go_simp

theorem ret_cx {fn : Func} {p : Tmp} {R : Ending → World → Prop} {a : Act} {w : World} {x y : Value} (b : Nat) (h : fn.results = #[.cell p 26]) (hp : a.tmps.getD p undef = .pointer (some ⟨b, 0, none⟩))
    (h0 : w.cell? ⟨b, 0, none⟩ = some x) (h1 : w.cell? ⟨b, 1, none⟩ = some y) (hd : a.defers = []) (hR : R (.returned (.agg #[x, y])) w) : bodyPost Tryz.prog fn R .ret a w :=
  bodyPost_ret (by rw [results_one h, hp]; simp [asAddr, Result.andThen, cx_load w b x y h0 h1]) hd hR

theorem ret_cx2 {fn : Func} {p u : Tmp} {R : Ending → World → Prop} {a : Act} {w : World} {x y z : Value} (b : Nat) (h : fn.results = #[.cell p 26, .tmp u]) (hp : a.tmps.getD p undef = .pointer (some ⟨b, 0, none⟩)) (hu : a.tmps.getD u undef = z)
    (h0 : w.cell? ⟨b, 0, none⟩ = some x) (h1 : w.cell? ⟨b, 1, none⟩ = some y) (hd : a.defers = []) (hR : R (.returned (.tuple #[.agg #[x, y], z])) w) : bodyPost Tryz.prog fn R .ret a w :=
  bodyPost_ret (by rw [results_cell_tmp h, hp, hu]; simp [asAddr, Result.andThen, cx_load w b x y h0 h1]) hd hR

/-- A complex as a value. -/
abbrev cx (n : Int) (v : Value) : Value := .agg #[.int .i64 n, v]

end Go.Proofs.YtnpmhofeiflpeaaGreat

/-! WALKS: impl.setsWhere: the sets that meet a predicate, in order. -/

namespace Go.Proofs.YtnpmhofeiflpeaaGreat
open Go.RowKit
open Sets

/-- What is asked of the predicate: at every set, in every later world, it answers p and leaves all as it was. -/
def Pred (g : Nat) (lb : Array Value) (p : Nat → Bool) (w : World) : Prop :=
  ∀ (W : World) (s : Nat), s < 64 → Below w.heap.size w W → Calls Tryz.prog g (#[.int .i64 (s : Int)] ++ lb) W fun e w' => e = .returned (.bool (p s)) ∧ W = w'
theorem Pred.at {g : Nat} {lb : Array Value} {p : Nat → Bool} {w : World} (h : Pred g lb p w) (W : World) (s : Nat) (b : Bool) (hb : p s = b) (hs : s < 64) (hB : Below w.heap.size w W) :
    Calls Tryz.prog g (#[.int .i64 (s : Int)] ++ lb) W fun e w' => e = .returned (.bool b) ∧ W = w' := by
  subst hb; exact h W s hs hB

set_option maxRecDepth 100000 in
set_option maxHeartbeats 4000000 in
theorem setsWhere_any (g : Nat) (lb : Array Value) (p : Nat → Bool) (w : World) (eg : ∀ args w, (callFunc g args).run Tryz.prog w = .ok (.enter g args) w) (hp : Pred g lb p w) :
    Calls Tryz.prog 42 #[.func (.func g) #[] lb] w fun e w' => ∃ v, e = .returned v ∧ OwnInts w' w.heap.size v (ord p) ∧ Below w.heap.size w w' := by
  obtain ⟨i0, hi, hz0, hz1, hz2⟩ := info_parts info_int
  have HPR := Lib.hid hp
  clear hp
  go_enter Tryz.func42, Tryz.ntmps42
  go_wp2
  go_loopw [3, 6] (fun v i wr => ∃ k : Nat, k ≤ 7 ∧ i = .int .i64 (k : Int) ∧ OwnInts wr w.heap.size v (upto p k 0) ∧ Below w.heap.size w wr) (fun _ i _ => 7 - (intOf i).toNat)
  case atStart => exact ⟨0, by omega, rfl, OwnInts.nil _ _, Below.refl _ _⟩
  case round =>
    obtain ⟨k, hk, rfl, hO, hB⟩ := hrel
    have HO := Lib.hid hO
    clear hO
    obtain ⟨wo, rfl⟩ : ∃ wo : World, wo = wr := ⟨_, rfl⟩
    by_cases hlt : k < 7
    · have hlt7 : decide ((k : Int) < 7) = true := by simp; omega
      go_wp2
      go_loopw [3, 9] (fun v i wr => ∃ n : Nat, n ≤ 64 ∧ i = .int .i64 (n : Int) ∧ OwnInts wr w.heap.size v (upto p k n) ∧ Below w.heap.size w wr) (fun _ i _ => 64 - (intOf i).toNat)
      case atStart => exact ⟨0, by omega, rfl, HO.out, hB⟩
      case round =>
        clear hB HO
        obtain ⟨n, hn, rfl, hO, hB⟩ := hrel
        unfold OwnInts at hO
        have HO := Lib.hid hO
        clear hO
        have hsz := hB.size
        have hl := upto_length p k n
        by_cases hln : n < 64
        · have hpn := pc_le n
          by_cases hq : pc n = k
          · have hq' : ((pc n : Int) == (k : Int)) = true := by rw [hq]; simp
            have HQ := Lib.hid hq
            clear hq
            cases hp : p n with
            | true =>
              have HP := Lib.hid hp
              clear hp
              go_wp2_with fail
              refine (implSizeOf_nat n hln _).mono ?_
              rintro e w' ⟨rfl, rfl⟩
              go_wp2_with (first | (at_builtin; refine wpList_append_own _ rfl _ _ 24 rfl w.heap.size 3 i0 (.int .i64 0) 1 8 Tryz.underlying24 hi hz0 hz1 hz2 rfl (by decide) _ _ _ rfl (HO.out.alloc _) ⟨wr.heap.size, 0, none⟩ 1 1 [.int .i64 (n : Int)] rfl rfl ?c1 ?c2 ?c3 ?c4 ?c5 ?_) | (go_at_fn g; refine (HPR.out.at _ n true HP.out hln hB).mono ?_; rintro e w' ⟨rfl, rfl⟩))
              case c1 => intro j u hj; exact Mem.cell_new wr _ _ j u hj
              case c2 => intro u hu; simp at hu; subst hu; rfl
              case c3 => unfold maxLen; omega
              case c4 => omega
              case c5 => simp; omega
              intro v' w1 hown1 hgrow _
              have hB1 : Below w.heap.size w w1 := (hB.alloc hsz _).grown hgrow (by simp; omega) (fun g hg => (HO.out.lt g hg).1)
              have H1 := Lib.hid hown1
              clear hown1 hgrow
              go_wp2
              go_roundw
              case rel => exact ⟨n + 1, by omega, by go_num, by rw [upto_hit p k n HQ.out HP.out]; exact OwnInts.next H1.out, hB1⟩
              case measure => simp [intOf]; omega
            | false =>
              have HP := Lib.hid hp
              clear hp
              go_wp2_with fail
              refine (implSizeOf_nat n hln _).mono ?_
              rintro e w' ⟨rfl, rfl⟩
              go_wp2_with (go_at_fn g; refine (HPR.out.at _ n false HP.out hln hB).mono ?_; rintro e w' ⟨rfl, rfl⟩)
              go_roundw
              case rel => exact ⟨n + 1, by omega, by go_num, by rw [upto_miss p k n (fun h => by rw [HP.out] at h; simp at h)]; exact HO.out, hB⟩
              case measure => simp [intOf]; omega
          · have hq' : ((pc n : Int) == (k : Int)) = false := by simp; omega
            have HQ := Lib.hid hq
            clear hq
            go_wp2_with fail
            refine (implSizeOf_nat n hln _).mono ?_
            rintro e w' ⟨rfl, rfl⟩
            go_wp2
            go_roundw
            case rel => exact ⟨n + 1, by omega, by go_num, by rw [upto_miss p k n (fun h => HQ.out h.1)]; exact HO.out, hB⟩
            case measure => simp [intOf]; omega
        · have E := Lib.hid (show n = 64 by omega)
          go_wp2
          go_roundw
          case rel =>
            have h2 := HO.out
            rw [E.out, upto_line] at h2
            exact ⟨k + 1, by omega, by go_num, h2, hB⟩
          case measure => simp [intOf]; omega
    · have E := Lib.hid (show k = 7 by omega)
      go_wp2
      go_ret
      have h2 := HO.out
      rw [E.out, upto_end] at h2
      exact ⟨_, rfl, h2, hB⟩

end Go.Proofs.YtnpmhofeiflpeaaGreat
