/-
  TEXTS of one claim, put together: Hom4, HlA, HlB, HlE.
-/
import Derived.Test.YtenpcjmhlnalcaaGreatJg25
import Derived.Test.YtenpcjmhlnalcaaGreatJg4
/-! HOLES, of no program: the numbers of holes of a cone and of a suspension. -/

namespace Go.Proofs.YtenpcjmhlnalcaaGreat
namespace Hom
open Sets Lin

def fN (q : Nat → Bool) (k : Nat) : Nat := (J q k).length
/-- The holes of size k. -/
def hol (p : Nat) (q : Nat → Bool) (k : Nat) : Int := (fN q k : Int) - rk p q k - rk p q (k + 1)

theorem fN_sum (q : Nat → Bool) (k : Nat) : (fN q k : Int) = S fun s => if (pc s == k && q s) = true then 1 else 0 := sm_count _ _
theorem fN_add {n : Nat} (hn : n ≤ 5) {q l : Nat → Bool} (hq : Low n q) (hl : Low n l) (k : Nat) : fN (addQ n q l) (k + 1) = fN q (k + 1) + fN l k := by
  have h64 := pow64 (n := n + 1) (by omega)
  rw [pow_two] at h64
  have h0 : ∀ {f : Nat → Bool} {j : Nat}, Low n f → ∀ s, 2 ^ n ≤ s → s < 64 → (if (pc s == j && f s) = true then (1 : Int) else 0) = 0 := fun hf s h1 h2 => by
    rw [low_false hf h2 h1]; simp
  have : (fN (addQ n q l) (k + 1) : Int) = (fN q (k + 1) : Int) + (fN l k : Int) := by
    rw [fN_sum, fN_sum, fN_sum, S_two h64 fun s h1 h2 => by rw [low_false (addQ_low hl) h2 (by rw [pow_two]; omega)]; simp]
    rw [S_low (by omega) (h0 hq), S_low (by omega) (h0 hl)]
    congr 1
    · exact sm_congr _ _ _ fun s hs => by rw [addQ_lo (List.mem_range.1 hs)]
    · refine sm_congr _ _ _ fun s hs => ?_
      rw [addQ_hi, pc_blk hn (List.mem_range.1 hs)]
      simp
  omega
theorem fN_add0 {n : Nat} (hn : n ≤ 5) {q l : Nat → Bool} (hq : Low n q) (hl : Low n l) : fN (addQ n q l) 0 = fN q 0 := by
  have h64 := pow64 (n := n + 1) (by omega)
  rw [pow_two] at h64
  have : (fN (addQ n q l) 0 : Int) = (fN q 0 : Int) := by
    rw [fN_sum, fN_sum, S_two h64 fun s h1 h2 => by rw [low_false (addQ_low hl) h2 (by rw [pow_two]; omega)]; simp]
    rw [S_low (N := 2 ^ n) (by omega) (f := fun s => if (pc s == 0 && q s) = true then 1 else 0) fun s h1 h2 => by rw [low_false hq h2 h1]; simp]
    rw [sm_zero (List.range (2 ^ n)) (fun s => if (pc (2 ^ n + s) == 0 && addQ n q l (2 ^ n + s)) = true then 1 else 0) fun s hs => by rw [pc_blk hn (List.mem_range.1 hs)]; simp]
    rw [Int.add_zero]
    exact sm_congr _ _ _ fun s hs => by rw [addQ_lo (List.mem_range.1 hs)]
  omega

theorem cyc_le {p : Nat} (hP : IsP p) {q : Nat → Bool} (hq : Down q) (k : Nat) : rk p q k ≤ fN q k := (card_cyc hP hq k).2
theorem rk_of_card {p : Nat} (hP : IsP p) {q : Nat → Bool} (hq : Down q) {k d : Nat} (h : Card (Cyc p q k) (p ^ d)) : fN q k = d + rk p q k := by
  obtain ⟨h1, h2⟩ := card_cyc hP hq k
  have := pow_inj hP.1 (h1.unique h)
  unfold fN; omega

/-! ### cones -/

theorem cone_down {n : Nat} {q : Nat → Bool} (hq : Low n q) (dq : Down q) : Down (addQ n q q) := addQ_down dq dq hq fun _ _ h => h
theorem cone_rk {p : Nat} (hP : IsP p) {n : Nat} (hn : n ≤ 5) {q : Nat → Bool} (hq : Low n q) (dq : Down q) (k : Nat) : rk p (addQ n q q) (k + 1) = fN q k := by
  have hp : 0 < p := by have := hP.1; omega
  have hc : Card (Rel p q q (k + 1)) (p ^ fN q (k + 1)) := (card_chn p q (k + 1)).congr fun u => ⟨fun h => ⟨h, fun t ht hlt => by
    rw [bd_off dq h ht (by rw [hlt]; simp)]; exact ⟨0, by simp⟩⟩, fun h => h.1⟩
  have := rk_of_card hP (cone_down hq dq) (card_add hp hn hq hq dq dq (fun _ _ h => h) hc)
  rw [fN_add hn hq hq] at this
  omega
/-- A CONE HAS NO HOLES. -/
theorem cone_hol {p : Nat} (hP : IsP p) {n : Nat} (hn : n ≤ 5) {q : Nat → Bool} (hq : Low n q) (dq : Down q) : ∀ k, hol p (addQ n q q) k = 0
  | 0 => by
    unfold hol
    rw [fN_add0 hn hq hq, cone_rk hP hn hq dq 0, show rk p (addQ n q q) 0 = 0 from rfl]; omega
  | k + 1 => by
    unfold hol
    rw [fN_add hn hq hq, cone_rk hP hn hq dq k, cone_rk hP hn hq dq (k + 1)]; omega

/-! ### suspensions -/

theorem low_mono {n : Nat} {q : Nat → Bool} (h : Low n q) : Low (n + 1) q := fun s hs hq => by have := h s hs hq; rw [pow_two]; omega
theorem card_susp {p : Nat} {n : Nat} (hn : n ≤ 5) {q : Nat → Bool} (hq : Low n q) (dq : Down q) {k c d : Nat} (h : Card (Chn p q (k + 1)) c) (h' : Card (Cyc p q k) d) : Card (Rel p (addQ n q q) q (k + 1)) (c * d) := by
  have h64 := pow64 (n := n + 1) (by omega)
  rw [pow_two] at h64
  have hdown := cone_down hq dq
  refine (h.prod h').bij (fun z => glue (2 ^ n) z.1 z.2) (fun y => (cut (2 ^ n) 0 y, cut (2 ^ n) (2 ^ n) y)) ?_ ?_ ?_ ?_
  · rintro ⟨u, v⟩ ⟨hu, hv⟩
    have hg := glue_vec hn hq hu hv.1
    refine ⟨hg, fun t ht hlt => ?_⟩
    by_cases e : t < 2 ^ n
    · rw [bd_off hdown hg ht (by rw [addQ_lo e, hlt]; simp)]; exact ⟨0, by simp⟩
    · by_cases e2 : t < 2 ^ n + 2 ^ n
      · obtain ⟨t, rfl⟩ : ∃ t', t = 2 ^ n + t' := ⟨t - 2 ^ n, by omega⟩
        rw [bd_hi hn (add_zero_at hq hg) (by omega), cut_glue_hi hq hv.1]
        exact hv.2 t (by have := Nat.two_pow_pos n; omega)
      · rw [bd_off hdown hg ht (by rw [low_false (addQ_low hq) ht (by rw [pow_two]; omega)]; simp)]; exact ⟨0, by simp⟩
  · intro y hy
    refine ⟨cut_lo_vec hn hq hy.1, cut_hi_vec hn hq hy.1, fun t ht => ?_⟩
    by_cases e : t < 2 ^ n
    · rw [← bd_hi hn (add_zero_at hq hy.1) e]
      exact hy.2 _ (by omega) (low_false hq (by omega) (by omega))
    · dsimp only
      rw [bd_off dq (cut_hi_vec hn hq hy.1) ht (by rw [low_false hq ht (by omega)]; simp)]; exact ⟨0, by simp⟩
  · rintro ⟨u, v⟩ ⟨hu, hv⟩
    exact Prod.ext (cut_glue_lo hq hu) (cut_glue_hi hq hv.1)
  · intro y hy
    exact glue_cut hn hq hy.1

/-- The suspension over the points n and n + 1. -/
def suspQ (n : Nat) (q : Nat → Bool) : Nat → Bool := addQ (n + 1) (addQ n q q) q
theorem susp_down {n : Nat} {q : Nat → Bool} (hq : Low n q) (dq : Down q) : Down (suspQ n q) :=
  addQ_down (cone_down hq dq) dq (low_mono hq) fun s hs h => by rw [addQ_lo (hq s hs h)]; exact h
theorem susp_rk {p : Nat} (hP : IsP p) {n : Nat} (hn : n ≤ 4) {q : Nat → Bool} (hq : Low n q) (dq : Down q) (k : Nat) : rk p (suspQ n q) (k + 1) = fN q k + rk p q k := by
  have hp : 0 < p := by have := hP.1; omega
  obtain ⟨h1, h2⟩ := card_cyc hP dq k
  have hc := card_susp (by omega) hq dq (card_chn p q (k + 1)) h1
  rw [← Nat.pow_add] at hc
  have := rk_of_card hP (susp_down hq dq) (card_add hp (by omega) (addQ_low hq) (low_mono hq) (cone_down hq dq) dq (fun s hs h => by rw [addQ_lo (hq s hs h)]; exact h) hc)
  unfold suspQ at this ⊢
  rw [fN_add (by omega) (addQ_low hq) (low_mono hq), fN_add (by omega) hq hq] at this
  unfold fN at *
  omega
/-- THE HOLES OF A SUSPENSION are those of the complex, one size up. -/
theorem susp_hol {p : Nat} (hP : IsP p) {n : Nat} (hn : n ≤ 4) {q : Nat → Bool} (hq : Low n q) (dq : Down q) : hol p (suspQ n q) 0 = 0 ∧ ∀ k, hol p (suspQ n q) (k + 1) = hol p q k := by
  refine ⟨?_, fun k => ?_⟩
  · unfold hol
    rw [susp_rk hP hn hq dq 0]
    unfold suspQ
    rw [fN_add0 (by omega) (addQ_low hq) (low_mono hq), fN_add0 (by omega) hq hq]
    show _ - ((rk p _ 0 : Nat) : Int) - ((fN q 0 + 0 : Nat) : Int) = 0
    rw [show rk p (addQ (n + 1) (addQ n q q) q) 0 = 0 from rfl]; omega
  · unfold hol
    rw [susp_rk hP hn hq dq k, susp_rk hP hn hq dq (k + 1)]
    unfold suspQ
    rw [fN_add (by omega) (addQ_low hq) (low_mono hq), fN_add (by omega) hq hq]; omega

end Hom
end Go.Proofs.YtenpcjmhlnalcaaGreat

/-! HOLES: they are not less than 0; none of the empty face where points are; cones have none. -/

namespace Go.Proofs.YtenpcjmhlnalcaaGreat
open Sets Lin

namespace Hom

theorem emod_of_dvd {a b p : Int} (h : p ∣ a - b) : a % p = b % p :=
  Int.emod_eq_emod_iff_emod_sub_eq_zero.2 (Int.emod_eq_zero_of_dvd h)
theorem kerE_cyc {p : Nat} {q : Nat → Bool} (hq : Down q) {k : Nat} (y : Nat → Int) : KerE p (J q k) (J q (k + 1)) sgn y ↔ Cyc p q (k + 1) y := by
  unfold KerE Cyc
  refine and_congr_right fun hy => ?_
  constructor
  · intro h t ht
    by_cases e : q t = true ∧ pc t + 1 = k + 1
    · rw [bd_faces hy]; exact h t ((mem_J q k t).2 ⟨ht, by omega, e.1⟩)
    · rw [bd_off hq hy ht e]; exact ⟨0, by simp⟩
  · intro h t ht
    have := h t ((mem_J q k t).1 ht).1
    rw [bd_faces hy] at this
    exact this
/-- The rank, from what the border turned sends to 0. -/
theorem rk_co {p : Nat} (hP : IsP p) {q : Nat → Bool} (hq : Down q) {k d : Nat} (h : Card (KerE p (J q (k + 1)) (J q k) fun s t => sgn t s) (p ^ d)) : fN q k = rk p q (k + 1) + d := by
  obtain ⟨h1, l1⟩ := card_cyc hP hq (k + 1)
  have h1 := h1.congr fun y => (kerE_cyc hq y).symm
  have := transpose_card hP (J_nodup q k) (J_nodup q (k + 1)) sgn h1 h
  rw [← Nat.pow_add, ← Nat.pow_add] at this
  have := pow_inj hP.1 this
  unfold fN
  omega

/-- A chain's border, modulo p, is a cycle. -/
theorem bd_cyc {p : Nat} (hp : 0 < p) {q : Nat → Bool} (hq : Down q) {k : Nat} {y : Nat → Int} (hy : Chn p q (k + 1) y) : Cyc p q k fun t => bd y t % p := by
  refine ⟨emod_vec hp fun t ht => ?_, fun t ht => ?_⟩
  · by_cases h64 : t < 64
    · rw [bd_off hq hy h64 fun h => ht ((mem_J q k t).2 ⟨h64, by omega, h.1⟩)]; exact ⟨0, by simp⟩
    · rw [bd_out y (by omega)]; exact ⟨0, by simp⟩
  · have h := bd_emod p (bd y) t
    rw [bd_bd y ht, Int.sub_zero] at h
    exact h
theorem bd_sub_cyc {p : Nat} {q : Nat → Bool} {k : Nat} {x y : Nat → Int} (hp : 0 < p) (hx : Chn p q (k + 1) x) (hy : Chn p q (k + 1) y) (h : ∀ t, t < 64 → bd x t % p = bd y t % p) : Cyc p q (k + 1) fun s => (x s - y s) % p := by
  refine ⟨emod_vec hp fun s hs => ?_, fun t ht => ?_⟩
  · rw [hx.2 s hs, hy.2 s hs]; exact ⟨0, by simp⟩
  · have h1 := bd_emod p (fun s => x s - y s) t
    have e : bd (fun s => x s - y s) t = bd x t + -1 * bd y t := by
      rw [← bd_mul (-1) y t, ← bd_add]
      refine bd_congr t fun s _ _ _ => ?_
      show x s - y s = x s + -1 * y s
      omega
    rw [e] at h1
    have h2 : (p : Int) ∣ bd x t - bd y t := Int.dvd_of_emod_eq_zero (Int.emod_eq_emod_iff_emod_sub_eq_zero.1 (h t ht))
    have := Int.dvd_add h1 h2
    have e2 : bd (fun s => (x s - y s) % (p : Int)) t - (bd x t + -1 * bd y t) + (bd x t - bd y t) = bd (fun s => (x s - y s) % (p : Int)) t := by omega
    rw [e2] at this
    exact this
theorem bd_add_same {p : Nat} {q : Nat → Bool} {k : Nat} {x y : Nat → Int} (hp : 0 < p) (hx : Cyc p q (k + 1) x) (hy : Chn p q (k + 1) y) : Chn p q (k + 1) (fun s => (x s + y s) % p) ∧ ∀ t, bd (fun s => (x s + y s) % p) t % p = bd y t % p := by
  refine ⟨emod_vec hp fun s hs => ?_, fun t => ?_⟩
  · rw [hx.1.2 s hs, hy.2 s hs]; exact ⟨0, by simp⟩
  · refine emod_of_dvd ?_
    by_cases ht : t < 64
    · have h1 := bd_emod p (fun s => x s + y s) t
      rw [bd_add] at h1
      have := Int.dvd_add h1 (hx.2 t ht)
      have e : bd (fun s => (x s + y s) % (p : Int)) t - (bd x t + bd y t) + bd x t = bd (fun s => (x s + y s) % (p : Int)) t - bd y t := by omega
      rw [e] at this
      exact this
    · rw [bd_out _ (by omega), bd_out _ (by omega)]; exact ⟨0, by simp⟩

/-- THE BORDERS ARE CYCLES: two ranks fit into the faces between them. -/
theorem rk_rk {p : Nat} (hP : IsP p) {q : Nat → Bool} (hq : Down q) (k : Nat) : rk p q (k + 1) + rk p q k ≤ fN q k := by
  have hp : 0 < p := Nat.lt_trans Nat.zero_lt_one hP.1
  obtain ⟨h1, l1⟩ := card_cyc hP hq k
  obtain ⟨h2, l2⟩ := card_cyc hP hq (k + 1)
  obtain ⟨d, hd, hT⟩ := h1.sub (T := fun z => Cyc p q k z ∧ ∃ y, Chn p q (k + 1) y ∧ (fun t => bd y t % p) = z) fun x h => h.1
  have hf : Card (Chn p q (k + 1)) (d * p ^ ((J q (k + 1)).length - rk p q (k + 1))) := by
    refine Card.fibre (fun y t => bd y t % p) hT (fun y hy => ⟨bd_cyc hp hq hy, y, hy, rfl⟩) ?_
    rintro z ⟨_, y, hy, rfl⟩
    refine h2.bij (fun x s => (x s + y s) % p) (fun x s => (x s - y s) % p) ?_ ?_ ?_ ?_
    · intro x hx
      obtain ⟨e1, e2⟩ := bd_add_same hp hx hy
      exact ⟨e1, funext e2⟩
    · rintro x ⟨hx, e⟩
      exact bd_sub_cyc hp hx hy fun t _ => congrFun e t
    · intro x hx
      funext s
      have e1 := bd_add_same hp hx hy
      have e2 := bd_sub_cyc hp e1.1 hy fun t _ => e1.2 t
      refine vec_ext e2.1 hx.1 s ?_
      have h3 := dvd_emod_sub (x s + y s) (p : Int)
      have h4 := dvd_emod_sub ((x s + y s) % (p : Int) - y s) (p : Int)
      have := Int.dvd_add h3 h4
      have e : (x s + y s) % (p : Int) - (x s + y s) + (((x s + y s) % (p : Int) - y s) % (p : Int) - ((x s + y s) % (p : Int) - y s)) = ((x s + y s) % (p : Int) - y s) % (p : Int) - x s := by omega
      rw [e] at this
      exact this
    · rintro x ⟨hx, e⟩
      funext s
      have e2 := bd_sub_cyc hp hx hy fun t _ => congrFun e t
      have e1 := bd_add_same hp e2 hy
      refine vec_ext e1.1 hx s ?_
      have h3 := dvd_emod_sub (x s - y s) (p : Int)
      have h4 := dvd_emod_sub ((x s - y s) % (p : Int) + y s) (p : Int)
      have := Int.dvd_add h3 h4
      have e : (x s - y s) % (p : Int) - (x s - y s) + (((x s - y s) % (p : Int) + y s) % (p : Int) - ((x s - y s) % (p : Int) + y s)) = ((x s - y s) % (p : Int) + y s) % (p : Int) - x s := by omega
      rw [e] at this
      exact this
  have hu := hf.unique (card_chn p q (k + 1))
  have hpp : p ^ (J q (k + 1)).length = p ^ rk p q (k + 1) * p ^ ((J q (k + 1)).length - rk p q (k + 1)) := by
    rw [← Nat.pow_add]; congr 1; omega
  rw [hpp] at hu
  have hd2 := Nat.eq_of_mul_eq_mul_right (Nat.pow_pos hp) hu
  rw [hd2] at hd
  have := (Nat.pow_le_pow_iff_right hP.1).1 hd
  unfold fN
  omega
theorem hol_nonneg {p : Nat} (hP : IsP p) {q : Nat → Bool} (hq : Down q) (k : Nat) : 0 ≤ hol p q k := by
  have := rk_rk hP hq k
  unfold hol
  omega

/-! ### the empty face -/

theorem pc_zero : ∀ s : Fin 64, (pc s.val == 0) = (s.val == 0) := by decide +kernel
theorem sgn_point : ∀ s : Fin 64, pc s.val = 1 → sgn 0 s.val = 1 := by decide +kernel
theorem J_zero {q : Nat → Bool} (h0 : q 0 = true) : J q 0 = [0] := by
  unfold J
  rw [show (List.range 64).filter (fun s => pc s == 0 && q s) = (List.range 64).filter (fun s => s == 0) from List.filter_congr fun s hs => by
    have := pc_zero ⟨s, List.mem_range.1 hs⟩
    dsimp only at this
    rw [this]
    cases e : (s == 0) with
    | false => rfl
    | true => rw [beq_iff_eq.1 e, h0]; rfl]
  decide +kernel
theorem rk_one {p : Nat} (hP : IsP p) {q : Nat → Bool} (hq : Down q) {s : Nat} (h64 : s < 64) (hs : pc s = 1) (hqs : q s = true) : q 0 = true ∧ fN q 0 = 1 ∧ rk p q 1 = 1 := by
  have hp : 0 < p := Nat.lt_trans Nat.zero_lt_one hP.1
  have h0 : q 0 = true := hq 0 s (by omega) h64 (by simp [sub]) hqs
  have hJ := J_zero h0
  have hf : fN q 0 = 1 := by unfold fN; rw [hJ]; rfl
  refine ⟨h0, hf, ?_⟩
  have hc : Card (KerE p (J q 1) (J q 0) fun s t => sgn t s) (p ^ 0) := by
    refine ⟨[fun _ => 0], by simp, fun y => ?_, rfl⟩
    rw [List.mem_singleton]
    constructor
    · rintro rfl
      refine ⟨⟨fun j _ => ⟨Int.le_refl 0, Int.ofNat_lt.2 hp⟩, fun j _ => rfl⟩, fun t _ => ?_⟩
      rw [sm_zero _ _ fun a _ => by simp]
      exact ⟨0, by simp⟩
    · rintro ⟨hy, h⟩
      have h1 := h s ((mem_J q 1 s).2 ⟨h64, hs, hqs⟩)
      rw [hJ] at h1 hy
      have e : sm [0] (fun t => sgn t s * y t) = y 0 := by
        show sgn 0 s * y 0 + 0 = y 0
        rw [sgn_point ⟨s, h64⟩ hs]; omega
      rw [e] at h1
      obtain ⟨b1, b2⟩ := hy.1 0 (by simp)
      funext j
      by_cases ej : j = 0
      · subst ej
        rw [← Int.emod_eq_of_lt b1 b2]; exact Int.emod_eq_zero_of_dvd h1
      · exact hy.2 j (by simpa using ej)
  have : fN q 0 = rk p q 1 + 0 := rk_co hP hq hc
  omega
theorem hol_zero {p : Nat} (hP : IsP p) {q : Nat → Bool} (hq : Down q) {s : Nat} (h64 : s < 64) (hs : pc s = 1) (hqs : q s = true) : hol p q 0 = 0 := by
  obtain ⟨_, h1, h2⟩ := rk_one hP hq h64 hs hqs
  have : rk p q 0 = 0 := rfl
  show (fN q 0 : Int) - rk p q 0 - rk p q 1 = 0
  omega

end Hom
end Go.Proofs.YtenpcjmhlnalcaaGreat

/-! HOLES of dimension 0 count parts. -/

namespace Go.Proofs.YtenpcjmhlnalcaaGreat
open Sets Lin

namespace Hom

/-- A set that holds each face that it meets. -/
def shut (q : Nat → Bool) (P : Nat) : Bool := (List.range 64).all fun s => !(q s && s &&& P != 0) || sub s P

/-- t lies in each such set in which s lies. -/
def reach (q : Nat → Bool) (s t : Nat) : Bool := (List.range 64).all fun P => !(shut q P && sub s P) || sub t P

/-- The least point of a point's part. -/
def rep (q : Nat → Bool) (s : Nat) : Nat := ((J q 1).find? (reach q s)).getD s
def reps (q : Nat → Bool) : List Nat := (J q 1).filter fun s => rep q s == s

/-- How many parts there are. -/
def partsN (q : Nat → Bool) : Nat := (reps q).length

theorem shut_iff {q : Nat → Bool} {P : Nat} : shut q P = true ↔ ∀ s, s < 64 → q s = true → s &&& P ≠ 0 → sub s P = true := by
  unfold shut
  rw [List.all_eq_true]
  constructor
  · intro h s hs hq hm
    have := h s (List.mem_range.2 hs)
    simpa [hq, hm] using this
  · intro h s hs
    have := h s (List.mem_range.1 hs)
    cases hq : q s with
    | false => rfl
    | true =>
      by_cases hm : s &&& P = 0
      · simp [hm]
      · simp [this hq hm]
theorem reach_iff {q : Nat → Bool} {s t : Nat} : reach q s t = true ↔ ∀ P, P < 64 → shut q P = true → sub s P = true → sub t P = true := by
  unfold reach
  rw [List.all_eq_true]
  constructor
  · intro h P hP h1 h2
    have := h P (List.mem_range.2 hP)
    simpa [h1, h2] using this
  · intro h P hP
    have := h P (List.mem_range.1 hP)
    cases h1 : shut q P with
    | false => rfl
    | true =>
      cases h2 : sub s P with
      | false => rfl
      | true => simp [this h1 h2]
theorem reach_refl (q : Nat → Bool) (s : Nat) : reach q s s = true := reach_iff.2 fun _ _ _ h => h
theorem reach_trans {q : Nat → Bool} {s t u : Nat} (h : reach q s t = true) (h' : reach q t u = true) : reach q s u = true :=
  reach_iff.2 fun P hP h1 h2 => reach_iff.1 h' P hP h1 (reach_iff.1 h P hP h1 h2)

theorem bitA : ∀ u P : Fin 64, u.val &&& P.val = 0 → sub u.val (63 ^^^ P.val) = true := by decide +kernel
theorem bitB : ∀ u P : Fin 64, sub u.val P.val = true → u.val &&& (63 ^^^ P.val) = 0 := by decide +kernel
theorem bitC : ∀ s P : Fin 64, pc s.val = 1 → sub s.val P.val = false → sub s.val (63 ^^^ P.val) = true := by decide +kernel
theorem bitD : ∀ s P : Fin 64, pc s.val = 1 → sub s.val P.val = true → sub s.val (63 ^^^ P.val) = false := by decide +kernel
theorem bitX : ∀ P : Fin 64, 63 ^^^ P.val < 64 := by decide +kernel
theorem reach_symm {q : Nat → Bool} {s t : Nat} (hs : s < 64) (ps : pc s = 1) (ht : t < 64) (pt : pc t = 1) (h : reach q s t = true) : reach q t s = true := by
  refine reach_iff.2 fun P hP hsh htP => ?_
  cases hn : sub s P with
  | true => rfl
  | false =>
    have hQ : shut q (63 ^^^ P) = true := shut_iff.2 fun u hu hqu hm => by
      by_cases h2 : u &&& P = 0
      · exact bitA ⟨u, hu⟩ ⟨P, hP⟩ h2
      · exact absurd (bitB ⟨u, hu⟩ ⟨P, hP⟩ (shut_iff.1 hsh u hu hqu h2)) hm
    have h3 := reach_iff.1 h (63 ^^^ P) (bitX ⟨P, hP⟩) hQ (bitC ⟨s, hs⟩ ⟨P, hP⟩ ps hn)
    have h4 := bitD ⟨t, ht⟩ ⟨P, hP⟩ pt htP
    try dsimp only at h4
    rw [h3] at h4
    cases h4
theorem find_congr {α : Type} {f g : α → Bool} : ∀ l : List α, (∀ u ∈ l, f u = g u) → l.find? f = l.find? g
  | [], _ => rfl
  | u :: l, h => by
    rw [List.find?_cons, List.find?_cons, h u (by simp), find_congr l fun v hv => h v (by simp [hv])]
theorem rep_spec {q : Nat → Bool} {s : Nat} (hs : s ∈ J q 1) : rep q s ∈ J q 1 ∧ reach q s (rep q s) = true := by
  unfold rep
  cases hf : (J q 1).find? (reach q s) with
  | none => exact absurd (reach_refl q s) (List.find?_eq_none.1 hf s hs)
  | some t => exact ⟨List.mem_of_find?_eq_some hf, List.find?_some hf⟩
theorem rep_same {q : Nat → Bool} {s t : Nat} (hs : s ∈ J q 1) (ht : t ∈ J q 1) (h : reach q s t = true) : rep q s = rep q t := by
  obtain ⟨s1, s2, _⟩ := (mem_J q 1 s).1 hs
  obtain ⟨t1, t2, _⟩ := (mem_J q 1 t).1 ht
  have h' := reach_symm s1 s2 t1 t2 h
  have e : (J q 1).find? (reach q s) = (J q 1).find? (reach q t) := find_congr _ fun u _ => by
    cases h1 : reach q s u with
    | true => exact (reach_trans h' h1).symm
    | false =>
      cases h2 : reach q t u with
      | false => rfl
      | true => rw [reach_trans h h2] at h1; cases h1
  unfold rep
  rw [← e]
  cases hf : (J q 1).find? (reach q s) with
  | none => exact absurd (reach_refl q s) (List.find?_eq_none.1 hf s hs)
  | some u => rfl
theorem rep_reps {q : Nat → Bool} {s : Nat} (hs : s ∈ J q 1) : rep q s ∈ reps q := by
  obtain ⟨h1, h2⟩ := rep_spec hs
  exact List.mem_filter.2 ⟨h1, by rw [← rep_same hs h1 h2]; exact beq_self_eq_true _⟩

theorem mask6 (c0 c1 c2 c3 c4 c5 : Bool) : ∃ P, P < 64 ∧ sub 1 P = c0 ∧ sub 2 P = c1 ∧ sub 4 P = c2 ∧ sub 8 P = c3 ∧ sub 16 P = c4 ∧ sub 32 P = c5 :=
  ⟨c0.toNat + 2 * c1.toNat + 4 * c2.toNat + 8 * c3.toNat + 16 * c4.toNat + 32 * c5.toNat, by cases c0 <;> cases c1 <;> cases c2 <;> cases c3 <;> cases c4 <;> cases c5 <;> decide⟩
/-- A set of points, by what it holds. -/
theorem mask_of (c : Nat → Bool) : ∃ P, P < 64 ∧ ∀ s, s < 64 → pc s = 1 → sub s P = c s := by
  have H2 : ∀ s : Fin 64, pc s.val = 1 → s.val = 1 ∨ s.val = 2 ∨ s.val = 4 ∨ s.val = 8 ∨ s.val = 16 ∨ s.val = 32 := by decide +kernel
  obtain ⟨P, hP, h0, h1, h2, h3, h4, h5⟩ := mask6 (c 1) (c 2) (c 4) (c 8) (c 16) (c 32)
  refine ⟨P, hP, fun s hs hp => ?_⟩
  have := H2 ⟨s, hs⟩ hp
  try dsimp only at this
  rcases this with rfl | rfl | rfl | rfl | rfl | rfl
  · exact h0
  · exact h1
  · exact h2
  · exact h3
  · exact h4
  · exact h5

/-! ### edges -/

def hiP (s : Nat) : Nat := s &&& (s - 1)
def loP (s : Nat) : Nat := s - (s &&& (s - 1))
theorem edge_bits : ∀ s : Fin 64, pc s.val = 2 → loP s.val < 64 ∧ hiP s.val < 64 ∧ pc (loP s.val) = 1 ∧ pc (hiP s.val) = 1 ∧ loP s.val ≠ hiP s.val ∧ sub (loP s.val) s.val = true ∧ sub (hiP s.val) s.val = true ∧ sgn (loP s.val) s.val = -1 ∧ sgn (hiP s.val) s.val = 1 := by decide +kernel
theorem edge_only : ∀ s t : Fin 64, pc s.val = 2 → pc t.val = 1 → sub t.val s.val = true → t.val = loP s.val ∨ t.val = hiP s.val := by decide +kernel
theorem edge_of : ∀ a b : Fin 64, pc a.val = 1 → pc b.val = 1 → a.val ≠ b.val → (a.val ||| b.val) < 64 ∧ pc (a.val ||| b.val) = 2 ∧ ((a.val = loP (a.val ||| b.val) ∧ b.val = hiP (a.val ||| b.val)) ∨ (b.val = loP (a.val ||| b.val) ∧ a.val = hiP (a.val ||| b.val))) := by decide +kernel
theorem edge_meets : ∀ s P : Fin 64, pc s.val = 2 → sub (loP s.val) P.val = true → s.val &&& P.val ≠ 0 := by decide +kernel
theorem edge_holds : ∀ s P : Fin 64, pc s.val = 2 → sub s.val P.val = true → sub (hiP s.val) P.val = true := by decide +kernel
theorem bit_meet : ∀ u P : Fin 64, u.val &&& P.val ≠ 0 → ∃ v : Fin 6, sub (2 ^ v.val) u.val = true ∧ sub (2 ^ v.val) P.val = true := by decide +kernel
theorem bit_all : ∀ u P : Fin 64, (∀ v : Fin 6, sub (2 ^ v.val) u.val = true → sub (2 ^ v.val) P.val = true) → sub u.val P.val = true := by decide +kernel
theorem bit_one : ∀ v : Fin 6, 2 ^ v.val < 64 ∧ pc (2 ^ v.val) = 1 := by decide +kernel
theorem sub_or {a b u : Nat} (h : sub a u = true) (h' : sub b u = true) : sub (a ||| b) u = true := by
  unfold sub at *
  rw [beq_iff_eq] at *
  rw [Nat.and_or_distrib_right, h, h']
theorem sm_two {l : List Nat} (hl : l.Nodup) {f : Nat → Int} {a b : Nat} (ha : a ∈ l) (hb : b ∈ l) (hne : a ≠ b) (h0 : ∀ t ∈ l, t ≠ a → t ≠ b → f t = 0) : sm l f = f a + f b := by
  have e : sm l f = sm l fun t => (if t = b then 0 else f t) + (if t = b then f t else 0) := sm_congr _ _ _ fun t _ => by
    by_cases h : t = b
    · rw [if_pos h, if_pos h]; omega
    · rw [if_neg h, if_neg h]; omega
  rw [e, sm_add]
  have e1 := sm_one a (fun t => if t = b then 0 else f t) l hl ha fun t ht hta => by
    try dsimp only
    by_cases h : t = b
    · rw [if_pos h]
    · rw [if_neg h]; exact h0 t ht hta h
  have e2 := sm_one b (fun t => if t = b then f t else 0) l hl hb fun t _ htb => if_neg htb
  try dsimp only at e1 e2
  rw [if_neg hne] at e1
  rw [if_pos rfl] at e2
  rw [e1, e2]
theorem edge_ends {q : Nat → Bool} (hq : Down q) {s : Nat} (hs : s ∈ J q 2) : loP s ∈ J q 1 ∧ hiP s ∈ J q 1 := by
  obtain ⟨h1, h2, h3⟩ := (mem_J q 2 s).1 hs
  obtain ⟨b1, b2, b3, b4, _, b6, b7, _⟩ := edge_bits ⟨s, h1⟩ h2
  exact ⟨(mem_J q 1 _).2 ⟨b1, b3, hq _ s b1 h1 b6 h3⟩, (mem_J q 1 _).2 ⟨b2, b4, hq _ s b2 h1 b7 h3⟩⟩
theorem edge_sum {q : Nat → Bool} (hq : Down q) {s : Nat} (hs : s ∈ J q 2) (y : Nat → Int) : sm (J q 1) (fun t => sgn t s * y t) = y (hiP s) - y (loP s) := by
  obtain ⟨h1, h2, h3⟩ := (mem_J q 2 s).1 hs
  obtain ⟨b1, b2, b3, b4, b5, b6, b7, b8, b9⟩ := edge_bits ⟨s, h1⟩ h2
  obtain ⟨e1, e2⟩ := edge_ends hq hs
  rw [sm_two (J_nodup q 1) e1 e2 b5 fun t ht ha hb => by
    obtain ⟨t1, t2, _⟩ := (mem_J q 1 t).1 ht
    rw [sgn_zero fun h => by
      rcases edge_only ⟨s, h1⟩ ⟨t, t1⟩ h2 t2 h.1 with e | e
      · exact ha e
      · exact hb e]
    omega]
  try dsimp only at b8 b9
  rw [b8, b9]; omega
/-- What an edge's border turned sends to 0: what is the same at both ends. -/
theorem co_edges {p : Nat} {q : Nat → Bool} (hq : Down q) (y : Nat → Int) : KerE p (J q 2) (J q 1) (fun s t => sgn t s) y ↔ Vec p (J q 1) y ∧ ∀ s ∈ J q 2, y (loP s) = y (hiP s) := by
  unfold KerE
  refine and_congr_right fun hy => forall_congr' fun s => forall_congr' fun hs => ?_
  rw [edge_sum hq hs]
  obtain ⟨e1, e2⟩ := edge_ends hq hs
  have b1 := hy.1 _ e1
  have b2 := hy.1 _ e2
  constructor
  · intro h
    have := emod_of_dvd h
    rw [Int.emod_eq_of_lt b1.1 b1.2, Int.emod_eq_of_lt b2.1 b2.2] at this
    exact this.symm
  · intro h
    rw [h]; exact ⟨0, by omega⟩
theorem co_reach {q : Nat → Bool} (hq : Down q) {y : Nat → Int} (h : ∀ s ∈ J q 2, y (loP s) = y (hiP s)) {s t : Nat} (hs : s ∈ J q 1) (ht : t ∈ J q 1) (hr : reach q s t = true) : y s = y t := by
  obtain ⟨s1, s2, _⟩ := (mem_J q 1 s).1 hs
  obtain ⟨t1, t2, _⟩ := (mem_J q 1 t).1 ht
  obtain ⟨P, hP, hc⟩ := mask_of fun u => decide (y u = y s)
  have hsh : shut q P = true := shut_iff.2 fun u hu hqu hm => by
    obtain ⟨v, v1, v2⟩ := bit_meet ⟨u, hu⟩ ⟨P, hP⟩ hm
    have hv := bit_one v
    have ea : y (2 ^ v.val) = y s := of_decide_eq_true ((hc _ hv.1 hv.2).symm.trans v2)
    refine bit_all ⟨u, hu⟩ ⟨P, hP⟩ fun z hz => ?_
    have hz1 := bit_one z
    rw [hc _ hz1.1 hz1.2]
    refine decide_eq_true ?_
    by_cases e : 2 ^ v.val = 2 ^ z.val
    · rw [← e]; exact ea
    · obtain ⟨g1, g2, g3⟩ := edge_of ⟨2 ^ v.val, hv.1⟩ ⟨2 ^ z.val, hz1.1⟩ hv.2 hz1.2 e
      try dsimp only at g1 g2 g3
      have hE : (2 ^ v.val ||| 2 ^ z.val) ∈ J q 2 := (mem_J q 2 _).2 ⟨g1, g2, hq _ u g1 hu (sub_or v1 hz) hqu⟩
      have := h _ hE
      rcases g3 with ⟨r1, r2⟩ | ⟨r1, r2⟩
      · rw [← r1, ← r2] at this; rw [← this]; exact ea
      · rw [← r1, ← r2] at this; rw [this]; exact ea
  have h1 := reach_iff.1 hr P hP hsh ((hc s s1 s2).trans (decide_eq_true rfl))
  exact (of_decide_eq_true ((hc t t1 t2).symm.trans h1)).symm
theorem edge_reach {q : Nat → Bool} {s : Nat} (hs : s ∈ J q 2) : reach q (loP s) (hiP s) = true := by
  obtain ⟨h1, h2, h3⟩ := (mem_J q 2 s).1 hs
  refine reach_iff.2 fun P hP hsh hl => ?_
  exact edge_holds ⟨s, h1⟩ ⟨P, hP⟩ h2 (shut_iff.1 hsh s h1 h3 (edge_meets ⟨s, h1⟩ ⟨P, hP⟩ h2 hl))
theorem card_parts {p : Nat} {q : Nat → Bool} (hq : Down q) : Card (KerE p (J q 2) (J q 1) fun s t => sgn t s) (p ^ partsN q) := by
  have hn : (reps q).Nodup := (J_nodup q 1).filter _
  refine (card_vec p (reps q) hn).bij (fun x s => if s ∈ J q 1 then x (rep q s) else 0) (fun y s => if s ∈ reps q then y s else 0) ?_ ?_ ?_ ?_
  · intro x hx
    refine (co_edges hq _).2 ⟨⟨fun s hs => ?_, fun s hs => if_neg hs⟩, fun s hs => ?_⟩
    · dsimp only; rw [if_pos hs]; exact hx.1 _ (rep_reps hs)
    · obtain ⟨e1, e2⟩ := edge_ends hq hs
      try dsimp only
      rw [if_pos e1, if_pos e2, rep_same e1 e2 (edge_reach hs)]
  · intro y hy
    obtain ⟨hy, _⟩ := (co_edges hq y).1 hy
    refine ⟨fun s hs => ?_, fun s hs => if_neg hs⟩
    try dsimp only; rw [if_pos hs]; exact hy.1 s (List.mem_filter.1 hs).1
  · intro x hx
    funext s
    try dsimp only
    by_cases hs : s ∈ reps q
    · obtain ⟨h1, h2⟩ := List.mem_filter.1 hs
      rw [if_pos hs, if_pos h1, beq_iff_eq.1 h2]
    · rw [if_neg hs]; exact (hx.2 s hs).symm
  · intro y hy
    obtain ⟨hy, he⟩ := (co_edges hq y).1 hy
    funext s
    try dsimp only
    by_cases hs : s ∈ J q 1
    · obtain ⟨h1, h2⟩ := rep_spec hs
      rw [if_pos hs, if_pos (rep_reps hs), co_reach hq he hs h1 h2]
    · rw [if_neg hs]; exact (hy.2 s hs).symm
/-- HOLES OF DIMENSION 0 COUNT PARTS. -/
theorem hol_parts {p : Nat} (hP : IsP p) {q : Nat → Bool} (hq : Down q) {s : Nat} (h64 : s < 64) (hs : pc s = 1) (hqs : q s = true) : hol p q 1 = (partsN q : Int) - 1 := by
  obtain ⟨_, _, h1⟩ := rk_one hP hq h64 hs hqs
  have h2 := rk_co hP hq (k := 1) (card_parts hq)
  unfold hol
  omega

end Hom
end Go.Proofs.YtenpcjmhlnalcaaGreat

/-! PARTS, counted one after another: what is left, a part that grows. -/

namespace Go.Proofs.YtenpcjmhlnalcaaGreat
open Sets Lin

namespace Hom

/-- How many parts lie in P. -/
def cntR (q : Nat → Bool) (P : Nat) : Nat := ((reps q).filter fun s => sub s P).length

theorem sub_trans {a b c : Nat} (h : sub a b = true) (h' : sub b c = true) : sub a c = true := by
  unfold sub at *
  rw [beq_iff_eq] at *
  rw [← h, Nat.and_assoc, h']
theorem sub_both {a u P : Nat} (h0 : a ≠ 0) (h : sub a u = true) (h' : sub a P = true) : u &&& P ≠ 0 := by
  unfold sub at *
  rw [beq_iff_eq] at *
  intro e
  have : a &&& (u &&& P) = a := by rw [← Nat.and_assoc, h, h']
  rw [e] at this
  simp at this
  exact h0 this.symm
theorem off_bits : ∀ (v : Fin 6) (P C : Fin 64), sub (2 ^ v.val) (P.val - (P.val &&& C.val)) = (sub (2 ^ v.val) P.val && !sub (2 ^ v.val) C.val) := by decide +kernel
theorem one_bits : ∀ s : Fin 64, pc s.val = 1 → ∃ v : Fin 6, s.val = 2 ^ v.val := by decide +kernel
theorem two_pow_ne (v : Nat) : 2 ^ v ≠ 0 := Nat.ne_of_gt (Nat.pow_pos (by decide))
theorem point_J {q : Nat → Bool} {s : Nat} (hs : s ∈ J q 1) : ∃ v : Fin 6, s = 2 ^ v.val := by
  obtain ⟨h1, h2, _⟩ := (mem_J q 1 s).1 hs
  exact one_bits ⟨s, h1⟩ h2
theorem sub_off {P C : Nat} (hP : P < 64) (hC : C < 64) {s : Nat} (hs : ∃ v : Fin 6, s = 2 ^ v.val) : sub s (P - (P &&& C)) = (sub s P && !sub s C) := by
  obtain ⟨v, rfl⟩ := hs
  exact off_bits v ⟨P, hP⟩ ⟨C, hC⟩
theorem shut_off {q : Nat → Bool} {P C : Nat} (hP : P < 64) (hC : C < 64) (h : shut q P = true) (h' : shut q C = true) : shut q (P - (P &&& C)) = true := by
  have hD : P - (P &&& C) < 64 := by omega
  refine shut_iff.2 fun u hu hq hm => ?_
  obtain ⟨z, z1, z2⟩ := bit_meet ⟨u, hu⟩ ⟨_, hD⟩ hm
  have z3 := (sub_off hP hC ⟨z, rfl⟩).symm.trans z2
  rw [Bool.and_eq_true, Bool.not_eq_true'] at z3
  have huP := shut_iff.1 h u hu hq (sub_both (two_pow_ne _) z1 z3.1)
  refine bit_all ⟨u, hu⟩ ⟨_, hD⟩ fun y hy => ?_
  have e := sub_off hP hC (s := 2 ^ y.val) ⟨y, rfl⟩
  refine e.trans ?_
  rw [sub_trans hy huP, Bool.true_and]
  cases hc : sub (2 ^ y.val) C with
  | false => rfl
  | true =>
    have := sub_trans z1 (shut_iff.1 h' u hu hq (sub_both (two_pow_ne _) hy hc))
    rw [z3.2] at this
    cases this
theorem filter_split {α : Type} (f g : α → Bool) : ∀ l : List α, (l.filter f).length = (l.filter fun s => f s && g s).length + (l.filter fun s => f s && !g s).length
  | [] => rfl
  | s :: l => by
    have ih := filter_split f g l
    rw [List.filter_cons, List.filter_cons, List.filter_cons]
    cases f s <;> cases g s <;> simp <;> omega

/-- ONE PART LESS. C: the part of the point m. -/
theorem cntR_step {q : Nat → Bool} {P C m : Nat} (hP : P < 64) (hC : C < 64) (h : shut q P = true) (hm : m ∈ J q 1) (hmP : sub m P = true) (hr : ∀ s, s ∈ J q 1 → sub s C = reach q m s) : cntR q P = cntR q (P - (P &&& C)) + 1 := by
  have hn : (reps q).Nodup := (J_nodup q 1).filter _
  obtain ⟨r1, r2⟩ := rep_spec hm
  have hrP : sub (rep q m) P = true := reach_iff.1 r2 P hP h hmP
  have e1 : ((reps q).filter fun s => sub s P && sub s C).length = 1 := by
    have c1 : Card (fun s => s ∈ (reps q).filter fun s => sub s P && sub s C) ((reps q).filter fun s => sub s P && sub s C).length := ⟨_, hn.filter _, fun _ => Iff.rfl, rfl⟩
    have c2 : Card (fun s => s ∈ (reps q).filter fun s => sub s P && sub s C) 1 := by
      refine ⟨[rep q m], by simp, fun s => ?_, rfl⟩
      rw [List.mem_singleton]
      show s = rep q m ↔ s ∈ (reps q).filter fun s => sub s P && sub s C
      rw [List.mem_filter, Bool.and_eq_true]
      constructor
      · rintro rfl
        exact ⟨rep_reps hm, hrP, (hr _ r1).trans r2⟩
      · rintro ⟨hs, _, hsC⟩
        obtain ⟨s1, s2⟩ := List.mem_filter.1 hs
        rw [hr s s1] at hsC
        rw [rep_same hm s1 hsC]
        exact (beq_iff_eq.1 s2).symm
    exact c1.unique c2
  have e2 : (reps q).filter (fun s => sub s P && !sub s C) = (reps q).filter fun s => sub s (P - (P &&& C)) := List.filter_congr fun s hs => (sub_off hP hC (point_J (List.mem_filter.1 hs).1)).symm
  unfold cntR
  rw [filter_split (fun s => sub s P) (fun s => sub s C), e1, e2]
  omega
theorem cntR_all {q : Nat → Bool} {P : Nat} (h : ∀ s, s ∈ J q 1 → sub s P = true) : cntR q P = partsN q := by
  have e : (reps q).filter (fun s => sub s P) = reps q := List.filter_eq_self.2 fun s hs => h s (List.mem_filter.1 hs).1
  unfold cntR partsN
  rw [e]
theorem cntR_none (q : Nat → Bool) : cntR q 0 = 0 := by
  have e : (reps q).filter (fun s => sub s 0) = [] := List.filter_eq_nil_iff.2 fun s hs h => by
    obtain ⟨v, rfl⟩ := point_J (List.mem_filter.1 hs).1
    unfold sub at h
    rw [beq_iff_eq, Nat.and_zero] at h
    exact two_pow_ne _ h.symm
  unfold cntR
  rw [e]; rfl

/-! ### a part that grows -/

/-- What has been gathered of the part of m. -/
def Grown (q : Nat → Bool) (m C : Nat) : Prop := C < 64 ∧ sub m C = true ∧ ∀ v : Fin 6, sub (2 ^ v.val) C = true → 2 ^ v.val ∈ J q 1 ∧ reach q m (2 ^ v.val) = true
theorem or_bits : ∀ (v : Fin 6) (P C : Fin 64), sub (2 ^ v.val) (P.val ||| C.val) = (sub (2 ^ v.val) P.val || sub (2 ^ v.val) C.val) := by decide +kernel
theorem or_lt : ∀ P C : Fin 64, P.val ||| C.val < 64 := by decide +kernel
theorem Grown.start {q : Nat → Bool} {m : Nat} (hm : m ∈ J q 1) : Grown q m m := by
  obtain ⟨h1, h2, _⟩ := (mem_J q 1 m).1 hm
  refine ⟨h1, by simp [sub], fun v hv => ?_⟩
  have H : ∀ (v : Fin 6) (m : Fin 64), pc m.val = 1 → sub (2 ^ v.val) m.val = true → 2 ^ v.val = m.val := by decide +kernel
  have e := H v ⟨m, h1⟩ h2 hv
  dsimp only at e
  rw [e]; exact ⟨hm, reach_refl q m⟩
/-- A face that meets what has been gathered is gathered. -/
theorem Grown.next {q : Nat → Bool} (hq : Down q) {m C N f : Nat} (hC : Grown q m C) (hN : Grown q m N) (hf : f < 64) (hqf : q f = true) (hm : f &&& C ≠ 0) : Grown q m (N ||| f) := by
  obtain ⟨z, z1, z2⟩ := bit_meet ⟨f, hf⟩ ⟨C, hC.1⟩ hm
  obtain ⟨z3, z4⟩ := hC.2.2 z z2
  refine ⟨or_lt ⟨N, hN.1⟩ ⟨f, hf⟩, ?_, fun v hv => ?_⟩
  · have := hN.2.1
    unfold sub at *
    rw [beq_iff_eq] at *
    rw [Nat.and_or_distrib_left, this]
    refine Nat.eq_of_testBit_eq fun i => ?_
    rw [Nat.testBit_or, Nat.testBit_and]
    cases m.testBit i <;> simp
  · have e := (or_bits v ⟨N, hN.1⟩ ⟨f, hf⟩).symm.trans hv
    rw [Bool.or_eq_true] at e
    rcases e with e | e
    · exact hN.2.2 v e
    · obtain ⟨b1, b2⟩ := bit_one v
      refine ⟨(mem_J q 1 _).2 ⟨b1, b2, hq _ f b1 hf e hqf⟩, reach_iff.2 fun P hP hsh hmP => ?_⟩
      exact sub_trans e (shut_iff.1 hsh f hf hqf (sub_both (two_pow_ne _) z1 (reach_iff.1 z4 P hP hsh hmP)))
/-- What grows no more is the part. -/
theorem Grown.part {q : Nat → Bool} {m C : Nat} (hC : Grown q m C) (hs : shut q C = true) : ∀ s, s ∈ J q 1 → sub s C = reach q m s := fun s hsJ => by
  cases h : reach q m s with
  | true => exact reach_iff.1 h C hC.1 hs hC.2.1
  | false =>
    cases h2 : sub s C with
    | false => rfl
    | true =>
      obtain ⟨v, rfl⟩ := point_J hsJ
      rw [(hC.2.2 v h2).2] at h
      cases h
/-- Shut by facets is shut by faces. -/
theorem shut_facets {xs : List Int} {P : Nat} (h : ∀ f, f ∈ xs → f.toNat &&& P ≠ 0 → sub f.toNat P = true) : shut (inF xs) P = true := by
  refine shut_iff.2 fun u _ hq hm => ?_
  unfold inF at hq
  obtain ⟨f, hf, hu⟩ := List.any_eq_true.1 hq
  refine sub_trans hu (h f hf fun e => hm ?_)
  unfold sub at hu
  rw [beq_iff_eq] at hu
  rw [← hu, Nat.and_assoc, e, Nat.and_zero]

end Hom
end Go.Proofs.YtenpcjmhlnalcaaGreat
