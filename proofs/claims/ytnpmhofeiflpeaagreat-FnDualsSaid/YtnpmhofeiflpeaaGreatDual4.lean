/-
  THE DUAL COMPLEX, of no program: the lists of holes of both.
-/
import Derived.Test.YtnpmhofeiflpeaaGreatJg13
import Derived.Test.YtnpmhofeiflpeaaGreatJg36
namespace Go.Proofs.YtnpmhofeiflpeaaGreat
open Sets Lin Hom

/-- The i-th of a list; 0 where there is none. -/
def at0 (L : List Int) (i : Int) : Int := if 0 ≤ i ∧ i < L.length then L.getD i.toNat 0 else 0
theorem fN_top {n : Int} {xs : List Int} (h : isC n xs = true) {k : Nat} (hk : top (faces n xs) ≤ k) : fN (inF xs) k = 0 := by
  unfold fN
  rw [List.length_eq_zero_iff]
  cases e : J (inF xs) k with
  | nil => rfl
  | cons s l =>
    have hs : s ∈ J (inF xs) k := by rw [e]; exact List.mem_cons_self ..
    obtain ⟨h1, h2, h3⟩ := (mem_J _ k s).1 hs
    have hm : (s : Int) ∈ faces n xs := by rw [faces_ord h, mem_ord]; exact ⟨s, rfl, h1, h3⟩
    have := top_ge _ _ hm
    rw [Int.toNat_natCast] at this
    omega
theorem hol_top {n : Int} {xs : List Int} (h : isC n xs = true) {k : Nat} (hk : top (faces n xs) ≤ k) : hol 2 (inF xs) k = 0 := by
  have h1 := fN_top h hk
  have h2 := fN_top h (k := k + 1) (by omega)
  have h3 := cyc_le isP2 (inF_down xs) k
  have h4 := cyc_le isP2 (inF_down xs) (k + 1)
  unfold hol
  omega
theorem at_hol {n : Int} {xs : List Int} (h : isC n xs = true) (k : Nat) : at0 (holF 2 (faces n xs) (top (faces n xs))) (k : Int) = hol 2 (inF xs) k := by
  rw [holF_holL isP2 h]
  unfold at0
  rw [holL_length]
  by_cases e : k < top (faces n xs)
  · rw [if_pos ⟨by omega, by omega⟩, Int.toNat_natCast]
    unfold holL
    rw [List.getD, List.getElem?_eq_getElem (by simpa using e)]
    simp
  · rw [if_neg (by omega), hol_top h (by omega)]
theorem full_none (m : Nat) (hm : m ≤ 6) : fN (Hom.full m) (m + 1) = 0 := by
  have : ∀ m : Fin 7, fN (Hom.full m.val) (m.val + 1) = 0 := by decide +kernel
  exact this ⟨m, by omega⟩
/-- Holes of both belong together. -/
theorem dual_at {n : Int} {xs : List Int} (h : isC n xs = true) {D : List Int} (hD : D = maxQ (dualQ n.toNat (inF xs))) (k : Nat) (hk : (k : Int) ≤ n) :
    at0 (holF 2 (faces n xs) (top (faces n xs))) (k : Int) = at0 (holF 2 (faces n D) (top (faces n D))) (n - 1 - (k : Int)) := by
  have hd := dual_isC h
  have hlow := inF_lowZ h
  rw [← hD] at hd
  rw [at_hol h]
  obtain ⟨m, rfl, h1, h2⟩ := isC_cast h
  rw [Int.toNat_natCast] at hD hlow
  obtain ⟨j, rfl⟩ : ∃ j, m = j + 1 := ⟨m - 1, by omega⟩
  have hdq : ∀ i, hol 2 (inF D) i = hol 2 (dualQ (j + 1) (inF xs)) i := fun i => by
    rw [hD]; exact hol_congr (fun s hs => inF_maxQ _ (dualQ_down (by omega) (inF_down xs)) s hs) 2 i
  by_cases e : k = j + 1
  · subst e
    have h3 := dual_rk (n := j) (by omega) hlow (inF_down xs) (k := j + 1) (by omega)
    rw [Nat.sub_self, show rk 2 (dualQ (j + 1) (inF xs)) 0 = 0 from rfl] at h3
    have h4 := full_none (j + 1) (by omega)
    have h5 := cyc_le isP2 (full_down (j + 1)) (j + 1 + 1)
    have h6 := full_count hlow (j + 1 + 1)
    have h7 := cyc_le isP2 (inF_down xs) (j + 1 + 1)
    have e0 : hol 2 (inF xs) (j + 1) = 0 := by unfold hol; omega
    rw [e0]
    unfold at0
    rw [if_neg (by omega)]
  · rw [dual_hol (n := j) (by omega) hlow (inF_down xs) (k := k) (by omega), ← hdq, ← at_hol hd]
    congr 1
    omega
theorem sized_len {n : Int} {xs : List Int} (h : isC n xs = true) (k : Nat) : (sized (k : Int) (faces n xs)).length = fN (inF xs) k := by
  rw [faces_ord h, sized_ord, List.length_map]; rfl
/-- Faces of both count the sets. -/
theorem dual_sized {n : Int} {xs : List Int} (h : isC n xs = true) {D : List Int} (hD : D = maxQ (dualQ n.toNat (inF xs))) (k : Nat) (hk : (k : Int) ≤ n) :
    (sized (k : Int) (faces n xs)).length + (sized (n - (k : Int)) (faces n D)).length = chooseN n.toNat k := by
  have hd := dual_isC h
  rw [← hD] at hd
  have hn := isC_n h
  have e : n - (k : Int) = ((n.toNat - k : Nat) : Int) := by omega
  rw [e, sized_len h, sized_len hd, ← dual_count h (k := k) (by omega)]
  congr 1
  unfold fN
  rw [hD, J_congr fun s hs => inF_maxQ _ (dualQ_down (by omega) (inF_down xs)) s hs]
theorem choose_step : ∀ n i : Fin 7, i.val < n.val → chooseN n.val i.val * (n.val - i.val) / (i.val + 1) = chooseN n.val (i.val + 1) ∧ chooseN n.val i.val ≤ 20 := by decide +kernel
theorem choose_zero : ∀ n : Fin 7, chooseN n.val 0 = 1 := by decide +kernel
theorem choose_le : ∀ n k : Fin 7, chooseN n.val k.val ≤ 20 := by decide +kernel

end Go.Proofs.YtnpmhofeiflpeaaGreat
