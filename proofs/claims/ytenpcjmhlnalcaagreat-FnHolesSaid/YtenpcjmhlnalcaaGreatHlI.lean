/-
  HOLES by ranks of borders: what impl's chapter 14 reckons is the list of holes; no holes and like a sphere by the last number; parts by the holes of dimension 0.
-/
import Derived.Test.YtenpcjmhlnalcaaGreatJg25
import Derived.Test.YtenpcjmhlnalcaaGreatJg27
import Derived.Test.YtenpcjmhlnalcaaGreatJg28
import Derived.Test.YtenpcjmhlnalcaaGreatJg37
namespace Go.Proofs.YtenpcjmhlnalcaaGreat
open Go.RowKit
open Sets Lin Hom

theorem rank_nil (p n : Nat) : Lin.rank p [] n = 0 := by
  have h : ∀ l : List Nat, l.foldl (stepM p) (([] : Mat), ([] : List Nat)) = (([] : Mat), ([] : List Nat)) := by
    intro l
    induction l with
    | nil => rfl
    | cons a l ih =>
      rw [List.foldl_cons]
      have e : stepM p (([] : Mat), ([] : List Nat)) a = (([] : Mat), ([] : List Nat)) := by
        unfold stepM
        exact if_neg (Nat.lt_irrefl 0)
      rw [e]; exact ih
  unfold Lin.rank Lin.reduce
  rw [show modM p [] = [] from rfl, h]; rfl
theorem J_all : ∀ k : Fin 7, ((List.range 64).filter fun s => pc s == k.val).length ≤ 20 := by decide +kernel
theorem J_few (q : Nat → Bool) (k : Nat) (h : k < 7) : (J q k).length ≤ 20 := by
  have e : J q k = ((List.range 64).filter fun s => pc s == k).filter q := by
    unfold J
    rw [List.filter_filter]
    exact List.filter_congr fun s _ => Bool.and_comm _ _
  rw [e]
  exact Nat.le_trans (List.length_filter_le _ _) (J_all ⟨k, h⟩)
theorem fit_nil : fitB ([] : Mat) = true := rfl
theorem rankZ_nil (p : Int) (hp : primeB p = true) : rankZ [] p = 0 := by
  unfold rankZ
  rw [if_pos ⟨fit_nil, hp⟩, rank_nil]; rfl
theorem sgn_small (t s : Nat) : -1000 ≤ Hom.sgn t s ∧ Hom.sgn t s ≤ 1000 := by
  unfold Hom.sgn
  split
  · have : (pc (s &&& (s - t - 1)) % 2 : Nat) < 2 := Nat.mod_lt _ (by decide)
    omega
  · omega
theorem rankZ_bord {p : Int} (hp : primeB p = true) {n : Int} {xs : List Int} (hC : isC n xs = true) (k : Nat) (h1 : 1 ≤ k) (h6 : k ≤ 6) : rankZ (bordZ n xs (k : Int)) p = (rkF p.toNat (faces n xs) k : Int) := by
  have e : bordZ n xs (k : Int) = borM (sized ((k : Int) - 1) (faces n xs)) (sized (k : Int) (faces n xs)) := if_pos ⟨hC, by omega, by omega⟩
  have hs1 : (sized (k : Int) (faces n xs)).length ≤ 20 := by
    rw [sized_cnt, faces_ord hC, cnt_ord]; exact J_few _ _ (by omega)
  have hs2 : (sized ((k : Int) - 1) (faces n xs)).length ≤ 20 := by
    rw [show (k : Int) - 1 = ((k - 1 : Nat) : Int) by omega, sized_cnt, faces_ord hC, cnt_ord]; exact J_few _ _ (by omega)
  unfold rkF
  rw [e]
  generalize sized ((k : Int) - 1) (faces n xs) = L at *
  generalize sized (k : Int) (faces n xs) = G at *
  unfold rankZ
  by_cases hL : L = []
  · subst hL
    rw [show borM [] G = [] from rfl, if_pos ⟨fit_nil, hp⟩, rank_nil, rank_nil]
  · have h0 : 0 < L.length := List.length_pos_iff.2 hL
    have hw : wid (borM L G) = G.length := by
      unfold wid
      exact borM_wide L G _ (row_mem (by rw [borM_length]; exact h0))
    have hf : fitB (borM L G) = true := by
      rw [fitB_iff, hw, borM_length]
      refine ⟨fun i hi => borM_wide L G _ (row_mem (by rw [borM_length]; exact hi)), by omega, by omega, fun t s ht hs => ?_⟩
      rw [borM_F, matF_ent _ _ _ _ _ ht hs]
      exact sgn_small _ _
    rw [if_pos ⟨hf, hp⟩, hw]
theorem bordZ_zero (n : Int) (xs : List Int) : bordZ n xs 0 = [] := if_neg (by rintro ⟨_, h, _⟩; omega)
theorem bordZ_seven (n : Int) (xs : List Int) (k : Int) (h : 7 ≤ k) : bordZ n xs k = [] := if_neg (by rintro ⟨_, _, h2⟩; omega)

/-- The rank of the border of the faces of k points. -/
def rkB (n : Int) (xs : List Int) (p : Int) (k : Nat) : Int := rankZ (bordZ n xs (k : Int)) p
theorem rkB_le (n : Int) (xs : List Int) (p : Int) (k : Nat) : -1 ≤ rkB n xs p k ∧ rkB n xs p k ≤ 64 := by
  unfold rkB rankZ
  split
  case isTrue h =>
    obtain ⟨h1, h2, h3, _⟩ := fitB_iff.1 h.1
    have := rank_le_cols (primeH_nat h.2).1 (M := bordZ n xs (k : Int)) (n := wid (bordZ n xs (k : Int))) (fun r hr => by obtain ⟨i, hi, rfl⟩ := mem_row hr; exact h1 i hi)
    omega
  case isFalse h => omega
theorem isC_of_top {n : Int} {xs : List Int} (h : 0 < top (faces n xs)) : isC n xs = true := by
  cases hc : isC n xs with
  | true => rfl
  | false =>
    have : faces n xs = [] := by unfold faces; rw [if_neg (by rw [hc]; simp)]
    rw [this] at h
    exact absurd h (by decide)
theorem holF_at (p : Nat) (F : List Int) (m k : Nat) (h : k < m) : (holF p F m).getD k 0 = (cnt k F : Int) - (loR p F k : Int) - (hiR p F k : Int) := by
  simp [holF, List.getD, h]
/-- What impl reckons. -/
theorem hol_step {p : Int} (hp : primeB p = true) {n : Int} {xs : List Int} {k : Nat} (h : k < top (faces n xs)) : (holZ n xs p).getD k 0 = (counts (faces n xs)).getD k 0 - (rkB n xs p k + rkB n xs p (k + 1)) := by
  have hC := isC_of_top (n := n) (xs := xs) (by omega)
  have h7 := top_le (faces n xs)
  have hpp := (primeH_nat hp).1
  rw [holZ_yes hp, holF_at _ _ _ _ h, counts_at _ _ h]
  have e1 : rkB n xs p k = (loR p.toNat (faces n xs) k : Int) := by
    unfold rkB loR
    by_cases hk : k = 0
    · subst hk
      rw [show ((0 : Nat) : Int) = 0 from rfl, bordZ_zero, rankZ_nil p hp, if_pos rfl]; rfl
    · rw [if_neg hk, rankZ_bord hp hC k (by omega) (by omega)]
  have e2 : rkB n xs p (k + 1) = (hiR p.toNat (faces n xs) k : Int) := by
    unfold rkB hiR
    by_cases hk : k + 1 < top (faces n xs)
    · rw [if_pos hk, rankZ_bord hp hC (k + 1) (by omega) (by omega)]
    · rw [if_neg hk]
      by_cases h6 : k + 1 ≤ 6
      · rw [rankZ_bord hp hC (k + 1) (by omega) h6]
        have h1 := rank_le_cols hpp (borM_wide (sized (((k + 1 : Nat) : Int) - 1) (faces n xs)) (sized ((k + 1 : Nat) : Int) (faces n xs)))
        rw [sized_cnt, ge_top (faces n xs) (k + 1) (by omega)] at h1
        unfold rkF
        rw [sized_cnt, ge_top (faces n xs) (k + 1) (by omega)]
        omega
      · rw [bordZ_seven n xs _ (by omega), rankZ_nil p hp]; rfl
  rw [e1, e2]; omega
theorem holZ_len (n : Int) (xs : List Int) {p : Int} (hp : primeB p = true) : (holZ n xs p).length = top (faces n xs) := by rw [holZ_yes hp, holF_length]
theorem primeH_P {p : Int} (h : primeB p = true) : IsP p.toNat := by
  rcases (primeH_nat h).1 with e | e | e <;> rw [e]
  · exact isP2
  · exact isP3
  · exact isP5
theorem holZ_holL {p : Int} (hp : primeB p = true) {n : Int} {xs : List Int} (hC : isC n xs = true) : holZ n xs p = holL p.toNat n xs := by
  rw [holZ_yes hp, holF_holL (primeH_P hp) hC]
/-- No number of holes is less than 0. -/
theorem holZ_pos (n : Int) (xs : List Int) (p : Int) (k : Nat) (h : k < (holZ n xs p).length) : 0 ≤ (holZ n xs p).getD k 0 := by
  cases hp : primeB p with
  | false => rw [holZ_no hp] at h; exact absurd h (Nat.not_lt_zero _)
  | true =>
    have hC := isC_of_top (n := n) (xs := xs) (by rw [← holZ_len n xs hp]; omega)
    rw [holZ_holL hp hC] at h ⊢
    exact holL_pos (primeH_P hp) n xs k h

/-! ### no holes, like a sphere -/

theorem tot_pos (L : List Int) (hL : ∀ k, k < L.length → 0 ≤ L.getD k 0) : ∀ k, k ≤ L.length → 0 ≤ tot (L.take k) ∧ (tot (L.take k) = 0 ↔ ∀ j, j < k → L.getD j 0 = 0)
  | 0, _ => by
    refine ⟨by simp [tot], ?_, ?_⟩
    · intro _ j hj; exact absurd hj (Nat.not_lt_zero _)
    · intro _; simp [tot]
  | k + 1, hk => by
    obtain ⟨h1, h2⟩ := tot_pos L hL k (by omega)
    have h3 := hL k (by omega)
    rw [tot_take L k (by omega)]
    refine ⟨by omega, fun h j hj => ?_, fun h => ?_⟩
    · by_cases e : j = k
      · subst e; omega
      · exact h2.1 (by omega) j (by omega)
    · have := h2.2 fun j hj => h j (by omega)
      have := h k (by omega)
      omega
/-- The list of m + 1 numbers that are 0 up to the last one. -/
def lastL (m : Nat) (z : Int) : List Int := (List.replicate (m + 1) 0).set m z
theorem lastL_iff (L : List Int) (m : Nat) (z : Int) (hm : L.length = m + 1) : L = lastL m z ↔ (L.getD m 0 = z ∧ ∀ j, j < m → L.getD j 0 = 0) := by
  unfold lastL
  constructor
  · intro h
    rw [h]
    refine ⟨by simp [List.getD], fun j hj => ?_⟩
    simp [List.getD, show ¬m = j by omega, show j < m + 1 by omega]
  · rintro ⟨h1, h2⟩
    apply List.ext_getElem (by simp [hm])
    intro i hi1 hi2
    have e : L[i] = L.getD i 0 := by simp [List.getD, List.getElem?_eq_getElem hi1]
    rw [e, List.getElem_set]
    by_cases hi : m = i
    · subst hi; rw [if_pos rfl]; exact h1
    · rw [if_neg hi, h2 i (by omega)]; simp
/-- impl's question. -/
def topB (L : List Int) (z : Int) : Bool := decide (0 < L.length) && decide (L = lastL (L.length - 1) z)
theorem none_top (L : List Int) (hL : ∀ k, k < L.length → 0 ≤ L.getD k 0) : noneZ L = topB L 0 := by
  unfold noneZ topB
  by_cases h0 : 0 < L.length
  · obtain ⟨m, hm⟩ : ∃ m, L.length = m + 1 := ⟨L.length - 1, by omega⟩
    have h1 := (tot_pos L hL L.length (Nat.le_refl _)).2
    rw [List.take_length] at h1
    rw [hm, Nat.add_sub_cancel]
    congr 1
    rw [decide_eq_decide, lastL_iff L m 0 hm, h1, hm]
    constructor
    · intro h; exact ⟨h m (by omega), fun j hj => h j (by omega)⟩
    · rintro ⟨ha, hb⟩ j hj
      by_cases e : j = m
      · subst e; exact ha
      · exact hb j (by omega)
  · rw [decide_eq_false h0, Bool.false_and, Bool.false_and]
theorem sphere_top (L : List Int) (hL : ∀ k, k < L.length → 0 ≤ L.getD k 0) : sphereZ L = topB L 1 := by
  unfold sphereZ topB
  by_cases h0 : 0 < L.length
  · obtain ⟨m, hm⟩ : ∃ m, L.length = m + 1 := ⟨L.length - 1, by omega⟩
    have h1 := tot_pos L hL m (by omega)
    have h2 := tot_take L m (by omega)
    rw [show m + 1 = L.length from hm.symm, List.take_length] at h2
    rw [hm, Nat.add_sub_cancel]
    congr 1
    rw [← Bool.decide_and, decide_eq_decide, lastL_iff L m 1 hm, h2, ← h1.2]
    constructor
    · rintro ⟨ha, hb⟩; exact ⟨ha, by omega⟩
    · rintro ⟨ha, hb⟩; exact ⟨ha, by omega⟩
  · rw [decide_eq_false h0, Bool.false_and, Bool.false_and]

/-! ### parts -/

theorem parts_none {q : Nat → Bool} (h : top (ord q) ≤ 1) : partsN q = 0 := by
  have hJ : J q 1 = [] := by
    have h1 := cnt_ord q 1
    rw [ge_top _ _ h] at h1
    exact List.eq_nil_of_length_eq_zero h1.symm
  unfold partsN reps
  rw [hJ]; rfl
theorem prime_two : primeB 2 = true := rfl
/-- impl's count of parts. -/
theorem parts_hol (n : Int) (xs : List Int) : partsZ n xs = if 1 < (holZ n xs 2).length then (holZ n xs 2).getD 1 0 + 1 else 0 := by
  rw [holZ_len n xs prime_two]
  cases hC : isC n xs with
  | false =>
    rw [partsZ_no hC, if_neg]
    have : faces n xs = [] := by unfold faces; rw [if_neg (by rw [hC]; simp)]
    rw [this]; decide
  | true =>
    rw [partsZ_yes hC, holZ_holL prime_two hC]
    by_cases h1 : 1 < top (faces n xs)
    · rw [if_pos h1, show (2 : Int).toNat = 2 from rfl, (holL_first isP2 hC h1).2]; omega
    · rw [if_neg h1, parts_none (by rw [← faces_ord hC]; omega)]; rfl

end Go.Proofs.YtenpcjmhlnalcaaGreat
