/-
  TEXTS of one claim, put together: WMatS4, WMatJ, BordLaw.
-/
import Derived.Test.YtenpcjmhlnalcaaGreatWMatIB
import Derived.Test.YtenpcjmhlnalcaaGreatJg31
import Derived.Test.YtenpcjmhlnalcaaGreatJg7
import Derived.Test.YtenpcjmhlnalcaaGreatWMatS3
import Derived.Test.YtenpcjmhlnalcaaGreatJg4
import Derived.Test.YtenpcjmhlnalcaaGreatJg28
/-! WALKS of chapter 13 (spec): BorderMatrix. -/

namespace Go.Proofs.YtenpcjmhlnalcaaGreat
open Go.RowKit
open Sets

theorem in_yes {k : Int} (h1 : 1 ≤ k) (h6 : k ≤ 6) : inB 1 6 k = true := decide_eq_true ⟨h1, h6⟩
theorem in_not {k : Int} (h : ¬(1 ≤ k ∧ k ≤ 6)) : inB 1 6 k = false := decide_eq_false h

end Go.Proofs.YtenpcjmhlnalcaaGreat

/-! Chapter 13: how great the results are; contracts as the exact laws' walks take them. -/

namespace Go.Proofs.YtenpcjmhlnalcaaGreat
open Go.RowKit
open Sets

theorem same_below {f : FuncId} {args : Array Value} {w : World} {v : Ending} (h : Calls Tryz.prog f args w fun e w' => e = v ∧ w = w') : Calls Tryz.prog f args w fun e w' => e = v ∧ Below w.heap.size w w' :=
  h.mono fun _ _ ⟨h1, h2⟩ => ⟨h1, h2 ▸ Below.refl _ _⟩
theorem rows_le {M : Lin.Mat} (h : M.length + offM M M.length ≤ 1048576) : M.length ≤ 1099511627776 ∧ ∀ i, i < M.length → (Lin.row M i).length ≤ 1099511627776 :=
  ⟨by omega, fun i hi => by have := offM_row M i hi; omega⟩
theorem turnZ_off {M : Lin.Mat} (h : M.length + offM M M.length ≤ 1048576) : (turnZ M).length ≤ 1099511627776 ∧ 1 + offM (turnZ M) (turnZ M).length ≤ 1099511627776 := by
  unfold turnZ
  split
  · have hw : Lin.wid M + M.length ≤ 1048576 := by
      rcases Nat.eq_zero_or_pos M.length with e | e
      · rw [List.eq_nil_of_length_eq_zero e]; decide
      · have : Lin.wid M ≤ offM M M.length := offM_row M 0 e
        omega
    have h1 := Lin.turnM_length (Lin.wid M) M
    have h2 := offM_same (k := M.length) (Lin.turnM (Lin.wid M) M) (fun r hr => Nat.le_of_eq (Lin.turnM_wide _ _ r hr))
    rw [h1] at h2 ⊢
    have h3 : Lin.wid M * M.length ≤ 1048576 * 1048575 := by
      rcases Nat.eq_zero_or_pos (Lin.wid M) with e | e
      · rw [e]; omega
      · exact Nat.mul_le_mul (by omega) (by omega)
    omega
  · exact ⟨by simp, by simp [offM]⟩
theorem timesZ_off (A B : Lin.Mat) : (timesZ A B).length ≤ 1099511627776 ∧ 1 + offM (timesZ A B) (timesZ A B).length ≤ 1099511627776 := by
  unfold timesZ
  split
  case isTrue h =>
    unfold timesOk fitB at h
    rw [Bool.and_eq_true, Bool.and_eq_true] at h
    obtain ⟨⟨q1, q2⟩, h⟩ := h
    rw [Bool.and_eq_true, Bool.and_eq_true] at h
    obtain ⟨⟨q3, q4⟩, -⟩ := h
    have a1 := (small_at q1 q2).1
    have b2 := (small_at q3 q4).2.1
    have h1 := Lin.timesM_length (Lin.wid B) A B
    have h2 := offM_same (k := 30) (Lin.timesM (Lin.wid B) A B) (fun r hr => by rw [Lin.timesM_wide _ _ _ r hr]; exact b2)
    rw [h1] at h2 ⊢
    omega
  · exact ⟨by simp, by simp [offM]⟩
theorem bordZ_off (n : Int) (xs : List Int) (k : Int) : (bordZ n xs k).length ≤ 1099511627776 ∧ 1 + offM (bordZ n xs k) (bordZ n xs k).length ≤ 1099511627776 := by
  unfold bordZ
  split
  · have h1 := borM_length (sized (k - 1) (faces n xs)) (sized k (faces n xs))
    have l1 := sized_le n xs (k - 1)
    have l2 := sized_le n xs k
    have h2 := offM_same (k := 64) (borM (sized (k - 1) (faces n xs)) (sized k (faces n xs))) (fun r hr => by
      unfold borM at hr
      obtain ⟨t, _, rfl⟩ := List.mem_map.1 hr
      rw [borR_length]; exact l2)
    rw [h1] at h2 ⊢
    omega
  · exact ⟨by simp, by simp [offM]⟩
theorem mb_has {f : FuncId} {args : Array Value} {w : World} {M : Lin.Mat} {b : Bool} (h : Calls Tryz.prog f args w fun e w' => ∃ v R, e = .returned (.tuple #[v, .bool b]) ∧ OwnMx w' w.heap.size v R M ∧ Below w.heap.size w w') :
    Calls Tryz.prog f args w fun e w' => ∃ v, e = .returned (.tuple #[v, .bool b]) ∧ HasMx w' w.heap.size v M ∧ Below w.heap.size w w' :=
  h.mono fun _ _ ⟨v, _, he, ho, hb⟩ => ⟨v, he, ho.has, hb⟩

end Go.Proofs.YtenpcjmhlnalcaaGreat

/-! THE PROMISE of chapter 13: the border of a border is 0; ranks do not depend on turning; a product's rank; inverses. -/

namespace Go.Proofs.YtenpcjmhlnalcaaGreat
open Go.RowKit
open Sets Lin Hom

theorem inv_of_pos {p : Nat} {a : Int} (h : 0 < inv p a) : a % (p : Int) * inv p a % (p : Int) = 1 ∧ inv p a < p := by
  unfold inv at h ⊢
  cases hf : (List.range p).filter fun b : Nat => decide (a % (p : Int) * (b : Int) % (p : Int) = 1) with
  | nil => rw [hf] at h; simp at h
  | cons b l =>
    have hm : b ∈ (List.range p).filter fun b : Nat => decide (a % (p : Int) * (b : Int) % (p : Int) = 1) := by rw [hf]; simp
    obtain ⟨h1, h2⟩ := List.mem_filter.1 hm
    exact ⟨of_decide_eq_true h2, Int.ofNat_lt.2 (List.mem_range.1 h1)⟩
theorem invZ_pos {a q : Int} (h : 0 < invZ a q) : invZ a q < q ∧ q ≤ 5 ∧ 0 < q ∧ (a * invZ a q - 1).tmod q = 0 := by
  unfold invZ at h ⊢
  by_cases hp : primeB q = true
  · rw [if_pos hp] at h ⊢
    obtain ⟨h1, h2⟩ := prime_nat hp
    obtain ⟨h3, h4⟩ := inv_of_pos h
    have hq := h2
    generalize q.toNat = p at *
    subst hq
    refine ⟨h4, by omega, by omega, ?_⟩
    rw [← Int.dvd_iff_tmod_eq_zero]
    obtain ⟨k, hk⟩ := dvd_emod_sub a (p : Int)
    obtain ⟨m, hm⟩ := dvd_emod_sub (a % (p : Int) * inv p a) (p : Int)
    rw [h3] at hm
    exact ⟨-m - k * inv p a, by grind⟩
  · rw [if_neg hp] at h; omega

theorem fitB_iff {M : Mat} : fitB M = true ↔ (∀ i, i < M.length → (row M i).length = wid M) ∧ M.length ≤ 30 ∧ wid M ≤ 30 ∧ ∀ t s, t < M.length → s < wid M → -1000 ≤ ent M t s ∧ ent M t s ≤ 1000 := by
  constructor
  · intro h
    unfold fitB at h
    rw [Bool.and_eq_true] at h
    exact ⟨rect_at h.1, small_at h.1 h.2⟩
  · rintro ⟨h1, h2, h3, h4⟩
    rw [fit_all h1 (fun _ => h3) (fun i j hi hj => by unfold farB; exact decide_eq_false (by have := h4 i j hi hj; omega))]
    exact decide_eq_true h2
theorem turnM_wid {n : Nat} {M : Mat} (h : 0 < n) : wid (turnM n M) = M.length := by
  unfold wid; rw [turnM_row n M 0 h]; simp
theorem timesM_wid {n : Nat} {A B : Mat} (h : 0 < A.length) : wid (timesM n A B) = n := by
  unfold wid; rw [timesM_row n A B 0 h]; simp

/-- Ranks do not depend on turning a matrix. -/
theorem rankZ_turn {M : Mat} {p : Int} (h : 0 < rankZ M p) : rankZ (turnZ M) p = rankZ M p := by
  unfold rankZ at h
  by_cases hc : fitB M = true ∧ primeB p = true
  · rw [if_pos hc] at h
    obtain ⟨h1, h2, h3, h4⟩ := fitB_iff.1 hc.1
    have hw : 0 < wid M := by
      rcases Nat.eq_zero_or_pos (wid M) with e | e
      · rw [e, rank_zero] at h; simp at h
      · exact e
    have hm := wid_pos hw
    have hz : turnZ M = turnM (wid M) M := if_pos (rect_yes h1)
    have hf : fitB (turnM (wid M) M) = true := by
      rw [fitB_iff, turnM_wid hw, turnM_length]
      refine ⟨fun i hi => turnM_wide _ _ _ (row_mem (by rw [turnM_length]; exact hi)), h3, h2, fun t s ht hs => ?_⟩
      rw [turnM_ent _ M t s ht hs]
      exact h4 s t hs ht
    have hP : IsP p.toNat := by
      rcases (prime_nat hc.2).1 with e | e | e <;> rw [e]
      · exact isP2
      · exact isP3
      · exact isP5
    unfold rankZ
    rw [if_pos hc, hz, if_pos ⟨hf, hc.2⟩, turnM_wid hw, rank_turn hP (fun r hr => by obtain ⟨i, hi, rfl⟩ := mem_row hr; exact h1 i hi)]
  · rw [if_neg hc] at h; omega
/-- The rank of a product modulo 3. -/
theorem rankZ_times {A B : Mat} (h : timesOk A B = true) : rankZ (timesZ A B) 3 ≤ rankZ A 3 ∨ rankZ (timesZ A B) 3 = -1 := by
  by_cases hc : fitB (timesZ A B) = true
  · left
    have hz : timesZ A B = timesM (wid B) A B := if_pos h
    unfold timesOk at h
    rw [Bool.and_eq_true, Bool.and_eq_true, Bool.and_eq_true, decide_eq_true_eq, decide_eq_true_eq] at h
    obtain ⟨hA, hB, h0, hw⟩ := h
    have h3 : primeB 3 = true := rfl
    have hm := wid_pos (M := A) (by omega)
    obtain ⟨a1, _⟩ := fitB_iff.1 hA
    unfold rankZ
    rw [if_pos ⟨hc, h3⟩, if_pos ⟨hA, h3⟩, hz, timesM_wid hm, hw]
    exact Int.ofNat_le.2 (rank_times isP3 (fun r hr => by obtain ⟨i, hi, rfl⟩ := mem_row hr; rw [a1 i hi, hw]))
  · right
    unfold rankZ
    rw [if_neg (fun h => hc h.1)]

theorem sm_range_map {α : Type} (l : List α) (d : α) (f : α → Int) : sm (List.range l.length) (fun z => f (l.getD z d)) = sm l f := by
  have : l = (List.range l.length).map fun z => l.getD z d := by
    apply List.ext_getElem (by simp)
    intro i h1 h2
    simp [List.getD, List.getElem?_eq_getElem h1]
  rw [← sm_map (fun z => l.getD z d) f, ← this]
/-- THE BORDER OF A BORDER IS 0. -/
theorem bord_bord (n : Int) (xs : List Int) (k : Int) (i j : Nat) (hi : i < (timesZ (bordZ n xs k) (bordZ n xs (k + 1))).length) : ent (timesZ (bordZ n xs k) (bordZ n xs (k + 1))) i j = 0 := by
  by_cases h : timesOk (bordZ n xs k) (bordZ n xs (k + 1)) = true
  · have hz : timesZ (bordZ n xs k) (bordZ n xs (k + 1)) = timesM (wid (bordZ n xs (k + 1))) (bordZ n xs k) (bordZ n xs (k + 1)) := if_pos h
    unfold timesOk at h
    rw [Bool.and_eq_true, Bool.and_eq_true, Bool.and_eq_true, decide_eq_true_eq, decide_eq_true_eq] at h
    obtain ⟨hA, hB, h0, hw⟩ := h
    have c1 : isC n xs = true ∧ 1 ≤ k ∧ k ≤ 6 := by
      refine Classical.byContradiction fun hn => ?_
      have : bordZ n xs k = [] := if_neg hn
      rw [this] at hw
      have e0 : wid [] = 0 := rfl
      omega
    have c2 : isC n xs = true ∧ 1 ≤ k + 1 ∧ k + 1 ≤ 6 := by
      refine Classical.byContradiction fun hn => ?_
      have : bordZ n xs (k + 1) = [] := if_neg hn
      rw [this] at h0
      simp at h0
    have e1 : bordZ n xs k = borM (sized (k - 1) (faces n xs)) (sized k (faces n xs)) := if_pos c1
    have e2 : bordZ n xs (k + 1) = borM (sized k (faces n xs)) (sized (k + 1) (faces n xs)) := by
      have : bordZ n xs (k + 1) = borM (sized (k + 1 - 1) (faces n xs)) (sized (k + 1) (faces n xs)) := if_pos c2
      rw [show k + 1 - 1 = k by omega] at this
      exact this
    obtain ⟨q, rfl⟩ : ∃ q : Nat, k = (q : Int) := ⟨k.toNat, by omega⟩
    rw [hz] at hi ⊢
    rw [timesM_length] at hi
    have hFL := sized_pc n xs ((q : Int) - 1)
    have hFM := sized_pc n xs (q : Int)
    have hFH := sized_pc n xs ((q : Int) + 1)
    have hS : sized (q : Int) (faces n xs) = (J (inF xs) q).map Int.ofNat := by rw [faces_ord c1.1, sized_ord]
    by_cases hj : j < wid (bordZ n xs ((q : Int) + 1))
    · rw [timesM_ent _ _ _ i j hi hj]
      have hwB : wid (bordZ n xs ((q : Int) + 1)) = (sized ((q : Int) + 1) (faces n xs)).length := by
        rw [e2] at h0 ⊢
        rw [borM_F, matF_length] at h0
        unfold wid
        rw [borM_F]
        exact matF_wide _ _ _ 0 h0
      rw [hwB] at hj
      rw [e1, e2]
      rw [e1, borM_length] at hi
      rw [borM_length]
      obtain ⟨t, ht, ht64, htp⟩ := hFL i hi
      obtain ⟨u, hu, hu64, hup⟩ := hFH j hj
      have hent : ∀ z, z < (sized (q : Int) (faces n xs)).length → ent (borM (sized ((q : Int) - 1) (faces n xs)) (sized (q : Int) (faces n xs))) i z * ent (borM (sized (q : Int) (faces n xs)) (sized ((q : Int) + 1) (faces n xs))) z j = Hom.sgn t ((sized (q : Int) (faces n xs)).getD z 0).toNat * Hom.sgn ((sized (q : Int) (faces n xs)).getD z 0).toNat u := fun z hz => by
        rw [borM_F, borM_F, matF_ent _ _ _ i z hi hz, matF_ent _ _ _ z j hz hj, ht, hu]
        rfl
      rw [sm_congr _ _ _ fun z hz => hent z (List.mem_range.1 hz), sm_range_map (sized (q : Int) (faces n xs)) 0 (fun s => Hom.sgn t s.toNat * Hom.sgn s.toNat u), hS, sm_map]
      have hqu : inF xs u = true := by
        have hm : (sized ((q : Int) + 1) (faces n xs)).getD j 0 ∈ faces n xs := by
          have hm2 : (sized ((q : Int) + 1) (faces n xs)).getD j 0 ∈ sized ((q : Int) + 1) (faces n xs) := by
            rw [List.getD, List.getElem?_eq_getElem hj]; exact List.getElem_mem hj
          exact (List.mem_filter.1 hm2).1
        rw [hu, faces_ord c1.1] at hm
        obtain ⟨v, hv, _, hq⟩ := (mem_ord (inF xs) _).1 hm
        rw [show u = v by omega]; exact hq
      exact border_zero (inF_down xs) t u ht64 hu64 hqu (by omega)
    · have hrow : (row (timesM (wid (bordZ n xs ((q : Int) + 1))) (bordZ n xs (q : Int)) (bordZ n xs ((q : Int) + 1))) i).length = wid (bordZ n xs ((q : Int) + 1)) := by
        rw [timesM_row _ _ _ i hi]; simp
      unfold ent
      rw [List.getD, List.getElem?_eq_none (by omega)]; rfl
  · rw [timesZ_no (by simpa using h)] at hi
    simp at hi

end Go.Proofs.YtenpcjmhlnalcaaGreat
