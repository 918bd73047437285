/-
  TEXTS of one claim, put together: Hom6, BordLaw.
-/
import Derived.Test.YthjgpbcdcgagfaaJg24
import Derived.Test.YthjgpbcdcgagfaaJg23
import Derived.Test.YthjgpbcdcgagfaaJg4
/-! THE LIST OF HOLES that spec's chapter 14 makes is that of the mathematics. -/

namespace Go.Proofs.Ythjgpbcdcgagfaa
namespace Hom
open Sets Lin Join

theorem J_rises (q : Nat → Bool) (k : Nat) : Rises ((J q k).map Int.ofNat) := by
  unfold Rises
  rw [List.pairwise_map]
  have h : (J q k).Pairwise (· < ·) := List.Pairwise.filter _ List.pairwise_lt_range
  refine h.imp_of_mem fun {a b} ha hb hab => ?_
  obtain ⟨a1, a2, _⟩ := (mem_J q k a).1 ha
  obtain ⟨b1, b2, _⟩ := (mem_J q k b).1 hb
  show befZ (a : Int) (b : Int) = true
  rw [befZ_nat a b a1 b1, befN_iff]
  exact .inr ⟨by omega, hab⟩
theorem sized_ord (q : Nat → Bool) (k : Nat) : sized (k : Int) (ord q) = (J q k).map Int.ofNat := by
  refine rises_eq _ _ ?_ (J_rises q k) fun x => ?_
  · exact List.Pairwise.filter _ (ord_rises q)
  · unfold sized
    rw [List.mem_filter, List.mem_map, mem_ord]
    constructor
    · rintro ⟨⟨s, rfl, h1, h2⟩, h3⟩
      have h4 : ((pc s : Nat) : Int) = (k : Int) := by simpa using h3
      exact ⟨s, (mem_J q k s).2 ⟨h1, by omega, h2⟩, rfl⟩
    · rintro ⟨s, hs, rfl⟩
      obtain ⟨h1, h2, h3⟩ := (mem_J q k s).1 hs
      exact ⟨⟨s, rfl, h1, h3⟩, by simp [h2]⟩
theorem cnt_ord (q : Nat → Bool) (k : Nat) : cnt k (ord q) = fN q k := by
  rw [← sized_cnt, sized_ord, List.length_map]; rfl
theorem rkF_ord (p : Nat) (q : Nat → Bool) (k : Nat) : rkF p (ord q) (k + 1) = rk p q (k + 1) := by
  rw [rkF_succ]
  unfold rk
  rw [if_neg (by omega), show ((k : Int) + 1 - 1) = (k : Int) by omega, show ((k : Int) + 1) = ((k + 1 : Nat) : Int) by omega, sized_ord, sized_ord, List.length_map]
  congr 1
  unfold borM borR bdm
  rw [List.map_map]
  refine List.map_congr_left fun t _ => ?_
  rw [Function.comp_apply, List.map_map]; rfl
theorem holF_ord {p : Nat} (hP : IsP p) {q : Nat → Bool} (hq : Down q) : holF p (ord q) (top (ord q)) = (List.range (top (ord q))).map fun k => hol p q k := by
  unfold holF
  refine List.map_congr_left fun k hk => ?_
  have hk := List.mem_range.1 hk
  unfold hol
  rw [cnt_ord]
  have h1 : loR p (ord q) k = rk p q k := by
    unfold loR
    cases k with
    | zero => rfl
    | succ k => rw [if_neg (by omega), rkF_ord]
  have h2 : hiR p (ord q) k = rk p q (k + 1) := by
    unfold hiR
    by_cases e : k + 1 < top (ord q)
    · rw [if_pos e, rkF_ord]
    · rw [if_neg e]
      have := cyc_le hP hq (k + 1)
      rw [← cnt_ord, ge_top _ _ (by omega)] at this
      omega
  rw [h1, h2]
theorem holF_holL {p : Nat} (hP : IsP p) {n : Int} {xs : List Int} (h : isC n xs = true) : holF p (faces n xs) (top (faces n xs)) = holL p n xs := by
  rw [faces_ord h, holF_ord hP (inF_down xs), holL_ord p h fun _ _ => rfl]

/-! ### the cross complexes -/

def crossL (k : Nat) : List Int := if k = 1 then [1, 2] else if k = 2 then [5, 6, 9, 10] else [21, 22, 25, 26, 37, 38, 41, 42]
theorem cross_two : holF 2 (faces 2 (crossL 1)) (top (faces 2 (crossL 1))) = [0, 1] := by decide +kernel
theorem cross_four : holF 2 (faces 4 (crossL 2)) (top (faces 4 (crossL 2))) = [0, 0, 1] := by decide +kernel
theorem cross_six : holF 2 (faces 6 (crossL 3)) (top (faces 6 (crossL 3))) = [0, 0, 0, 1] := by decide +kernel

end Hom
end Go.Proofs.Ythjgpbcdcgagfaa

/-! THE PROMISE of chapter 13: the border of a border is 0; ranks do not depend on turning; a product's rank; inverses. -/

namespace Go.Proofs.Ythjgpbcdcgagfaa
open Go.RowKit
open Sets Lin Hom

theorem inv_of_pos {p : Nat} {a : Int} (h : 0 < inv p a) : a % (p : Int) * inv p a % (p : Int) = 1 ∧ inv p a < p := by
  unfold inv at h ⊢
  cases hf : (List.range p).filter fun b : Nat => decide (a % (p : Int) * (b : Int) % (p : Int) = 1) with
  | nil => rw [hf] at h; simp at h
  | cons b l =>
    have hm : b ∈ (List.range p).filter fun b : Nat => decide (a % (p : Int) * (b : Int) % (p : Int) = 1) := by rw [hf]; simp
    obtain ⟨h1, h2⟩ := List.mem_filter.1 hm
    exact ⟨of_decide_eq_true h2, Int.ofNat_lt.2 (List.mem_range.1 h1)⟩
theorem invZ_pos {a q : Int} (h : 0 < invZ a q) : invZ a q < q ∧ q ≤ 5 ∧ 0 < q ∧ (a * invZ a q - 1).tmod q = 0 := by
  unfold invZ at h ⊢
  by_cases hp : primeB q = true
  · rw [if_pos hp] at h ⊢
    obtain ⟨h1, h2⟩ := prime_nat hp
    obtain ⟨h3, h4⟩ := inv_of_pos h
    have hq := h2
    generalize q.toNat = p at *
    subst hq
    refine ⟨h4, by omega, by omega, ?_⟩
    rw [← Int.dvd_iff_tmod_eq_zero]
    obtain ⟨k, hk⟩ := dvd_emod_sub a (p : Int)
    obtain ⟨m, hm⟩ := dvd_emod_sub (a % (p : Int) * inv p a) (p : Int)
    rw [h3] at hm
    exact ⟨-m - k * inv p a, by grind⟩
  · rw [if_neg hp] at h; omega

theorem fitB_iff {M : Mat} : fitB M = true ↔ (∀ i, i < M.length → (row M i).length = wid M) ∧ M.length ≤ 30 ∧ wid M ≤ 30 ∧ ∀ t s, t < M.length → s < wid M → -1000 ≤ ent M t s ∧ ent M t s ≤ 1000 := by
  constructor
  · intro h
    unfold fitB at h
    rw [Bool.and_eq_true] at h
    exact ⟨rect_at h.1, small_at h.1 h.2⟩
  · rintro ⟨h1, h2, h3, h4⟩
    rw [fit_all h1 (fun _ => h3) (fun i j hi hj => by unfold farB; exact decide_eq_false (by have := h4 i j hi hj; omega))]
    exact decide_eq_true h2
theorem turnM_wid {n : Nat} {M : Mat} (h : 0 < n) : wid (turnM n M) = M.length := by
  unfold wid; rw [turnM_row n M 0 h]; simp
theorem timesM_wid {n : Nat} {A B : Mat} (h : 0 < A.length) : wid (timesM n A B) = n := by
  unfold wid; rw [timesM_row n A B 0 h]; simp

/-- Ranks do not depend on turning a matrix. -/
theorem rankZ_turn {M : Mat} {p : Int} (h : 0 < rankZ M p) : rankZ (turnZ M) p = rankZ M p := by
  unfold rankZ at h
  by_cases hc : fitB M = true ∧ primeB p = true
  · rw [if_pos hc] at h
    obtain ⟨h1, h2, h3, h4⟩ := fitB_iff.1 hc.1
    have hw : 0 < wid M := by
      rcases Nat.eq_zero_or_pos (wid M) with e | e
      · rw [e, rank_zero] at h; simp at h
      · exact e
    have hm := wid_pos hw
    have hz : turnZ M = turnM (wid M) M := if_pos (rect_yes h1)
    have hf : fitB (turnM (wid M) M) = true := by
      rw [fitB_iff, turnM_wid hw, turnM_length]
      refine ⟨fun i hi => turnM_wide _ _ _ (row_mem (by rw [turnM_length]; exact hi)), h3, h2, fun t s ht hs => ?_⟩
      rw [turnM_ent _ M t s ht hs]
      exact h4 s t hs ht
    have hP : IsP p.toNat := by
      rcases (prime_nat hc.2).1 with e | e | e <;> rw [e]
      · exact isP2
      · exact isP3
      · exact isP5
    unfold rankZ
    rw [if_pos hc, hz, if_pos ⟨hf, hc.2⟩, turnM_wid hw, rank_turn hP (fun r hr => by obtain ⟨i, hi, rfl⟩ := mem_row hr; exact h1 i hi)]
  · rw [if_neg hc] at h; omega
/-- The rank of a product modulo 3. -/
theorem rankZ_times {A B : Mat} (h : timesOk A B = true) : rankZ (timesZ A B) 3 ≤ rankZ A 3 ∨ rankZ (timesZ A B) 3 = -1 := by
  by_cases hc : fitB (timesZ A B) = true
  · left
    have hz : timesZ A B = timesM (wid B) A B := if_pos h
    unfold timesOk at h
    rw [Bool.and_eq_true, Bool.and_eq_true, Bool.and_eq_true, decide_eq_true_eq, decide_eq_true_eq] at h
    obtain ⟨hA, hB, h0, hw⟩ := h
    have h3 : primeB 3 = true := rfl
    have hm := wid_pos (M := A) (by omega)
    obtain ⟨a1, _⟩ := fitB_iff.1 hA
    unfold rankZ
    rw [if_pos ⟨hc, h3⟩, if_pos ⟨hA, h3⟩, hz, timesM_wid hm, hw]
    exact Int.ofNat_le.2 (rank_times isP3 (fun r hr => by obtain ⟨i, hi, rfl⟩ := mem_row hr; rw [a1 i hi, hw]))
  · right
    unfold rankZ
    rw [if_neg (fun h => hc h.1)]

theorem sm_range_map {α : Type} (l : List α) (d : α) (f : α → Int) : sm (List.range l.length) (fun z => f (l.getD z d)) = sm l f := by
  have : l = (List.range l.length).map fun z => l.getD z d := by
    apply List.ext_getElem (by simp)
    intro i h1 h2
    simp [List.getD, List.getElem?_eq_getElem h1]
  rw [← sm_map (fun z => l.getD z d) f, ← this]
/-- THE BORDER OF A BORDER IS 0. -/
theorem bord_bord (n : Int) (xs : List Int) (k : Int) (i j : Nat) (hi : i < (timesZ (bordZ n xs k) (bordZ n xs (k + 1))).length) : ent (timesZ (bordZ n xs k) (bordZ n xs (k + 1))) i j = 0 := by
  by_cases h : timesOk (bordZ n xs k) (bordZ n xs (k + 1)) = true
  · have hz : timesZ (bordZ n xs k) (bordZ n xs (k + 1)) = timesM (wid (bordZ n xs (k + 1))) (bordZ n xs k) (bordZ n xs (k + 1)) := if_pos h
    unfold timesOk at h
    rw [Bool.and_eq_true, Bool.and_eq_true, Bool.and_eq_true, decide_eq_true_eq, decide_eq_true_eq] at h
    obtain ⟨hA, hB, h0, hw⟩ := h
    have c1 : isC n xs = true ∧ 1 ≤ k ∧ k ≤ 6 := by
      refine Classical.byContradiction fun hn => ?_
      have : bordZ n xs k = [] := if_neg hn
      rw [this] at hw
      have e0 : wid [] = 0 := rfl
      omega
    have c2 : isC n xs = true ∧ 1 ≤ k + 1 ∧ k + 1 ≤ 6 := by
      refine Classical.byContradiction fun hn => ?_
      have : bordZ n xs (k + 1) = [] := if_neg hn
      rw [this] at h0
      simp at h0
    have e1 : bordZ n xs k = borM (sized (k - 1) (faces n xs)) (sized k (faces n xs)) := if_pos c1
    have e2 : bordZ n xs (k + 1) = borM (sized k (faces n xs)) (sized (k + 1) (faces n xs)) := by
      have : bordZ n xs (k + 1) = borM (sized (k + 1 - 1) (faces n xs)) (sized (k + 1) (faces n xs)) := if_pos c2
      rw [show k + 1 - 1 = k by omega] at this
      exact this
    obtain ⟨q, rfl⟩ : ∃ q : Nat, k = (q : Int) := ⟨k.toNat, by omega⟩
    rw [hz] at hi ⊢
    rw [timesM_length] at hi
    have hFL := sized_pc n xs ((q : Int) - 1)
    have hFM := sized_pc n xs (q : Int)
    have hFH := sized_pc n xs ((q : Int) + 1)
    have hS : sized (q : Int) (faces n xs) = (J (inF xs) q).map Int.ofNat := by rw [faces_ord c1.1, sized_ord]
    by_cases hj : j < wid (bordZ n xs ((q : Int) + 1))
    · rw [timesM_ent _ _ _ i j hi hj]
      have hwB : wid (bordZ n xs ((q : Int) + 1)) = (sized ((q : Int) + 1) (faces n xs)).length := by
        rw [e2] at h0 ⊢
        rw [borM_F, matF_length] at h0
        unfold wid
        rw [borM_F]
        exact matF_wide _ _ _ 0 h0
      rw [hwB] at hj
      rw [e1, e2]
      rw [e1, borM_length] at hi
      rw [borM_length]
      obtain ⟨t, ht, ht64, htp⟩ := hFL i hi
      obtain ⟨u, hu, hu64, hup⟩ := hFH j hj
      have hent : ∀ z, z < (sized (q : Int) (faces n xs)).length → ent (borM (sized ((q : Int) - 1) (faces n xs)) (sized (q : Int) (faces n xs))) i z * ent (borM (sized (q : Int) (faces n xs)) (sized ((q : Int) + 1) (faces n xs))) z j = sgn t ((sized (q : Int) (faces n xs)).getD z 0).toNat * sgn ((sized (q : Int) (faces n xs)).getD z 0).toNat u := fun z hz => by
        rw [borM_F, borM_F, matF_ent _ _ _ i z hi hz, matF_ent _ _ _ z j hz hj, ht, hu]
        rfl
      rw [sm_congr _ _ _ fun z hz => hent z (List.mem_range.1 hz), sm_range_map (sized (q : Int) (faces n xs)) 0 (fun s => sgn t s.toNat * sgn s.toNat u), hS, sm_map]
      have hqu : inF xs u = true := by
        have hm : (sized ((q : Int) + 1) (faces n xs)).getD j 0 ∈ faces n xs := by
          have hm2 : (sized ((q : Int) + 1) (faces n xs)).getD j 0 ∈ sized ((q : Int) + 1) (faces n xs) := by
            rw [List.getD, List.getElem?_eq_getElem hj]; exact List.getElem_mem hj
          exact (List.mem_filter.1 hm2).1
        rw [hu, faces_ord c1.1] at hm
        obtain ⟨v, hv, _, hq⟩ := (mem_ord (inF xs) _).1 hm
        rw [show u = v by omega]; exact hq
      exact border_zero (inF_down xs) t u ht64 hu64 hqu (by omega)
    · have hrow : (row (timesM (wid (bordZ n xs ((q : Int) + 1))) (bordZ n xs (q : Int)) (bordZ n xs ((q : Int) + 1))) i).length = wid (bordZ n xs ((q : Int) + 1)) := by
        rw [timesM_row _ _ _ i hi]; simp
      unfold ent
      rw [List.getD, List.getElem?_eq_none (by omega)]; rfl
  · rw [timesZ_no (by simpa using h)] at hi
    simp at hi

end Go.Proofs.Ythjgpbcdcgagfaa
