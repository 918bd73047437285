/-
  TEXTS of one claim, put together: Hom6, Nam6.
-/
import Derived.Test.YtbkkdgmiokdbmaaGreatJg5
import Derived.Test.YtbkkdgmiokdbmaaGreatJg42
import Derived.Test.YtbkkdgmiokdbmaaGreatJg6
/-! THE LIST OF HOLES that spec's chapter 14 makes is that of the mathematics. -/

namespace Go.Proofs.YtbkkdgmiokdbmaaGreat
namespace Hom
open Sets Lin Join

theorem J_rises (q : Nat → Bool) (k : Nat) : Rises ((J q k).map Int.ofNat) := by
  unfold Rises
  rw [List.pairwise_map]
  have h : (J q k).Pairwise (· < ·) := List.Pairwise.filter _ List.pairwise_lt_range
  refine h.imp_of_mem fun {a b} ha hb hab => ?_
  obtain ⟨a1, a2, _⟩ := (mem_J q k a).1 ha
  obtain ⟨b1, b2, _⟩ := (mem_J q k b).1 hb
  show befZ (a : Int) (b : Int) = true
  rw [befZ_nat a b a1 b1, befN_iff]
  exact .inr ⟨by omega, hab⟩
theorem sized_ord (q : Nat → Bool) (k : Nat) : sized (k : Int) (ord q) = (J q k).map Int.ofNat := by
  refine rises_eq _ _ ?_ (J_rises q k) fun x => ?_
  · exact List.Pairwise.filter _ (ord_rises q)
  · unfold sized
    rw [List.mem_filter, List.mem_map, mem_ord]
    constructor
    · rintro ⟨⟨s, rfl, h1, h2⟩, h3⟩
      have h4 : ((pc s : Nat) : Int) = (k : Int) := by simpa using h3
      exact ⟨s, (mem_J q k s).2 ⟨h1, by omega, h2⟩, rfl⟩
    · rintro ⟨s, hs, rfl⟩
      obtain ⟨h1, h2, h3⟩ := (mem_J q k s).1 hs
      exact ⟨⟨s, rfl, h1, h3⟩, by simp [h2]⟩
theorem cnt_ord (q : Nat → Bool) (k : Nat) : cnt k (ord q) = fN q k := by
  rw [← sized_cnt, sized_ord, List.length_map]; rfl
theorem rkF_ord (p : Nat) (q : Nat → Bool) (k : Nat) : rkF p (ord q) (k + 1) = rk p q (k + 1) := by
  rw [rkF_succ]
  unfold rk
  rw [if_neg (by omega), show ((k : Int) + 1 - 1) = (k : Int) by omega, show ((k : Int) + 1) = ((k + 1 : Nat) : Int) by omega, sized_ord, sized_ord, List.length_map]
  congr 1
  unfold borM borR bdm
  rw [List.map_map]
  refine List.map_congr_left fun t _ => ?_
  rw [Function.comp_apply, List.map_map]; rfl
theorem holF_ord {p : Nat} (hP : IsP p) {q : Nat → Bool} (hq : Down q) : holF p (ord q) (top (ord q)) = (List.range (top (ord q))).map fun k => hol p q k := by
  unfold holF
  refine List.map_congr_left fun k hk => ?_
  have hk := List.mem_range.1 hk
  unfold hol
  rw [cnt_ord]
  have h1 : loR p (ord q) k = rk p q k := by
    unfold loR
    cases k with
    | zero => rfl
    | succ k => rw [if_neg (by omega), rkF_ord]
  have h2 : hiR p (ord q) k = rk p q (k + 1) := by
    unfold hiR
    by_cases e : k + 1 < top (ord q)
    · rw [if_pos e, rkF_ord]
    · rw [if_neg e]
      have := cyc_le hP hq (k + 1)
      rw [← cnt_ord, ge_top _ _ (by omega)] at this
      omega
  rw [h1, h2]
theorem holF_holL {p : Nat} (hP : IsP p) {n : Int} {xs : List Int} (h : isC n xs = true) : holF p (faces n xs) (top (faces n xs)) = holL p n xs := by
  rw [faces_ord h, holF_ord hP (inF_down xs), holL_ord p h fun _ _ => rfl]

/-! ### the cross complexes -/

def crossL (k : Nat) : List Int := if k = 1 then [1, 2] else if k = 2 then [5, 6, 9, 10] else [21, 22, 25, 26, 37, 38, 41, 42]
theorem cross_two : holF 2 (faces 2 (crossL 1)) (top (faces 2 (crossL 1))) = [0, 1] := by decide +kernel
theorem cross_four : holF 2 (faces 4 (crossL 2)) (top (faces 4 (crossL 2))) = [0, 0, 1] := by decide +kernel
theorem cross_six : holF 2 (faces 6 (crossL 3)) (top (faces 6 (crossL 3))) = [0, 0, 0, 1] := by decide +kernel

end Hom
end Go.Proofs.YtbkkdgmiokdbmaaGreat

/-! NAMES OF POINTS, of no program: what the law on names asks of counts, holes and classes. -/

namespace Go.Proofs.YtbkkdgmiokdbmaaGreat
open Sets Lin Hom
namespace Nam

theorem top_mono {L M : List Int} (h : ∀ k, cnt k L = cnt k M) : top L ≤ top M := top_le_of L _ fun x hx => by
  have h1 : 0 < cnt (pc x.toNat) L := List.countP_pos_iff.2 ⟨x, hx, by simp⟩
  rw [h] at h1
  obtain ⟨y, hy, e⟩ := List.countP_pos_iff.1 h1
  have h2 := top_ge M y hy
  have e2 : pc y.toNat = pc x.toNat := by simpa using e
  omega
theorem ren_cnt {n : Nat} {ns : List Nat} (h : Names n ns) {xs : List Int} (hc : isC n xs = true) (k : Nat) : cnt k (faces n (renL ns xs)) = cnt k (faces n xs) := by
  rw [faces_ord (renL_isC h hc), faces_ord hc, cnt_ord, cnt_ord, renL_fN h hc]
theorem ren_top {n : Nat} {ns : List Nat} (h : Names n ns) {xs : List Int} (hc : isC n xs = true) : top (faces n (renL ns xs)) = top (faces n xs) :=
  Nat.le_antisymm (top_mono (ren_cnt h hc)) (top_mono fun k => (ren_cnt h hc k).symm)
theorem ren_counts {n : Nat} {ns : List Nat} (h : Names n ns) {xs : List Int} (hc : isC n xs = true) : counts (faces n (renL ns xs)) = counts (faces n xs) := by
  unfold counts
  rw [ren_top h hc]
  unfold cnts
  rw [show (List.range 7).map (fun k => (cnt k (faces n (renL ns xs)) : Int)) = (List.range 7).map (fun k => (cnt k (faces n xs) : Int)) from List.map_congr_left fun k _ => by rw [ren_cnt h hc]]
theorem ren_holF {n : Nat} {ns : List Nat} (h : Names n ns) {xs : List Int} (hc : isC n xs = true) : holF 3 (faces n (renL ns xs)) (top (faces n (renL ns xs))) = holF 3 (faces n xs) (top (faces n xs)) := by
  rw [holF_holL isP3 (renL_isC h hc), holF_holL isP3 hc]
  unfold holL
  rw [ren_top h hc]
  exact List.map_congr_left fun k _ => renL_hol isP3 h hc k
/-- A complex renamed: the counts and the holes are as they were. -/
theorem renCO_same {n : Int} {fs xs : List Int} (h : (renCO n fs xs).isSome = true) : counts (faces (oN (renCO n fs xs)) (oL (renCO n fs xs))) = counts (faces n fs) ∧ holF 3 (faces (oN (renCO n fs xs)) (oL (renCO n fs xs))) (top (faces (oN (renCO n fs xs)) (oL (renCO n fs xs)))) = holF 3 (faces n fs) (top (faces n fs)) := by
  unfold renCO at h ⊢
  by_cases e : isC n fs = true ∧ nmsB n xs = true
  · rw [if_pos e]
    obtain ⟨m, rfl, _, _⟩ : ∃ m : Nat, n = (m : Int) ∧ 1 ≤ m ∧ m ≤ 6 := ⟨n.toNat, by have := isC_n e.1; omega, by have := isC_n e.1; omega, by have := isC_n e.1; omega⟩
    have hN := (nms_names e.2).2.2.2.1
    rw [Int.toNat_natCast] at hN
    exact ⟨ren_counts hN e.1, ren_holF hN e.1⟩
  · rw [if_neg e] at h; cases h

/-- One class more. -/
theorem cls_step {m : Nat} {xs : List Int} (hc : isC m xs = true) {k : Nat} (hk : k < (classes m xs).length) :
    ∃ t : Nat, (classes m xs).getD k 0 = (t : Int) ∧ t < 64 ∧ 0 < pc t ∧ sumC (classes m xs) k < 64 ∧ sumC (classes m xs) k &&& t = 0 ∧ (symL m xs).length % pc t = 0 ∧ sumC (classes m xs) (k + 1) = sumC (classes m xs) k + t ∧ sumC (classes m xs) k + t < 64 := by
  have hm : (classes m xs).getD k 0 ∈ classes m xs := by rw [List.getD, List.getElem?_eq_getElem hk]; exact List.getElem_mem _
  obtain ⟨i, hi, _, e⟩ := (mem_classes _).1 hm
  have h1 := classes_lt hc _ hm
  have h2 := classes_next hc hk
  have h3 := class_dvd hc hk
  have h4 := sumC_next (classes m xs) k hk
  obtain ⟨h5, _⟩ := sumC_bits (classes_lt hc) (classes_apart hc) k (by omega)
  obtain ⟨h6, _⟩ := sumC_bits (classes_lt hc) (classes_apart hc) (k + 1) (by omega)
  have h7 := sym_pos hc
  rw [e, Int.toNat_natCast] at h1 h2 h3 h4
  refine ⟨orb m xs i, e, h1, ?_, h5, h2, h3, h4, by omega⟩
  rcases Nat.eq_zero_or_pos (pc (orb m xs i)) with h | h
  · rw [h, Nat.mod_zero] at h3; omega
  · exact h

end Nam
end Go.Proofs.YtbkkdgmiokdbmaaGreat
