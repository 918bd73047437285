/-
  TEXTS of one claim, put together: Hom5, Hom6, HlD, MatRank.
-/
import Derived.Test.YtenpcjmhlnalcaaGreatJg26
import Derived.Test.YtenpcjmhlnalcaaGreatJg27
import Derived.Test.YtenpcjmhlnalcaaGreatJg7
import Derived.Test.YtenpcjmhlnalcaaGreatWHol
import Derived.Test.YtenpcjmhlnalcaaGreatJg22
import Derived.Test.YtenpcjmhlnalcaaGreatJg4
/-! THE LIST OF HOLES, of no program: cones, suspensions, cross complexes. -/

namespace Go.Proofs.YtenpcjmhlnalcaaGreat
namespace Hom
open Sets Lin Join

theorem J_congr {q r : Nat → Bool} (h : ∀ s, s < 64 → q s = r s) (k : Nat) : J q k = J r k := List.filter_congr fun s hs => by rw [h s (List.mem_range.1 hs)]
theorem rk_congr {q r : Nat → Bool} (h : ∀ s, s < 64 → q s = r s) (p k : Nat) : rk p q k = rk p r k := by unfold rk bdm; rw [J_congr h, J_congr h]
theorem hol_congr {q r : Nat → Bool} (h : ∀ s, s < 64 → q s = r s) (p k : Nat) : hol p q k = hol p r k := by unfold hol fN; rw [J_congr h, rk_congr h, rk_congr h]

/-- The holes of a complex by size. -/
def holL (p : Nat) (n : Int) (xs : List Int) : List Int := (List.range (top (faces n xs))).map fun k => hol p (inF xs) k
theorem holL_length (p : Nat) (n : Int) (xs : List Int) : (holL p n xs).length = top (faces n xs) := by unfold holL; rw [List.length_map, List.length_range]
theorem faces_ord {n : Int} {xs : List Int} (h : isC n xs = true) : faces n xs = ord (inF xs) := by unfold faces; rw [if_pos h]
theorem holL_ord (p : Nat) {n : Int} {xs : List Int} (h : isC n xs = true) {q : Nat → Bool} (hq : ∀ s, s < 64 → inF xs s = q s) : holL p n xs = (List.range (top (ord q))).map fun k => hol p q k := by
  unfold holL
  rw [faces_ord h, ord_congr hq]
  exact List.map_congr_left fun k _ => hol_congr hq p k

theorem joinQ_one {n : Nat} {q : Nat → Bool} (hq : Low n q) (s : Nat) (hs : s < 64) : joinQ n q (inF [1]) s = addQ n q q s := by
  have h2 := Nat.two_pow_pos n
  have f0 : inF [1] 0 = true := by decide
  have f1 : inF [1] 1 = true := by decide
  have f2 : ∀ t, 2 ≤ t → inF [1] t = false := fun t ht => by
    rw [Bool.eq_false_iff]; intro h
    obtain ⟨f, hf, hs⟩ := (inF_iff _ _).1 h
    rw [List.mem_singleton.1 hf] at hs
    have := sub_le hs; simp at this; omega
  unfold joinQ
  by_cases e : s < 2 ^ n
  · rw [addQ_lo e, Nat.mod_eq_of_lt e, Nat.div_eq_of_lt e, f0, Bool.and_true]
  · obtain ⟨t, rfl⟩ : ∃ t, s = 2 ^ n + t := ⟨s - 2 ^ n, by omega⟩
    rw [addQ_hi, Nat.add_mod_left, Nat.add_div_left _ h2]
    by_cases e2 : t < 2 ^ n
    · rw [Nat.mod_eq_of_lt e2, Nat.div_eq_of_lt e2, f1, Bool.and_true]
    · rw [f2 _ (by have := (Nat.one_le_div_iff h2).2 (Nat.le_of_not_lt e2); omega), Bool.and_false, low_false hq (by omega) (by omega)]

theorem joinQ_two {n : Nat} {q : Nat → Bool} (hq : Low n q) (s : Nat) (hs : s < 64) : joinQ n q (inF [1, 2]) s = suspQ n q s := by
  have h2 := Nat.two_pow_pos n
  have h3 := pow_two n
  have f0 : inF [1, 2] 0 = true := by decide
  have f1 : inF [1, 2] 1 = true := by decide
  have f2 : inF [1, 2] 2 = true := by decide
  have f3 : ∀ t, 3 ≤ t → inF [1, 2] t = false := fun t ht => by
    rw [Bool.eq_false_iff]; intro h
    obtain ⟨f, hf, hs⟩ := (inF_iff _ _).1 h
    rcases List.mem_cons.1 hf with rfl | hf
    · have := sub_le hs; simp at this; omega
    · rw [List.mem_singleton.1 hf] at hs
      have := sub_le hs; simp at this; omega
  unfold joinQ suspQ
  by_cases e : s < 2 ^ n
  · rw [addQ_lo (by omega), addQ_lo e, Nat.mod_eq_of_lt e, Nat.div_eq_of_lt e, f0, Bool.and_true]
  · obtain ⟨t, rfl⟩ : ∃ t, s = 2 ^ n + t := ⟨s - 2 ^ n, by omega⟩
    rw [Nat.add_mod_left, Nat.add_div_left _ h2]
    by_cases e2 : t < 2 ^ n
    · rw [addQ_lo (by omega), addQ_hi, Nat.mod_eq_of_lt e2, Nat.div_eq_of_lt e2, f1, Bool.and_true]
    · obtain ⟨u, rfl⟩ : ∃ u, t = 2 ^ n + u := ⟨t - 2 ^ n, by omega⟩
      rw [show 2 ^ n + (2 ^ n + u) = 2 ^ (n + 1) + u by omega, addQ_hi, Nat.add_mod_left, Nat.add_div_left _ h2]
      by_cases e3 : u < 2 ^ n
      · rw [Nat.mod_eq_of_lt e3, Nat.div_eq_of_lt e3, f2, Bool.and_true]
      · rw [f3 _ (by have := (Nat.one_le_div_iff h2).2 (Nat.le_of_not_lt e3); omega), Bool.and_false, low_false hq (by omega) (by omega)]

theorem top_hit (L : List Int) (h : 0 < top L) : ∃ x, x ∈ L ∧ pc x.toNat + 1 = top L := by
  apply Classical.byContradiction
  intro hno
  have := top_le_of L (top L - 1) fun x hx => by
    have := top_ge L x hx
    have : ¬(pc x.toNat + 1 = top L) := fun e => hno ⟨x, hx, e⟩
    omega
  omega
theorem top_pos {q : Nat → Bool} (h : q 0 = true) : 0 < top (ord q) := by
  have := top_ge (ord q) 0 ((mem_ord q 0).2 ⟨0, rfl, by decide, h⟩)
  omega
theorem top_susp {n : Nat} (hn : n ≤ 4) {q : Nat → Bool} (hq : Low n q) (h0 : q 0 = true) : top (ord (suspQ n q)) = top (ord q) + 1 := by
  have h3 := pow_two n
  have h64 := pow64 (n := n + 1 + 1) (by omega)
  have h2p := Nat.two_pow_pos n
  have h4 := pow_two (n + 1)
  have ge : ∀ s, s < 64 → q s = true → pc s + 1 ≤ top (ord q) := fun s hs h => top_ge (ord q) s ((mem_ord q _).2 ⟨s, rfl, hs, h⟩)
  apply Nat.le_antisymm
  · refine top_le_of _ _ fun x hx => ?_
    obtain ⟨s, rfl, hs, hq'⟩ := (mem_ord _ x).1 hx
    show pc s + 1 ≤ _
    unfold suspQ at hq'
    by_cases e : s < 2 ^ (n + 1)
    · rw [addQ_lo e] at hq'
      by_cases e2 : s < 2 ^ n
      · rw [addQ_lo e2] at hq'
        have := ge s hs hq'; omega
      · obtain ⟨t, rfl⟩ : ∃ t, s = 2 ^ n + t := ⟨s - 2 ^ n, by omega⟩
        rw [addQ_hi] at hq'
        rw [pc_blk (by omega) (by omega)]
        have := ge t (by omega) hq'; omega
    · obtain ⟨t, rfl⟩ : ∃ t, s = 2 ^ (n + 1) + t := ⟨s - 2 ^ (n + 1), by omega⟩
      rw [addQ_hi] at hq'
      have hl := hq t (by omega) hq'
      rw [pc_blk (by omega) (by omega)]
      have := ge t (by omega) hq'; omega
  · obtain ⟨x, hx, e⟩ := top_hit (ord q) (top_pos h0)
    obtain ⟨s, rfl, hs, hqs⟩ := (mem_ord _ x).1 hx
    have hl := hq s hs hqs
    rw [← e]
    have := top_ge (ord (suspQ n q)) ((2 ^ n + s : Nat) : Int) ((mem_ord _ _).2 ⟨2 ^ n + s, rfl, by omega, by unfold suspQ; rw [addQ_lo (by omega), addQ_hi]; exact hqs⟩)
    rw [show (((2 ^ n + s : Nat) : Int)).toNat = 2 ^ n + s from rfl, pc_blk (by omega) hl] at this
    exact this

theorem range_succ_map {α : Type} (f : Nat → α) (m : Nat) : (List.range (m + 1)).map f = f 0 :: (List.range m).map fun k => f (k + 1) := by
  rw [List.range_succ_eq_map, List.map_cons, List.map_map]; rfl

theorem inF_low {n : Int} {xs : List Int} (h : isC n xs = true) : Low n.toNat (inF xs) := fun s _ hs => by
  have := inF_set h s hs
  unfold setB at this
  rw [decide_eq_true_eq] at this
  have h2 := this.2.2.2
  rw [show (2 : Int) ^ n.toNat = ((2 ^ n.toNat : Nat) : Int) by push_cast; rfl] at h2
  omega
theorem inF_zero {xs : List Int} (h : xs ≠ []) : inF xs 0 = true := by
  obtain ⟨x, l, rfl⟩ := List.exists_cons_of_ne_nil h
  exact (inF_iff _ _).2 ⟨x, List.mem_cons_self .., by unfold sub; simp⟩

/-- The cone's list of holes. -/
theorem holL_cone {p : Nat} (hP : IsP p) {n : Int} {xs : List Int} (h : isC n xs = true) (hn : n ≤ 5) (h0 : xs ≠ []) (hc : isC (n + 1) (maxQ (joinQ n.toNat (inF xs) (inF [1]))) = true) :
    0 < (holL p (n + 1) (maxQ (joinQ n.toNat (inF xs) (inF [1])))).length ∧ ∀ x, x ∈ holL p (n + 1) (maxQ (joinQ n.toNat (inF xs) (inF [1]))) → x = 0 := by
  have hn' := isC_n h
  have hl := inF_low h
  have dq := joinQ_down (n := n.toNat) (inF_down xs) (inF_down [1])
  have e : ∀ s, s < 64 → inF (maxQ (joinQ n.toNat (inF xs) (inF [1]))) s = addQ n.toNat (inF xs) (inF xs) s := fun s hs => by
    rw [inF_maxQ _ dq s hs, joinQ_one hl s hs]
  rw [holL_ord p hc e, List.length_map, List.length_range]
  refine ⟨top_pos ?_, fun x hx => ?_⟩
  · rw [addQ_lo (Nat.two_pow_pos _)]; exact inF_zero h0
  · obtain ⟨k, _, rfl⟩ := List.mem_map.1 hx
    exact cone_hol hP (by omega) hl (inF_down xs) k
/-- The suspension's list of holes. -/
theorem holL_susp {p : Nat} (hP : IsP p) {n : Int} {xs : List Int} (h : isC n xs = true) (hn : n ≤ 4) (h0 : xs ≠ []) (hc : isC (n + 2) (maxQ (joinQ n.toNat (inF xs) (inF [1, 2]))) = true) :
    holL p (n + 2) (maxQ (joinQ n.toNat (inF xs) (inF [1, 2]))) = 0 :: holL p n xs := by
  have hn' := isC_n h
  have hl := inF_low h
  have dq := joinQ_down (n := n.toNat) (inF_down xs) (inF_down [1, 2])
  have e : ∀ s, s < 64 → inF (maxQ (joinQ n.toNat (inF xs) (inF [1, 2]))) s = suspQ n.toNat (inF xs) s := fun s hs => by
    rw [inF_maxQ _ dq s hs, joinQ_two hl s hs]
  obtain ⟨k1, k2⟩ := susp_hol hP (n := n.toNat) (by omega) hl (inF_down xs)
  rw [holL_ord p hc e, holL_ord p h fun _ _ => rfl, top_susp (by omega) hl (inF_zero h0), range_succ_map, k1]
  exact congrArg _ (List.map_congr_left fun k _ => k2 k)

end Hom
end Go.Proofs.YtenpcjmhlnalcaaGreat

/-! THE LIST OF HOLES that spec's chapter 14 makes is that of the mathematics. -/

namespace Go.Proofs.YtenpcjmhlnalcaaGreat
namespace Hom
open Sets Lin Join

theorem J_rises (q : Nat → Bool) (k : Nat) : Rises ((J q k).map Int.ofNat) := by
  unfold Rises
  rw [List.pairwise_map]
  have h : (J q k).Pairwise (· < ·) := List.Pairwise.filter _ List.pairwise_lt_range
  refine h.imp_of_mem fun {a b} ha hb hab => ?_
  obtain ⟨a1, a2, _⟩ := (mem_J q k a).1 ha
  obtain ⟨b1, b2, _⟩ := (mem_J q k b).1 hb
  show befZ (a : Int) (b : Int) = true
  rw [befZ_nat a b a1 b1, befN_iff]
  exact .inr ⟨by omega, hab⟩
theorem sized_ord (q : Nat → Bool) (k : Nat) : sized (k : Int) (ord q) = (J q k).map Int.ofNat := by
  refine rises_eq _ _ ?_ (J_rises q k) fun x => ?_
  · exact List.Pairwise.filter _ (ord_rises q)
  · unfold sized
    rw [List.mem_filter, List.mem_map, mem_ord]
    constructor
    · rintro ⟨⟨s, rfl, h1, h2⟩, h3⟩
      have h4 : ((pc s : Nat) : Int) = (k : Int) := by simpa using h3
      exact ⟨s, (mem_J q k s).2 ⟨h1, by omega, h2⟩, rfl⟩
    · rintro ⟨s, hs, rfl⟩
      obtain ⟨h1, h2, h3⟩ := (mem_J q k s).1 hs
      exact ⟨⟨s, rfl, h1, h3⟩, by simp [h2]⟩
theorem cnt_ord (q : Nat → Bool) (k : Nat) : cnt k (ord q) = fN q k := by
  rw [← sized_cnt, sized_ord, List.length_map]; rfl
theorem rkF_ord (p : Nat) (q : Nat → Bool) (k : Nat) : rkF p (ord q) (k + 1) = rk p q (k + 1) := by
  rw [rkF_succ]
  unfold rk
  rw [if_neg (by omega), show ((k : Int) + 1 - 1) = (k : Int) by omega, show ((k : Int) + 1) = ((k + 1 : Nat) : Int) by omega, sized_ord, sized_ord, List.length_map]
  congr 1
  unfold borM borR bdm
  rw [List.map_map]
  refine List.map_congr_left fun t _ => ?_
  rw [Function.comp_apply, List.map_map]; rfl
theorem holF_ord {p : Nat} (hP : IsP p) {q : Nat → Bool} (hq : Down q) : holF p (ord q) (top (ord q)) = (List.range (top (ord q))).map fun k => hol p q k := by
  unfold holF
  refine List.map_congr_left fun k hk => ?_
  have hk := List.mem_range.1 hk
  unfold hol
  rw [cnt_ord]
  have h1 : loR p (ord q) k = rk p q k := by
    unfold loR
    cases k with
    | zero => rfl
    | succ k => rw [if_neg (by omega), rkF_ord]
  have h2 : hiR p (ord q) k = rk p q (k + 1) := by
    unfold hiR
    by_cases e : k + 1 < top (ord q)
    · rw [if_pos e, rkF_ord]
    · rw [if_neg e]
      have := cyc_le hP hq (k + 1)
      rw [← cnt_ord, ge_top _ _ (by omega)] at this
      omega
  rw [h1, h2]
theorem holF_holL {p : Nat} (hP : IsP p) {n : Int} {xs : List Int} (h : isC n xs = true) : holF p (faces n xs) (top (faces n xs)) = holL p n xs := by
  rw [faces_ord h, holF_ord hP (inF_down xs), holL_ord p h fun _ _ => rfl]

/-! ### the cross complexes -/

def crossL (k : Nat) : List Int := if k = 1 then [1, 2] else if k = 2 then [5, 6, 9, 10] else [21, 22, 25, 26, 37, 38, 41, 42]
theorem cross_two : holF 2 (faces 2 (crossL 1)) (top (faces 2 (crossL 1))) = [0, 1] := by decide +kernel
theorem cross_four : holF 2 (faces 4 (crossL 2)) (top (faces 4 (crossL 2))) = [0, 0, 1] := by decide +kernel
theorem cross_six : holF 2 (faces 6 (crossL 3)) (top (faces 6 (crossL 3))) = [0, 0, 0, 1] := by decide +kernel

end Hom
end Go.Proofs.YtenpcjmhlnalcaaGreat

/-! HOLES of a complex, as a list: the signed sum is the Euler number; what chapter 14's law says of them. -/

namespace Go.Proofs.YtenpcjmhlnalcaaGreat
open Sets Lin Join

namespace Hom

theorem holL_at (p : Nat) (n : Int) (xs : List Int) (k : Nat) (h : k < top (faces n xs)) : (holL p n xs).getD k 0 = hol p (inF xs) k := by
  unfold holL
  simp [List.getD, h]
theorem rk_top {p : Nat} (hP : IsP p) {q : Nat → Bool} (hq : Down q) : rk p q (top (ord q)) = 0 := by
  have h := (card_cyc hP hq (top (ord q))).2
  have hJ : J q (top (ord q)) = [] := by
    rw [List.eq_nil_iff_forall_not_mem]
    intro s hs
    obtain ⟨h1, h2, h3⟩ := (mem_J q _ s).1 hs
    have := top_ge (ord q) (s : Int) ((mem_ord q _).2 ⟨s, rfl, h1, h3⟩)
    rw [Int.toNat_natCast] at this
    omega
  rw [hJ] at h
  simpa using h
theorem sgn_off (m : Nat) (a b c d : Int) (h : d = a - b - c) : Go.Proofs.YtenpcjmhlnalcaaGreat.sgn m d = Go.Proofs.YtenpcjmhlnalcaaGreat.sgn m a - Go.Proofs.YtenpcjmhlnalcaaGreat.sgn m b + Go.Proofs.YtenpcjmhlnalcaaGreat.sgn (m + 1) c := by
  unfold Go.Proofs.YtenpcjmhlnalcaaGreat.sgn
  by_cases e : m % 2 = 1
  · rw [if_pos e, if_pos e, if_pos e, if_neg (by omega)]; omega
  · rw [if_neg e, if_neg e, if_neg e, if_pos (by omega)]; omega
theorem signed_step {p : Nat} {n : Int} {xs : List Int} (h : isC n xs = true) : ∀ m, m ≤ top (faces n xs) → ssumK (holL p n xs) m = ssumK (counts (faces n xs)) m + Go.Proofs.YtenpcjmhlnalcaaGreat.sgn m (rk p (inF xs) m : Int)
  | 0, _ => by
    have : rk p (inF xs) 0 = 0 := rfl
    rw [this]; rfl
  | m + 1, hm => by
    have ih := signed_step (p := p) h m (by omega)
    have e1 := holL_at p n xs m (by omega)
    have e2 := counts_at (faces n xs) m (by omega)
    have e3 : cnt m (faces n xs) = fN (inF xs) m := by rw [faces_ord h]; exact cnt_ord _ _
    show ssumK (holL p n xs) m + Go.Proofs.YtenpcjmhlnalcaaGreat.sgn m ((holL p n xs).getD m 0) = ssumK (counts (faces n xs)) m + Go.Proofs.YtenpcjmhlnalcaaGreat.sgn m ((counts (faces n xs)).getD m 0) + _
    rw [e1, e2, e3, ih, sgn_off m (fN (inF xs) m) (rk p (inF xs) m) (rk p (inF xs) (m + 1)) (hol p (inF xs) m) rfl]
    omega
/-- THE SIGNED SUM OF HOLES IS THE EULER NUMBER. -/
theorem holL_signed {p : Nat} (hP : IsP p) {n : Int} {xs : List Int} (h : isC n xs = true) : ssumK (holL p n xs) (holL p n xs).length = eul (faces n xs) := by
  rw [holL_length, signed_step h _ (Nat.le_refl _)]
  have e : rk p (inF xs) (top (faces n xs)) = 0 := by rw [faces_ord h]; exact rk_top hP (inF_down xs)
  rw [e, ← counts_signed, counts_length]
  unfold Go.Proofs.YtenpcjmhlnalcaaGreat.sgn
  split <;> simp

theorem bit_some : ∀ v : Fin 64, pc v.val ≠ 0 → ∃ z : Fin 6, sub (2 ^ z.val) v.val = true := by decide +kernel
theorem point_of_top {n : Int} {xs : List Int} (h : isC n xs = true) (h1 : 1 < top (faces n xs)) : ∃ s, s < 64 ∧ pc s = 1 ∧ inF xs s = true := by
  obtain ⟨x, hx, ht⟩ := top_hit (faces n xs) (by omega)
  rw [faces_ord h] at hx
  obtain ⟨v, rfl, hv, hq⟩ := (mem_ord _ _).1 hx
  rw [Int.toNat_natCast] at ht
  obtain ⟨z, hz⟩ := bit_some ⟨v, hv⟩ (by show pc v ≠ 0; omega)
  obtain ⟨b1, b2⟩ := bit_one z
  exact ⟨_, b1, b2, inF_down xs _ v b1 hv hz hq⟩
theorem holL_first {p : Nat} (hP : IsP p) {n : Int} {xs : List Int} (h : isC n xs = true) (h1 : 1 < top (faces n xs)) : (holL p n xs).getD 0 0 = 0 ∧ (holL p n xs).getD 1 0 = (partsN (inF xs) : Int) - 1 := by
  obtain ⟨s, h64, hs, hq⟩ := point_of_top h h1
  rw [holL_at p n xs 0 (by omega), holL_at p n xs 1 h1]
  exact ⟨hol_zero hP (inF_down xs) h64 hs hq, hol_parts hP (inF_down xs) h64 hs hq⟩
theorem holL_empty {p : Nat} (hP : IsP p) {n : Int} {xs : List Int} (h : isC n xs = true) (h1 : top (faces n xs) = 1) : (holL p n xs).getD 0 0 = 1 := by
  rw [holL_at p n xs 0 (by omega)]
  have hx : xs ≠ [] := by
    rintro rfl
    have e := faces_ord h
    have : ord (inF []) = [] := by rw [List.eq_nil_iff_forall_not_mem]; intro x hx; obtain ⟨v, _, _, hq⟩ := (mem_ord _ _).1 hx; simp [inF] at hq
    rw [e, this] at h1
    simp [top] at h1
  have e := rk_top hP (inF_down xs)
  rw [← faces_ord h, h1] at e
  have e2 : fN (inF xs) 0 = 1 := by unfold fN; rw [J_zero (inF_zero hx)]; rfl
  have e3 : rk p (inF xs) 0 = 0 := rfl
  show (fN (inF xs) 0 : Int) - rk p (inF xs) 0 - rk p (inF xs) 1 = 1
  omega
theorem holL_pos {p : Nat} (hP : IsP p) (n : Int) (xs : List Int) (k : Nat) (h : k < (holL p n xs).length) : 0 ≤ (holL p n xs).getD k 0 := by
  rw [holL_length] at h
  rw [holL_at p n xs k h]
  exact hol_nonneg hP (inF_down xs) k

/-! ### cones -/

theorem fold_bits (i : Nat) : ∀ (xs : List Int) (a : Nat), (xs.foldl (fun a x => a &&& x.toNat) a).testBit i = true → a.testBit i = true ∧ ∀ x ∈ xs, x.toNat.testBit i = true
  | [], a, h => ⟨h, fun x hx => by simp at hx⟩
  | y :: xs, a, h => by
    obtain ⟨h1, h2⟩ := fold_bits i xs (a &&& y.toNat) h
    rw [Nat.testBit_and, Bool.and_eq_true] at h1
    refine ⟨h1.1, fun x hx => ?_⟩
    rcases List.mem_cons.1 hx with rfl | hx
    · exact h1.2
    · exact h2 x hx
theorem sub_test {v x : Nat} (h : x.testBit v = true) : sub (2 ^ v) x = true := by
  unfold sub
  rw [beq_iff_eq]
  refine Nat.eq_of_testBit_eq fun i => ?_
  rw [Nat.testBit_and, Nat.testBit_two_pow]
  by_cases e : v = i
  · subst e; simp [h]
  · simp [e]
theorem bit_in : ∀ P : Fin 64, P.val ≠ 0 → ∃ v : Fin 6, P.val.testBit v.val = true := by decide +kernel
theorem fold_lt (xs : List Int) : xs.foldl (fun a x => a &&& x.toNat) 63 < 64 := by
  have H : ∀ (xs : List Int) (a : Nat), a < 64 → xs.foldl (fun a x => a &&& x.toNat) a < 64 := by
    intro xs
    induction xs with
    | nil => intro a h; exact h
    | cons x xs ih => intro a h; exact ih _ (Nat.lt_of_le_of_lt Nat.and_le_left h)
  exact H xs 63 (by omega)
theorem cone_apex {n : Int} {xs : List Int} (hc : conePts n xs ≠ 0) : isC n xs = true ∧ xs ≠ [] ∧ ∃ v : Fin 6, ∀ s, s < 64 → inF xs s = true → inF xs (s ||| 2 ^ v.val) = true := by
  unfold conePts at hc
  split at hc
  · rename_i h
    obtain ⟨v, hv⟩ := bit_in ⟨_, fold_lt xs⟩ hc
    refine ⟨h.1, h.2, v, fun s _ hs => ?_⟩
    unfold inF at hs ⊢
    rw [List.any_eq_true] at hs ⊢
    obtain ⟨f, hf, hfs⟩ := hs
    exact ⟨f, hf, sub_or hfs (sub_test ((fold_bits v.val xs 63 hv).2 f hf))⟩
  · exact absurd rfl hc
theorem holL_none {p : Nat} (hP : IsP p) {n : Int} {xs : List Int} (hc : conePts n xs ≠ 0) : ∀ x, x ∈ holL p n xs → x = 0 := by
  obtain ⟨_, _, v, hv⟩ := cone_apex hc
  intro x hx
  unfold holL at hx
  obtain ⟨k, _, rfl⟩ := List.mem_map.1 hx
  exact cone_none hP (inF_down xs) v hv k

end Hom
end Go.Proofs.YtenpcjmhlnalcaaGreat

/-! LINEAR ALGEBRA modulo a prime, of no program: elimination below the pivots alone finds as many pivots as the reduced form has. -/

namespace Go.Proofs.YtenpcjmhlnalcaaGreat
open Sets
namespace Lin

/-- The numbers behind a step: the rows below d are cleared at the column c. -/
def clrF (p : Nat) (d c : Nat) (f : Nat → Nat → Int) (t s : Nat) : Int := if d < t then (f t s - f t c * inv p (f d c) % (p : Int) * f d s) % (p : Int) else f t s
/-- Two rows exchanged. -/
def swpF (d a : Nat) (f : Nat → Nat → Int) (t s : Nat) : Int := f (if t = a then d else if t = d then a else t) s

structure Sim (p m n d : Nat) (f : Nat → Nat → Int) (S : Mat) : Prop where
  len : S.length = m
  ok : Okay p n S
  same : ∀ t s, d ≤ t → t < m → s < n → f t s % (p : Int) = ent S t s

theorem inv_mod (p : Nat) (a : Int) : inv p (a % (p : Int)) = inv p a := by
  unfold inv
  rw [Int.emod_emod]

theorem swap_ent (S : Mat) (a d t s : Nat) (ha : a < S.length) (hd : d < S.length) : ent (swap S a d) t s = ent S (if t = a then d else if t = d then a else t) s := by
  unfold ent
  rw [swap_row S a d t ha hd]
  by_cases e : t = d
  · subst e
    rw [if_pos rfl]
    by_cases e2 : t = a
    · rw [if_pos e2, e2]
    · rw [if_neg e2, if_pos rfl]
  · rw [if_neg e]
    by_cases e2 : t = a
    · rw [if_pos e2, if_pos e2]
    · rw [if_neg e2, if_neg e2, if_neg e]

theorem clear_eq (p x y b v : Int) : (x - y * b % p * v) % p = (x % p - y % p * (v % p * b % p)) % p := by
  have e1 := Int.emod_add_mul_ediv (y * b) p
  have e2 := Int.emod_add_mul_ediv x p
  have e3 := Int.emod_add_mul_ediv y p
  have e4 := Int.emod_add_mul_ediv v p
  have e5 := Int.emod_add_mul_ediv (v % p * b) p
  generalize y * b % p = A at *
  generalize v % p * b % p = B at *
  generalize y * b / p = q1 at *
  generalize x / p = q2 at *
  generalize y / p = q3 at *
  generalize v / p = q4 at *
  generalize v % p * b / p = q5 at *
  generalize x % p = X at *
  generalize y % p = Y at *
  generalize v % p = V at *
  subst e2 e3 e4
  have : X + p * q2 - A * (V + p * q4) = (X - Y * B) + p * (q2 - A * q4 + q1 * V - q3 * b * V - Y * q5) := by grind
  rw [this, Int.add_mul_emod_self_left]

theorem Sim.clear {p m n d a c : Nat} {f : Nat → Nat → Int} {S : Mat} (hp : 0 < p) (h : Sim p m n d f S) (ha : d ≤ a) (ham : a < m) (hc : c < n) : Sim p m n (d + 1) (clrF p d c (swpF d a f)) (clr p (swap S a d) d c) := by
  have haS : a < S.length := by rw [h.len]; exact ham
  have hdS : d < S.length := by omega
  have hok2 := swap_ok haS hdS h.ok
  have hl2 : d < (swap S a d).length := by rw [swap_length]; exact hdS
  refine ⟨by rw [clr_length, swap_length]; exact h.len, clr_ok hp hl2 hok2, fun t s ht htm hs => ?_⟩
  have hg : ∀ t s, d ≤ t → t < m → s < n → swpF d a f t s % (p : Int) = ent (swap S a d) t s := fun t s ht htm hs => by
    rw [swap_ent S a d t s haS hdS]
    unfold swpF
    refine h.same _ s ?_ ?_ hs
    · split
      · exact Nat.le_refl _
      · split
        · exact ha
        · exact ht
    · split
      · omega
      · split
        · exact ham
        · exact htm
  have htS : t < (swap S a d).length := by rw [swap_length, h.len]; exact htm
  have hw2 : ∀ i, i < (swap S a d).length → (row (swap S a d) i).length = n := fun i hi => hok2.wide _ (row_mem hi)
  unfold ent
  rw [clr_row p _ d c t htS, if_neg (by omega), elim_get _ _ _ _ (by rw [scl_length, hw2 t htS, hw2 d hl2]), scl_get]
  show _ = (ent (swap S a d) t s - ent (swap S a d) t c * (ent (swap S a d) d s * inv p (ent (swap S a d) d c) % (p : Int))) % (p : Int)
  rw [← hg t s (by omega) htm hs, ← hg t c (by omega) htm hc, ← hg d s (Nat.le_refl _) (by omega) hs, ← hg d c (Nat.le_refl _) (by omega) hc, inv_mod]
  unfold clrF
  rw [if_pos (by omega), Int.emod_emod]
  exact clear_eq _ _ _ _ _

/-- What holds ahead of the column j: d pivots so far. -/
def Elim (p : Nat) (M : Mat) (m n j d : Nat) (f : Nat → Nat → Int) : Prop :=
  d ≤ m ∧ (∀ t s, t < m → s < n → -1000 ≤ f t s ∧ f t s ≤ 1000) ∧ ∃ S P, redTo p M j = (S, P) ∧ P.length = d ∧ Sim p m n d f S

theorem Elim.start {p m n : Nat} (hp : 0 < p) {M : Mat} (hm : M.length = m) (hw : ∀ r ∈ M, r.length = n) (hb : ∀ t s, t < m → s < n → -1000 ≤ ent M t s ∧ ent M t s ≤ 1000) : Elim p M m n 0 0 (ent M) := by
  refine ⟨Nat.zero_le _, hb, modM p M, [], rfl, rfl, by simp [modM, hm], modM_ok hp hw, fun t s _ ht hs => ?_⟩
  have hl : s < (row M t).length := by rw [hw _ (row_mem (by rw [hm]; exact ht))]; exact hs
  unfold ent
  have : row (modM p M) t = (row M t).map fun x => x % (p : Int) := by
    unfold row modM
    simp [List.getD, List.getElem?_eq_getElem (by rw [hm]; exact ht : t < M.length)]
  rw [this]
  simp [List.getD, List.getElem?_eq_getElem hl]
theorem Elim.hit {p m n j d a : Nat} {M : Mat} {f : Nat → Nat → Int} (hp : 1 < p) (hp5 : p ≤ 5) (h : Elim p M m n j d f) (hj : j < n) (ha : d ≤ a) (ham : a < m) (hz : ∀ t, d ≤ t → t < a → f t j % (p : Int) = 0) (hn : f a j % (p : Int) ≠ 0) :
    Elim p M m n (j + 1) (d + 1) (clrF p d j (swpF d a f)) := by
  obtain ⟨hd, hb, S, P, hr, hP, hS⟩ := h
  refine ⟨by omega, fun t s ht hs => ?_, clr p (swap S a d) d j, P ++ [j], ?_, by simp [hP], hS.clear (by omega) ha ham hj⟩
  · have hsw : ∀ t s, t < m → s < n → -1000 ≤ swpF d a f t s ∧ swpF d a f t s ≤ 1000 := fun t s ht hs => by
      unfold swpF
      refine hb _ s ?_ hs
      split
      · omega
      · split
        · exact ham
        · exact ht
    unfold clrF
    split
    · have h0 := Int.emod_nonneg (swpF d a f t s - swpF d a f t j * inv p (swpF d a f d j) % (p : Int) * swpF d a f d s) (by omega : (p : Int) ≠ 0)
      have h1 := Int.emod_lt_of_pos (swpF d a f t s - swpF d a f t j * inv p (swpF d a f d j) % (p : Int) * swpF d a f d s) (by omega : (0 : Int) < p)
      omega
    · exact hsw t s ht hs
  · rw [redTo_next, hr]
    have hlen := hS.len
    have hsame := fun t (h1 : d ≤ t) (h2 : t < m) => hS.same t j h1 h2 hj
    rw [← hP] at ha hz ⊢
    refine step_some (by omega) (seek_eq S j _ _ _ ha (by omega) (fun t h1 h2 => by rw [← hsame t (by omega) (by omega)]; exact hz t h1 h2) (.inr (by rw [← hsame a (by omega) ham]; exact hn))) (by omega)
theorem Elim.miss {p m n j d : Nat} {M : Mat} {f : Nat → Nat → Int} (h : Elim p M m n j d f) (hj : j < n) (hz : ∀ t, d ≤ t → t < m → f t j % (p : Int) = 0) : Elim p M m n (j + 1) d f := by
  obtain ⟨hd, hb, S, P, hr, hP, hS⟩ := h
  refine ⟨hd, hb, S, P, ?_, hP, hS⟩
  rw [redTo_next, hr]
  have hlen := hS.len
  have hsame := fun t (h1 : d ≤ t) (h2 : t < m) => hS.same t j h1 h2 hj
  by_cases hl : P.length < S.length
  · refine step_none hl (seek_eq S j _ _ _ (by omega) (by omega) (fun t h1 h2 => by rw [← hsame t (by omega) (by omega)]; exact hz t (by omega) (by omega)) (.inl (by omega)))
  · unfold stepM; dsimp only; rw [if_neg hl]
theorem Elim.done {p m n d : Nat} {M : Mat} {f : Nat → Nat → Int} (h : Elim p M m n n d f) : rank p M n = d := by
  obtain ⟨_, _, S, P, hr, hP, _⟩ := h
  unfold rank reduce
  show (redTo p M n).2.length = d
  rw [hr]; exact hP

end Lin
end Go.Proofs.YtenpcjmhlnalcaaGreat
