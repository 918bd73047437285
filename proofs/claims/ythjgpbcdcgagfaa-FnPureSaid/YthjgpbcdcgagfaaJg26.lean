/-
  TEXTS of one claim, put together: Dual3, WMissS2, WMissS, Part2.
-/
import Derived.Test.YthjgpbcdcgagfaaJg25
import Derived.Test.YthjgpbcdcgagfaaJg11
import Derived.Test.YthjgpbcdcgagfaaJg23
import Derived.Test.YthjgpbcdcgagfaaJg6
import Derived.Test.YthjgpbcdcgagfaaJg7
import Derived.Test.YthjgpbcdcgagfaaJg3
/-! THE DUAL COMPLEX, of no program: the chapter's answers and its promise. -/

namespace Go.Proofs.Ythjgpbcdcgagfaa
open Sets Lin Hom

/-- ComplementOf. -/
def compZ (n x : Int) : Int := if setB n x = true then 2 ^ n.toNat - 1 - x else -1
theorem two_pow_cast (m : Nat) : ((2 ^ m : Nat) : Int) = 2 ^ m := by simp
theorem compZ_nat {n : Int} {s : Nat} (h : setB n (s : Int) = true) : compZ n (s : Int) = ((2 ^ n.toNat - 1 - s : Nat) : Int) := by
  unfold compZ
  rw [if_pos h]
  rw [setB_iff] at h
  have := two_pow_cast n.toNat
  omega
/-- DualOf. -/
def dualO (n : Int) (xs : List Int) := partO (isC n xs) n (dualQ n.toNat (inF xs))
/-- IsSelfDual. -/
def selfB (n : Int) (xs : List Int) : Bool := isC n xs && (xs == maxQ (dualQ n.toNat (inF xs)))
/-- Does the set meet all of the list? -/
def meets (xs : List Int) (s : Nat) : Bool := xs.all fun f => !apart s f.toNat
def coverQ (n : Int) (xs : List Int) (s : Nat) : Bool := setB n (s : Int) && meets xs s
/-- CoversOf. -/
def coversL (n : Int) (xs : List Int) : List Int := if setsOf n xs = true then minQ (coverQ n xs) else []
theorem covers_yes {n : Int} {xs : List Int} (h : setsOf n xs = true) : coversL n xs = minQ (coverQ n xs) := if_pos h
theorem covers_no {n : Int} {xs : List Int} (h : setsOf n xs = false) : coversL n xs = [] := if_neg (by rw [h]; simp)
theorem covers_le (n : Int) (xs : List Int) : (coversL n xs).length ≤ 64 := by
  unfold coversL; split
  · exact minQ_le _
  · simp
theorem minQ_firsts (n : Int) (xs : List Int) (h1 : 1 ≤ n) (h2 : n ≤ 6) : best (fun s o => sub o s) (order (firsts (meets xs) (2 ^ n.toNat))) = minQ (coverQ n xs) := minimal_of _ _ fun x => by
  rw [mem_firsts]
  have h64 := pow_le64 n h1 h2
  constructor
  · rintro ⟨t, rfl, ht, e⟩
    exact ⟨t, rfl, by omega, by unfold coverQ; rw [e, setB_lt n t (by omega) h2]; simp [ht]⟩
  · rintro ⟨t, rfl, ht, e⟩
    unfold coverQ at e
    rw [Bool.and_eq_true, setB_lt n t (by omega) h2, decide_eq_true_iff] at e
    exact ⟨t, rfl, e.1, e.2⟩

/-! ### complements -/

theorem comp_lt {m s : Nat} (h : s < 2 ^ m) : 2 ^ m - 1 - s < 2 ^ m := by omega
theorem comp_comp {m s : Nat} (h : s < 2 ^ m) : 2 ^ m - 1 - (2 ^ m - 1 - s) = s := by omega
theorem comp_sub_iff {m s t : Nat} (hm : m ≤ 6) (hs : s < 2 ^ m) (ht : t < 2 ^ m) : sub (2 ^ m - 1 - t) (2 ^ m - 1 - s) = sub s t := by
  have h64 := pow64 hm
  rw [Bool.eq_iff_iff]
  refine ⟨fun h => ?_, fun h => comp_sub ⟨m, by omega⟩ ⟨s, by omega⟩ ⟨t, by omega⟩ hs ht h⟩
  have := comp_sub ⟨m, by omega⟩ ⟨2 ^ m - 1 - t, by omega⟩ ⟨2 ^ m - 1 - s, by omega⟩ (comp_lt ht) (comp_lt hs) h
  dsimp only at this
  rwa [comp_comp hs, comp_comp ht] at this
theorem comp_apart : ∀ n : Fin 7, ∀ f s : Fin 64, f.val < 2 ^ n.val → s.val < 2 ^ n.val → apart s.val f.val = sub f.val (2 ^ n.val - 1 - s.val) := by decide +kernel
theorem isC_cast {n : Int} {xs : List Int} (h : isC n xs = true) : ∃ m : Nat, n = (m : Int) ∧ 1 ≤ m ∧ m ≤ 6 := by
  have := isC_n h
  exact ⟨n.toNat, by omega, by omega, by omega⟩
theorem setB_m (m s : Nat) (h : m ≤ 6) : setB (m : Int) (s : Int) = true ↔ s < 2 ^ m := by
  rw [setB_lt _ _ (by omega) (by omega), decide_eq_true_iff]; simp
theorem dual_isC {n : Int} {xs : List Int} (h : isC n xs = true) : isC n (maxQ (dualQ n.toNat (inF xs))) = true := by
  obtain ⟨m, rfl, h1, h2⟩ := isC_cast h
  refine maxQ_isC _ _ (by omega) (by omega) (dualQ_down (by simpa using h2) (inF_down xs)) fun s _ hs => ?_
  have := ((dualQ_iff _ _ s).1 hs).1
  rw [setB_m m s h2]; simpa using this
theorem inF_lowZ {n : Int} {xs : List Int} (h : isC n xs = true) : Low n.toNat (inF xs) := fun s _ hs => by
  have hn := isC_n h
  have := inF_set h s hs
  rwa [setB_lt n s (by omega) hn.2, decide_eq_true_iff] at this
/-- The dual of the dual is the complex. -/
theorem dual_dual {n : Int} {xs : List Int} (h : isC n xs = true) : maxQ (dualQ n.toNat (inF (maxQ (dualQ n.toNat (inF xs))))) = xs := by
  have hlow := inF_lowZ h
  obtain ⟨m, rfl, h1, h2⟩ := isC_cast h
  conv => rhs; rw [← isC_maxQ h]
  refine maxQ_congr fun s hs => ?_
  rw [Int.toNat_natCast] at *
  have h64 := pow64 h2
  have hdd := dualQ_down h2 (inF_down xs)
  rw [Bool.eq_iff_iff, dualQ_iff]
  constructor
  · rintro ⟨h3, h4⟩
    rw [inF_maxQ _ hdd _ (by omega)] at h4
    rw [← Bool.not_eq_true, dualQ_iff, comp_comp h3] at h4
    cases e : inF xs s with
    | true => rfl
    | false => exact absurd ⟨comp_lt h3, e⟩ h4
  · intro e
    have h3 := hlow s hs e
    refine ⟨h3, ?_⟩
    rw [inF_maxQ _ hdd _ (by omega), ← Bool.not_eq_true, dualQ_iff, comp_comp h3, e]
    simp
/-- The dual, made out of complements of the least sets that are no faces. -/
theorem dual_of_missing {n : Int} {xs : List Int} (h : isC n xs = true) : maximal ((missing n xs).map (compZ n)) = maxQ (dualQ n.toNat (inF xs)) := by
  obtain ⟨m, rfl, h1, h2⟩ := isC_cast h
  have h64 := pow64 h2
  have hmem : ∀ x, x ∈ (missing (m : Int) xs).map (compZ (m : Int)) ↔ ∃ s : Nat, s < 2 ^ m ∧ (s : Int) ∈ missing (m : Int) xs ∧ x = ((2 ^ m - 1 - s : Nat) : Int) := fun x => by
    rw [List.mem_map]
    constructor
    · rintro ⟨y, hy, rfl⟩
      have hs := missing_set y hy
      obtain ⟨s, rfl, _⟩ := ok_nat (missing_ok _ _) hy
      exact ⟨s, (setB_m m s h2).1 hs, hy, by rw [compZ_nat hs]; simp⟩
    · rintro ⟨s, hs, hm, rfl⟩
      exact ⟨(s : Int), hm, by rw [compZ_nat ((setB_m m s h2).2 hs)]; simp⟩
  have hok : allOk ((missing (m : Int) xs).map (compZ (m : Int))) = true := by
    unfold allOk
    rw [List.all_eq_true]
    intro x hx
    obtain ⟨s, hs, _, rfl⟩ := (hmem x).1 hx
    exact (okZ_nat _).2 (by omega)
  rw [maximal_maxQ _ hok]
  refine maxQ_congr fun s hs => ?_
  rw [Int.toNat_natCast, Bool.eq_iff_iff, inF_iff, dualQ_iff]
  constructor
  · rintro ⟨f, hf, e⟩
    obtain ⟨t, ht, hm, rfl⟩ := (hmem f).1 hf
    have e : sub s (2 ^ m - 1 - t) = true := e
    have := sub_le e
    have hs1 : s < 2 ^ m := by omega
    refine ⟨hs1, ?_⟩
    have e2 : sub t (2 ^ m - 1 - s) = true := by
      rw [← comp_sub_iff h2 ht (comp_lt hs1), comp_comp hs1]; exact e
    rw [missing_yes h] at hm
    obtain ⟨t', e3, _, hq, _⟩ := (mem_minQ _ _).1 hm
    have : t = t' := by omega
    subst this
    unfold missQ at hq
    rw [Bool.and_eq_true, Bool.not_eq_true'] at hq
    rw [Bool.eq_false_iff]; intro k
    rw [inF_sub e2 k] at hq; cases hq.2
  · rintro ⟨hs1, hf⟩
    have hq : missQ (m : Int) xs (2 ^ m - 1 - s) = true := by
      unfold missQ; rw [hf, (setB_m m _ h2).2 (comp_lt hs1)]; rfl
    obtain ⟨u, hu, hm, e⟩ := minQ_below _ _ _ (show 2 ^ m - 1 - s < 64 by omega) (Nat.le_refl _) hq
    rw [← missing_yes h] at hm
    have hum := (setB_m m u h2).1 (missing_set _ hm)
    refine ⟨_, (hmem _).2 ⟨u, hum, hm, rfl⟩, ?_⟩
    show sub s (2 ^ m - 1 - u) = true
    have := comp_sub_iff h2 hum (comp_lt hs1)
    rw [comp_comp hs1] at this
    rw [this]; exact e
/-- Covers are the complements of the facets. -/
theorem covers_comp {n : Int} {xs : List Int} (h : setsOf n xs = true) : order ((maxQ (avoidQ n xs)).map (compZ n)) = coversL n xs := by
  have hn := (inB_iff _ _ _).1 (setsOf_n h)
  obtain ⟨m, rfl⟩ : ∃ m : Nat, n = (m : Int) := ⟨n.toNat, by omega⟩
  have h2 : m ≤ 6 := by omega
  have h64 := pow64 h2
  have key : ∀ s, s < 2 ^ m → (meets xs s = true ↔ abv xs (2 ^ m - 1 - s) = false) := fun s hs => by
    unfold meets abv
    rw [List.all_eq_true, List.any_eq_false]
    have e : ∀ f, f ∈ xs → ((!apart s f.toNat) = true ↔ ¬sub f.toNat (2 ^ m - 1 - s) = true) := fun f hf => by
      have hfs := setsOf_set h f hf
      obtain ⟨t, rfl, _⟩ := ok_nat (setsOf_ok h) hf
      rw [Int.toNat_natCast, comp_apart ⟨m, by omega⟩ ⟨t, by omega⟩ ⟨s, by omega⟩ ((setB_m m t h2).1 hfs) hs]
      simp
    exact ⟨fun k f hf => (e f hf).1 (k f hf), fun k f hf => (e f hf).2 (k f hf)⟩
  have hav : ∀ s, s < 2 ^ m → (avoidQ (m : Int) xs (2 ^ m - 1 - s) = coverQ (m : Int) xs s) := fun s hs => by
    unfold avoidQ coverQ
    rw [(setB_m m s h2).2 hs, (setB_m m _ h2).2 (comp_lt hs)]
    have := key s hs
    cases e : abv xs (2 ^ m - 1 - s) with
    | true => rw [e] at this; cases e2 : meets xs s with
      | true => exact absurd (this.1 e2) (by simp)
      | false => rfl
    | false => rw [this.2 e]; rfl
  have hset : ∀ x, x ∈ maxQ (avoidQ (m : Int) xs) → ∃ s : Nat, x = (s : Int) ∧ s < 2 ^ m := fun x hx => by
    obtain ⟨s, rfl, hs, hq, _⟩ := (mem_maxQ _ x).1 hx
    exact ⟨s, rfl, (setB_m m s h2).1 (avoidQ_set s hs hq)⟩
  have hok : allOk ((maxQ (avoidQ (m : Int) xs)).map (compZ (m : Int))) = true := by
    unfold allOk
    rw [List.all_eq_true]
    intro x hx
    obtain ⟨y, hy, rfl⟩ := List.mem_map.1 hx
    obtain ⟨s, rfl, hs⟩ := hset y hy
    rw [compZ_nat ((setB_m m s h2).2 hs)]
    refine (okZ_nat _).2 ?_
    rw [Int.toNat_natCast]; omega
  rw [covers_yes h]
  refine rises_eq _ _ (order_rises _) (minQ_rises _) fun x => ?_
  rw [order_iff _ hok, List.mem_map, mem_minQ]
  constructor
  · rintro ⟨y, hy, rfl⟩
    obtain ⟨s, rfl, hs⟩ := hset y hy
    obtain ⟨s', e, _, hq, hmax⟩ := (mem_maxQ _ _).1 hy
    have : s = s' := by omega
    subst this
    rw [compZ_nat ((setB_m m s h2).2 hs), Int.toNat_natCast]
    refine ⟨_, rfl, by omega, ?_, fun t ht hqt hst => ?_⟩
    · rw [← hav _ (comp_lt hs), comp_comp hs]; exact hq
    · have := sub_le hst
      have ht1 : t < 2 ^ m := by omega
      rw [← hav t ht1] at hqt
      have e2 : sub s (2 ^ m - 1 - t) = true := by
        rw [← comp_sub_iff h2 hs (comp_lt ht1), comp_comp ht1]; exact hst
      have := hmax _ (by omega) hqt e2
      omega
  · rintro ⟨t, rfl, ht, hqt, hmin⟩
    have ht1 : t < 2 ^ m := by
      unfold coverQ at hqt
      rw [Bool.and_eq_true] at hqt
      exact (setB_m m t h2).1 hqt.1
    refine ⟨((2 ^ m - 1 - t : Nat) : Int), (mem_maxQ _ _).2 ⟨_, rfl, by omega, by rw [hav t ht1]; exact hqt, fun u hu hqu hsu => ?_⟩, ?_⟩
    · have hu1 : u < 2 ^ m := (setB_m m u h2).1 (avoidQ_set u hu hqu)
      have e1 : sub (2 ^ m - 1 - u) t = true := by
        have := comp_sub_iff h2 (comp_lt ht1) hu1
        rw [comp_comp ht1] at this
        rw [this]; exact hsu
      have := hmin (2 ^ m - 1 - u) (by omega) (by rw [← hav _ (comp_lt hu1), comp_comp hu1]; exact hqu) e1
      omega
    · rw [compZ_nat ((setB_m m _ h2).2 (comp_lt ht1)), Int.toNat_natCast, comp_comp ht1]
/-- The binomial number, for few points. -/
def chooseN (n k : Nat) : Nat := fN (Hom.full n) k
/-- Faces of both count the sets. -/
theorem dual_count {n : Int} {xs : List Int} (h : isC n xs = true) {k : Nat} (hk : k ≤ n.toNat) : fN (inF xs) k + fN (dualQ n.toNat (inF xs)) (n.toNat - k) = chooseN n.toNat k := by
  have hn := isC_n h
  have h1 := out_count (n := n.toNat) (by omega) (inF xs) hk
  have h2 := full_count (inF_lowZ h) k
  unfold chooseN
  omega

end Go.Proofs.Ythjgpbcdcgagfaa

/-! WALKS: spec.l7From, spec.FromMissing. -/

namespace Go.Proofs.Ythjgpbcdcgagfaa
open Go.RowKit
open Sets

theorem fromS_no {n : Int} {xs : List Int} (h : setsOf n xs = false) : fromO n xs = none := by unfold fromO; rw [h]; rfl
theorem fromS_yes {n : Int} {xs : List Int} (h : setsOf n xs = true) : fromO n xs = some (n, maxQ (avoidQ n xs)) := by unfold fromO; rw [h]; rfl
theorem ok_atS {xs : List Int} (h : allOk xs = true) (k : Nat) (hk : k < xs.length) : ∃ t : Nat, xs.getD k 0 = (t : Int) ∧ t < 64 := by
  refine ok_nat h ?_
  rw [List.getD, List.getElem?_eq_getElem hk]; exact List.getElem_mem hk
theorem abv_take (xs : List Int) (k : Nat) (hk : k < xs.length) (s : Nat) : abv (xs.take (k + 1)) s = (abv (xs.take k) s || sub (xs.getD k 0).toNat s) := by
  have e : xs.take (k + 1) = xs.take k ++ [xs.getD k 0] := by
    rw [List.take_add_one, List.getD, List.getElem?_eq_getElem hk]; rfl
  rw [e]
  unfold abv
  rw [List.any_append]; simp
theorem abv_takeT (xs : List Int) (k : Nat) (hk : k < xs.length) (t : Nat) (ht : xs.getD k 0 = (t : Int)) (s : Nat) (b c : Bool) (hb : abv (xs.take k) s = b) (hc : sub t s = c) : abv (xs.take (k + 1)) s = (b || c) := by
  rw [abv_take xs k hk, hb, ht]
  show (b || sub t s) = _
  rw [hc]
theorem shl_powS (n : Int) (h1 : 1 ≤ n) (h2 : n ≤ 6) : wrap64 (2 ^ n.toNat) = ((2 ^ n.toNat : Nat) : Int) := by
  rcases seven n (by omega) h2 with rfl | rfl | rfl | rfl | rfl | rfl | rfl <;> decide +kernel

end Go.Proofs.Ythjgpbcdcgagfaa

/-! WALKS: spec's chapter 7: sets that are no faces. -/

namespace Go.Proofs.Ythjgpbcdcgagfaa
open Go.RowKit
open Sets

set_option maxRecDepth 100000 in
set_option maxHeartbeats 4000000 in
theorem specMissing_any (n : Int) (a : Option Addr) (c : Nat) (xs : List Int) (hlen : xs.length ≤ 1099511627776) (w : World) (h : Ints w a xs) :
    Calls Try.prog 84 #[cx n (.slice a xs.length c)] w fun e w' => ∃ v, e = .returned v ∧ OwnInts w' w.heap.size v (missing n xs) ∧ Below w.heap.size w w' := by
  obtain ⟨i0, hi, hz0, hz1, hz2⟩ := info_parts info_int
  have hb0 : Below w.heap.size w (w.alloc (Obj.cells #[Value.int IntKind.i64 n, Value.slice a xs.length c] 26)) := (Below.refl _ _).alloc (Nat.le_refl _) _
  have htwo : Two (w.alloc (Obj.cells #[Value.int IntKind.i64 n, Value.slice a xs.length c] 26)) w.heap.size (.int .i64 n) (.slice a xs.length c) := Two.new _ _ _ _
  have H := Lib.hid (h.keeps hb0)
  have HB0 := Lib.hid hb0
  have HT := Lib.hid htwo
  clear h hb0 htwo
  cases hC : isC n xs with
  | false =>
    have HC := Lib.hid hC
    have HF : Hid (missing n xs = []) := missing_no hC
    clear hC
    have H2 := Lib.hid (H.out.keeps ((Below.refl _ _).alloc (Nat.le_refl _) (Obj.cells #[] 3)))
    go_enter Try.func84, Try.ntmps84
    go_wp2
    refine wp_loop_rounds 1 ?_
    rw [rounds_succ]
    go_wp2_with fail
    refine (specIsC_b n _ _ xs false HC.out hlen _ H2.out).mono ?_
    rintro e w1 ⟨rfl, hb1⟩
    have HB1 : Hid (Below w.heap.size w w1) := (HB0.out.alloc (by simp) _).trans (hb1.mono (by simp; omega))
    clear hb1
    go_wp2_with fail
    refine (l2Extreme_false _ _ [] (by simp) rfl _ (Ints.nil _ _)).mono ?_
    rintro e w2 ⟨v, rfl, hO, hb2⟩
    have HO := Lib.hid hO
    have hsz := HB1.out.size
    clear hO
    go_wp2
    go_ret
    refine ⟨v, rfl, ?_, HB1.out.trans (hb2.mono hsz)⟩
    have h2 := HO.out
    rw [show best (fun s o => sub o s) (order []) = [] from rfl] at h2
    rw [HF.out]
    exact OwnInts.lower h2 hsz
  | true =>
    have HC := Lib.hid hC
    have HOK := Lib.hid (isC_ok hC)
    have HF : Hid (missing n xs = best (fun s o => sub o s) (order (firsts (missQ n xs) 64))) := by
      have : missing n xs = best (fun s o => sub o s) (order (firsts (missQ n xs) 64)) := by rw [missing_yes hC, minimal_firsts]
      exact this
    clear hC
    go_enter Try.func84, Try.ntmps84
    go_wp2
    have HO0 := Lib.hid (OwnInts.lit (w.alloc (Obj.cells #[Value.int IntKind.i64 n, Value.slice a xs.length c] 26)) (w.heap.size + 1) [] (by simp) (by simp))
    have hszW : (w.alloc (Obj.cells #[Value.int IntKind.i64 n, Value.slice a xs.length c] 26)).heap.size = w.heap.size + 1 := by simp
    generalize (w.alloc (Obj.cells #[Value.int IntKind.i64 n, Value.slice a xs.length c] 26)) = W at *
    have HSZ := Lib.hid hszW
    clear hszW
    go_loopw [3, 4] (fun v i wr => ∃ k : Nat, k ≤ 64 ∧ i = .int .i64 (k : Int) ∧ OwnInts wr W.heap.size v (firsts (missQ n xs) k) ∧ Below W.heap.size W wr) (fun _ i _ => 64 - (intOf i).toNat)
    case atStart => exact ⟨0, by omega, rfl, by have h := HO0.out; rw [HSZ.out] at h ⊢; exact h, (Below.refl _ _).alloc (Nat.le_refl _) _⟩
    case round =>
      obtain ⟨k, hk, rfl, hO, hB⟩ := hrel
      have HO := Lib.hid hO
      clear hO
      have hsz := hB.size
      have hl := firsts_length (missQ n xs) k
      obtain ⟨t0, t1, t2, _, _⟩ := HT.out.keeps hB
      by_cases hlt : k < 64
      · have HI := Lib.hid (H.out.keeps hB)
        cases hs : setB n (k : Int) with
        | false =>
          have HS := Lib.hid hs
          have HP : Hid (missQ n xs k = false) := by
            have : missQ n xs k = false := by unfold missQ; rw [hs]; rfl
            exact this
          clear hs
          go_wp2_with fail
          refine (specIsC_b n _ _ xs true HC.out hlen _ HI.out).mono ?_
          rintro e w1 ⟨rfl, hb1⟩
          have HO1 := Lib.hid (OwnInts.keeps HO.out hb1)
          have hB1 : Below W.heap.size W w1 := hB.trans (hb1.mono hsz)
          have HI1 := Lib.hid (HI.out.keeps hb1)
          obtain ⟨s0, s1, s2, _, _⟩ := HT.out.keeps hB1
          have hsz1 := hB1.size
          clear hb1 HO
          go_wp2_with fail
          refine (specIsSet_b n (k : Int) false HS.out _).mono ?_
          rintro e w' ⟨rfl, rfl⟩
          go_wp2
          go_roundw
          case rel => exact ⟨k + 1, by omega, by go_num, by rw [firsts_miss _ k HP.out]; exact HO1.out, hB1⟩
          case measure => simp [intOf]; omega
        | true =>
          have HS := Lib.hid hs
          cases hp : inF xs k with
          | true =>
            have HIN := Lib.hid hp
            have HP : Hid (missQ n xs k = false) := by
              have : missQ n xs k = false := by unfold missQ; rw [hs, hp]; rfl
              exact this
            clear hs hp
            go_wp2_with fail
            refine (specIsC_b n _ _ xs true HC.out hlen _ HI.out).mono ?_
            rintro e w1 ⟨rfl, hb1⟩
            have HO1 := Lib.hid (OwnInts.keeps HO.out hb1)
            have hB1 : Below W.heap.size W w1 := hB.trans (hb1.mono hsz)
            have HI1 := Lib.hid (HI.out.keeps hb1)
            obtain ⟨s0, s1, s2, _, _⟩ := HT.out.keeps hB1
            have hsz1 := hB1.size
            clear hb1 HO
            go_wp2_with fail
            refine (specIsSet_b n (k : Int) true HS.out _).mono ?_
            rintro e w' ⟨rfl, rfl⟩
            go_wp2_with fail
            refine (l3Has_any n _ _ xs HOK.out hlen k hlt true HIN.out _ HI1.out).mono ?_
            rintro e w2 ⟨rfl, hb2⟩
            have HO2 := Lib.hid (OwnInts.keeps HO1.out hb2)
            have hB2 : Below W.heap.size W w2 := hB1.trans (hb2.mono hsz1)
            have hsz2 := hB2.size
            clear hb2 HO1
            go_wp2
            go_roundw
            case rel => exact ⟨k + 1, by omega, by go_num, by rw [firsts_miss _ k HP.out]; exact HO2.out, hB2⟩
            case measure => simp [intOf]; omega
          | false =>
            have HIN := Lib.hid hp
            have HP : Hid (missQ n xs k = true) := by
              have : missQ n xs k = true := by unfold missQ; rw [hs, hp]; rfl
              exact this
            clear hs hp
            go_wp2_with fail
            refine (specIsC_b n _ _ xs true HC.out hlen _ HI.out).mono ?_
            rintro e w1 ⟨rfl, hb1⟩
            have HO1 := Lib.hid (OwnInts.keeps HO.out hb1)
            have hB1 : Below W.heap.size W w1 := hB.trans (hb1.mono hsz)
            have HI1 := Lib.hid (HI.out.keeps hb1)
            obtain ⟨s0, s1, s2, _, _⟩ := HT.out.keeps hB1
            have hsz1 := hB1.size
            clear hb1 HO
            go_wp2_with fail
            refine (specIsSet_b n (k : Int) true HS.out _).mono ?_
            rintro e w' ⟨rfl, rfl⟩
            go_wp2_with fail
            refine (l3Has_any n _ _ xs HOK.out hlen k hlt false HIN.out _ HI1.out).mono ?_
            rintro e w2 ⟨rfl, hb2⟩
            have HO2 := Lib.hid (OwnInts.keeps HO1.out hb2)
            unfold OwnInts at HO2
            have hB2 : Below W.heap.size W w2 := hB1.trans (hb2.mono hsz1)
            have hsz2 := hB2.size
            clear hb2 HO1
            go_wp2_with (at_builtin; refine wpList_append_own _ rfl _ _ 24 rfl W.heap.size 3 i0 (.int .i64 0) 1 8 Try.underlying24 hi hz0 hz1 hz2 rfl (by decide) _ _ _ rfl (HO2.out.alloc _) ⟨w2.heap.size, 0, none⟩ 1 1 [.int .i64 (k : Int)] rfl rfl ?c1 ?c2 ?c3 ?c4 ?c5 ?_)
            case c1 => intro j u hj; exact Mem.cell_new w2 _ _ j u hj
            case c2 => intro u hu; simp at hu; subst hu; rfl
            case c3 => unfold maxLen; omega
            case c4 => omega
            case c5 => simp; omega
            intro v' w3 hown1 hgrow _
            have hB3 : Below W.heap.size W w3 := (hB2.alloc hsz2 _).grown hgrow (by simp; omega) (fun g hg => (HO2.out.lt g hg).1)
            have H1 := Lib.hid hown1
            clear hown1 hgrow
            go_wp2
            go_roundw
            case rel => exact ⟨k + 1, by omega, by go_num, by rw [firsts_hit _ k HP.out]; exact OwnInts.next H1.out, hB3⟩
            case measure => simp [intOf]; omega
      · have E := Lib.hid (show k = 64 by omega)
        have hO := HO.out
        rw [E.out] at hO hl
        obtain ⟨a1, c1, g1, rfl, hg1, hr1⟩ := hO.at
        have R1 := Lib.hid hr1
        clear hO hr1 HO
        go_wp2_with fail
        refine (l2Extreme_false _ _ (firsts (missQ n xs) 64) (by omega) (firsts_ok _) _ R1.out.ints).mono ?_
        rintro e w1 ⟨v, rfl, hO, hb1⟩
        have HO := Lib.hid hO
        clear hO
        go_wp2
        go_ret
        have hz := HSZ.out
        refine ⟨v, rfl, ?_, HB0.out.trans ((hB.trans (hb1.mono hsz)).mono (by omega))⟩
        rw [HF.out]
        exact HO.out.lower (by omega)

theorem specMissing_b (n : Int) (a : Option Addr) (c : Nat) (xs M : List Int) (hM : missing n xs = M) (hlen : xs.length ≤ 1099511627776) (w : World) (h : Ints w a xs) :
    Calls Try.prog 84 #[cx n (.slice a xs.length c)] w fun e w' => ∃ v, e = .returned v ∧ OwnInts w' w.heap.size v M ∧ Below w.heap.size w w' := by
  subst hM; exact specMissing_any n a c xs hlen w h

end Go.Proofs.Ythjgpbcdcgagfaa

/-! PARTS OF COMPLEXES, of no program: the lists out of which the model makes them. -/

namespace Go.Proofs.Ythjgpbcdcgagfaa
open Sets

theorem tk_next (L : List Int) (k : Nat) (h : k < L.length) : L.take (k + 1) = L.take k ++ [L.getD k 0] := by
  rw [List.take_add_one, List.getD, List.getElem?_eq_getElem h]; rfl
/-- Those of the first k that meet p. -/
def keepL (p : Int → Bool) (L : List Int) (k : Nat) : List Int := (L.take k).filter p
theorem keepL_hit (p : Int → Bool) (L : List Int) (k : Nat) (h : k < L.length) (e : p (L.getD k 0) = true) : keepL p L (k + 1) = keepL p L k ++ [L.getD k 0] := by
  unfold keepL; rw [tk_next L k h, List.filter_append]; generalize L.getD k 0 = x at e ⊢; simp [e]
theorem keepL_miss (p : Int → Bool) (L : List Int) (k : Nat) (h : k < L.length) (e : p (L.getD k 0) = false) : keepL p L (k + 1) = keepL p L k := by
  unfold keepL; rw [tk_next L k h, List.filter_append]; generalize L.getD k 0 = x at e ⊢; simp [e]
theorem keepL_le (p : Int → Bool) (L : List Int) (k : Nat) : (keepL p L k).length ≤ k := by
  unfold keepL
  refine Nat.le_trans (List.length_filter_le _ _) ?_
  rw [List.length_take]; omega
theorem keepL_all (p : Int → Bool) (L : List Int) : keepL p L L.length = L.filter p := by unfold keepL; rw [List.take_length]
theorem filter_ok {L : List Int} (p : Int → Bool) (h : allOk L = true) : allOk (L.filter p) = true := by
  unfold allOk at *
  rw [List.all_eq_true] at *
  exact fun x hx => h x (List.mem_filter.1 hx).1

/-- The first k, each turned by f. -/
def mapL (f : Int → Int) (L : List Int) (k : Nat) : List Int := (L.take k).map f
theorem mapL_next (f : Int → Int) (L : List Int) (k : Nat) (h : k < L.length) : mapL f L (k + 1) = mapL f L k ++ [f (L.getD k 0)] := by
  unfold mapL; rw [tk_next L k h, List.map_append]; rfl
theorem mapL_le (f : Int → Int) (L : List Int) (k : Nat) : (mapL f L k).length ≤ k := by
  unfold mapL; rw [List.length_map, List.length_take]; omega
theorem mapL_all (f : Int → Int) (L : List Int) : mapL f L L.length = L.map f := by unfold mapL; rw [List.take_length]

/-! ### link -/

def linkL (s : Nat) (L : List Int) (k : Nat) : List Int := (keepL (fun f => sub s f.toNat) L k).map fun f => f - (s : Int)
theorem linkL_hit (s : Nat) (L : List Int) (k : Nat) (h : k < L.length) (e : sub s (L.getD k 0).toNat = true) : linkL s L (k + 1) = linkL s L k ++ [L.getD k 0 - (s : Int)] := by
  unfold linkL; rw [keepL_hit _ L k h e, List.map_append]; rfl
theorem linkL_miss (s : Nat) (L : List Int) (k : Nat) (h : k < L.length) (e : sub s (L.getD k 0).toNat = false) : linkL s L (k + 1) = linkL s L k := by
  unfold linkL; rw [keepL_miss _ L k h e]
theorem linkL_le (s : Nat) (L : List Int) (k : Nat) : (linkL s L k).length ≤ k := by
  unfold linkL; rw [List.length_map]; exact keepL_le _ _ _
theorem mem_linkL (s : Nat) (hs : s < 64) (L : List Int) (h : allOk L = true) (x : Int) : x ∈ linkL s L L.length ↔ ∃ f : Nat, (f : Int) ∈ L ∧ f < 64 ∧ sub s f = true ∧ x = ((f ^^^ s : Nat) : Int) := by
  unfold linkL
  rw [keepL_all, List.mem_map]
  constructor
  · rintro ⟨y, hy, rfl⟩
    rw [List.mem_filter] at hy
    obtain ⟨f, rfl, hf⟩ := ok_nat h hy.1
    have e : sub s f = true := hy.2
    have := sub_le e
    exact ⟨f, hy.1, hf, e, by rw [← take_away f s hf hs e]; omega⟩
  · rintro ⟨f, hf, hf64, e, rfl⟩
    have := sub_le e
    exact ⟨(f : Int), List.mem_filter.2 ⟨hf, e⟩, by rw [← take_away f s hf64 hs e]; omega⟩
theorem linkL_ok (s : Nat) (hs : s < 64) (L : List Int) (h : allOk L = true) : allOk (linkL s L L.length) = true := by
  unfold allOk
  rw [List.all_eq_true]
  intro x hx
  obtain ⟨f, _, hf, e, rfl⟩ := (mem_linkL s hs L h x).1 hx
  rw [← take_away f s hf hs e]
  exact (okZ_nat _).2 (by omega)
theorem linkL_inF (s : Nat) (hs : s < 64) (L : List Int) (h : allOk L = true) (t : Nat) : inF (linkL s L L.length) t = linkQ L s t := by
  unfold linkQ
  rw [Bool.eq_iff_iff, Bool.and_eq_true, inF_iff, inF_iff]
  constructor
  · rintro ⟨x, hx, e⟩
    obtain ⟨f, hf, hf64, k, rfl⟩ := (mem_linkL s hs L h x).1 hx
    have e : sub t (f ^^^ s) = true := e
    rw [sub_xor t f s k, Bool.and_eq_true] at e
    exact ⟨e.1, (f : Int), hf, by show sub (t ||| s) f = true; rw [sub_or, e.2, k]; rfl⟩
  · rintro ⟨ha, x, hx, e⟩
    obtain ⟨f, rfl, hf⟩ := ok_nat h hx
    have e : sub (t ||| s) f = true := e
    rw [sub_or, Bool.and_eq_true] at e
    exact ⟨_, (mem_linkL s hs L h _).2 ⟨f, hx, hf, e.2, rfl⟩, by show sub t (f ^^^ s) = true; rw [sub_xor t f s e.2, ha, e.1]; rfl⟩
theorem link_spec (s : Nat) (hs : s < 64) (L : List Int) (h : allOk L = true) : maximal (linkL s L L.length) = maxQ (linkQ L s) := by
  rw [maximal_maxQ _ (linkL_ok s hs L h)]
  exact maxQ_congr fun t _ => linkL_inF s hs L h t

/-! ### star -/

theorem star_spec (s : Nat) (L : List Int) (h : allOk L = true) : maximal (keepL (fun f => sub s f.toNat) L L.length) = maxQ (starQ L s) := by
  rw [keepL_all, maximal_maxQ _ (filter_ok _ h)]
  refine maxQ_congr fun t _ => ?_
  unfold starQ
  rw [Bool.eq_iff_iff, inF_iff, inF_iff]
  constructor
  · rintro ⟨x, hx, e⟩
    rw [List.mem_filter] at hx
    exact ⟨x, hx.1, by rw [sub_or, e, hx.2]; rfl⟩
  · rintro ⟨x, hx, e⟩
    rw [sub_or, Bool.and_eq_true] at e
    exact ⟨x, List.mem_filter.2 ⟨hx, e.2⟩, e.1⟩

/-! ### families of faces -/

/-- The greatest of those faces that meet a predicate. -/
theorem keep_spec (n : Int) (xs : List Int) (hc : isC n xs = true) (p : Nat → Bool) (hd : Down fun t => inF xs t && p t) :
    maximal (keepL (fun f => p f.toNat) (faces n xs) (faces n xs).length) = maxQ fun t => inF xs t && p t := by
  have hf : faces n xs = ord (inF xs) := by unfold faces; rw [if_pos hc]
  rw [keepL_all, hf]
  have e : (ord (inF xs)).filter (fun f => p f.toNat) = ord fun t => inF xs t && p t := by
    rw [ord_filter (inF xs), List.filter_filter, ord_filter fun t => inF xs t && p t]
    apply List.filter_congr
    intro x _
    rw [Bool.and_comm]
  rw [e]
  exact maximal_ord _ hd
theorem del_spec (n : Int) (xs : List Int) (hc : isC n xs = true) (s : Nat) : maximal (keepL (fun f => !sub s f.toNat) (faces n xs) (faces n xs).length) = maxQ (delQ xs s) :=
  keep_spec n xs hc (fun t => !sub s t) (delQ_down xs s)
theorem skel_spec (n : Int) (xs : List Int) (hc : isC n xs = true) (k : Int) : maximal (keepL (fun f => decide ((pc f.toNat : Int) ≤ k)) (faces n xs) (faces n xs).length) = maxQ (skelQ xs k) :=
  keep_spec n xs hc (fun t => decide ((pc t : Int) ≤ k)) (skelQ_down xs k)

/-! ### induced -/

def meetZ (s : Nat) (f : Int) : Int := ((f.toNat &&& s : Nat) : Int)
theorem map_ok {L : List Int} (s : Nat) (h : allOk L = true) : allOk (L.map (meetZ s)) = true := by
  unfold allOk
  rw [List.all_eq_true]
  intro x hx
  obtain ⟨y, hy, rfl⟩ := List.mem_map.1 hx
  obtain ⟨f, rfl, hf⟩ := ok_nat h hy
  exact (okZ_nat _).2 (Nat.lt_of_le_of_lt Nat.and_le_left hf)
theorem ind_spec (s : Nat) (L : List Int) (h : allOk L = true) : maximal (mapL (meetZ s) L L.length) = maxQ (indQ L s) := by
  rw [mapL_all, maximal_maxQ _ (map_ok s h)]
  refine maxQ_congr fun t _ => ?_
  unfold indQ
  rw [Bool.eq_iff_iff, Bool.and_eq_true, inF_iff, inF_iff]
  constructor
  · rintro ⟨x, hx, e⟩
    obtain ⟨y, hy, rfl⟩ := List.mem_map.1 hx
    have e : sub t (y.toNat &&& s) = true := e
    rw [sub_and, Bool.and_eq_true] at e
    exact ⟨⟨y, hy, e.1⟩, e.2⟩
  · rintro ⟨⟨y, hy, e⟩, k⟩
    exact ⟨_, List.mem_map.2 ⟨y, hy, rfl⟩, by show sub t (y.toNat &&& s) = true; rw [sub_and, e, k]; rfl⟩

/-! ### union and meet -/

theorem app_ok {xs ys : List Int} (hx : allOk xs = true) (hy : allOk ys = true) : allOk (xs ++ ys) = true := by
  unfold allOk at *; rw [List.all_append, hx, hy]; rfl
theorem union_spec (xs ys : List Int) (hx : allOk xs = true) (hy : allOk ys = true) : maximal (xs ++ ys) = maxQ (orQ xs ys) := by
  rw [maximal_maxQ _ (app_ok hx hy)]
  refine maxQ_congr fun t _ => ?_
  unfold orQ inF
  rw [List.any_append]
/-- The meets of the first i with all, and of the next with the first k. -/
def meetL (xs ys : List Int) (i k : Nat) : List Int := (xs.take i).flatMap (fun f => ys.map (meetZ f.toNat)) ++ mapL (meetZ (xs.getD i 0).toNat) ys k
theorem meetL_start (xs ys : List Int) : meetL xs ys 0 0 = [] := rfl
theorem meetL_next (xs ys : List Int) (i k : Nat) (h : k < ys.length) : meetL xs ys i (k + 1) = meetL xs ys i k ++ [meetZ (xs.getD i 0).toNat (ys.getD k 0)] := by
  unfold meetL; rw [mapL_next _ _ _ h, List.append_assoc]
theorem meetL_line (xs ys : List Int) (i : Nat) (h : i < xs.length) : meetL xs ys i ys.length = meetL xs ys (i + 1) 0 := by
  unfold meetL
  rw [mapL_all, tk_next xs i h, List.flatMap_append]
  simp [mapL]
theorem meetL_le (xs ys : List Int) (i k : Nat) : (meetL xs ys i k).length ≤ xs.length * ys.length + ys.length := by
  unfold meetL
  rw [List.length_append]
  have h1 : ((xs.take i).flatMap fun f => ys.map (meetZ f.toNat)).length = (xs.take i).length * ys.length := by
    generalize xs.take i = L
    induction L with
    | nil => simp
    | cons x L ih => rw [List.flatMap_cons, List.length_append, List.length_map, ih, List.length_cons, Nat.succ_mul, Nat.add_comm]
  have h2 : (mapL (meetZ (xs.getD i 0).toNat) ys k).length ≤ ys.length := by
    unfold mapL; rw [List.length_map, List.length_take]; omega
  have h3 : (xs.take i).length ≤ xs.length := by rw [List.length_take]; omega
  have := Nat.mul_le_mul_right ys.length h3
  omega
theorem mem_meetL (xs ys : List Int) (x : Int) : x ∈ meetL xs ys xs.length 0 ↔ ∃ f g : Int, f ∈ xs ∧ g ∈ ys ∧ x = meetZ f.toNat g := by
  unfold meetL
  rw [List.take_length]
  have e : mapL (meetZ (xs.getD xs.length 0).toNat) ys 0 = [] := rfl
  rw [e, List.append_nil, List.mem_flatMap]
  constructor
  · rintro ⟨f, hf, hx⟩
    obtain ⟨g, hg, rfl⟩ := List.mem_map.1 hx
    exact ⟨f, g, hf, hg, rfl⟩
  · rintro ⟨f, g, hf, hg, rfl⟩
    exact ⟨f, hf, List.mem_map.2 ⟨g, hg, rfl⟩⟩
theorem meetL_ok (xs ys : List Int) (hy : allOk ys = true) : allOk (meetL xs ys xs.length 0) = true := by
  unfold allOk
  rw [List.all_eq_true]
  intro x hx
  obtain ⟨f, g, _, hg, rfl⟩ := (mem_meetL xs ys x).1 hx
  obtain ⟨b, rfl, hb⟩ := ok_nat hy hg
  exact (okZ_nat _).2 (Nat.lt_of_le_of_lt Nat.and_le_left hb)
theorem meet_spec (xs ys : List Int) (hy : allOk ys = true) : maximal (meetL xs ys xs.length 0) = maxQ (andQ xs ys) := by
  rw [maximal_maxQ _ (meetL_ok xs ys hy)]
  refine maxQ_congr fun t _ => ?_
  unfold andQ
  rw [Bool.eq_iff_iff, Bool.and_eq_true, inF_iff, inF_iff, inF_iff]
  constructor
  · rintro ⟨x, hx, e⟩
    obtain ⟨f, g, hf, hg, rfl⟩ := (mem_meetL xs ys x).1 hx
    have e : sub t (g.toNat &&& f.toNat) = true := e
    rw [sub_and, Bool.and_eq_true] at e
    exact ⟨⟨f, hf, e.2⟩, g, hg, e.1⟩
  · rintro ⟨⟨f, hf, e1⟩, g, hg, e2⟩
    exact ⟨_, (mem_meetL xs ys _).2 ⟨f, g, hf, hg, rfl⟩, by show sub t (g.toNat &&& f.toNat) = true; rw [sub_and, e1, e2]; rfl⟩

end Go.Proofs.Ythjgpbcdcgagfaa
