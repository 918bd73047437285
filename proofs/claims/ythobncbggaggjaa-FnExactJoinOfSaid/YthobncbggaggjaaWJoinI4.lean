/-
  WALKS of chapter 6 by impl: the join of a row of complexes.
-/
import Derived.Test.YthobncbggaggjaaWJoinI3
namespace Go.Proofs.Ythobncbggaggjaa
open Go.RowKit
open Sets Lin Hom Join

theorem isC_le2 {n : Int} {xs : List Int} (h : isC n xs = true) : xs.length ≤ 2 ^ n.toNat := by
  have h1 : Card (fun x => x ∈ xs) xs.length := ⟨xs, (isC_rises h).imp fun {a b} h e => by subst e; exact befZ_asym h h, fun _ => Iff.rfl, rfl⟩
  obtain ⟨d, hd, h2⟩ := (card_num (2 ^ n.toNat)).sub (T := fun x => x ∈ xs) fun x hx => by
    obtain ⟨f, rfl, hf⟩ := isC_nat h x hx
    exact ⟨by omega, by exact_mod_cast hf⟩
  rw [h1.unique h2]; exact hd

/-- Sets of nn points, not more than there are. -/
def Few (nn : Nat) (xs : List Int) : Prop := (∀ x, x ∈ xs → ∃ f : Nat, x = (f : Int) ∧ f < 2 ^ nn) ∧ xs.length ≤ 2 ^ nn
theorem few_isC {n : Int} {xs : List Int} (h : isC n xs = true) : Few n.toNat xs := ⟨isC_nat h, isC_le2 h⟩
theorem few_pairs {n m : Nat} {xs ys : List Int} (hx : Few n xs) (hy : Few m ys) : Few (n + m) (pairs n xs ys) := by
  constructor
  · intro z hz
    unfold pairs at hz
    obtain ⟨x, hx', hz⟩ := List.mem_flatMap.1 hz
    obtain ⟨y, hy', rfl⟩ := List.mem_map.1 hz
    obtain ⟨f, rfl, hf⟩ := hx.1 x hx'
    obtain ⟨g, rfl, hg⟩ := hy.1 y hy'
    refine ⟨f + 2 ^ n * g, by push_cast; rfl, ?_⟩
    have h1 : 2 ^ n * (g + 1) ≤ 2 ^ n * 2 ^ m := Nat.mul_le_mul_left _ (by omega)
    rw [← Nat.pow_add, Nat.mul_add] at h1
    omega
  · rw [pairs_length, Nat.pow_add]; exact Nat.mul_le_mul hx.2 hy.2
theorem few_at {n : Nat} {xs : List Int} (h : Few n xs) (k : Nat) (hk : k < xs.length) : ∃ f : Nat, xs.getD k 0 = (f : Int) ∧ f < 2 ^ n :=
  h.1 _ (by simp only [List.getD, List.getElem?_eq_getElem hk, Option.getD_some]; exact List.getElem_mem hk)
/-- Unions with sets moved up are pairs. -/
theorem uni_mov {n m : Nat} {xs ys : List Int} (hx : Few n xs) (hy : Few m ys) : uni xs (movL n ys) = pairs n xs ys := by
  unfold uni pairs movL
  rw [List.flatMap_def, List.flatMap_def]
  congr 1
  refine List.map_congr_left fun x hx' => ?_
  rw [List.map_map]
  refine List.map_congr_left fun y hy' => ?_
  obtain ⟨f, rfl, hf⟩ := hx.1 x hx'
  obtain ⟨g, rfl, hg⟩ := hy.1 y hy'
  show (((f : Int).toNat ||| ((2 : Int) ^ n * (g : Int)).toNat : Nat) : Int) = (f : Int) + 2 ^ n * (g : Int)
  have e : ((2 : Int) ^ n * (g : Int)) = ((2 ^ n * g : Nat) : Int) := by push_cast; rfl
  rw [e, Int.toNat_natCast, Int.toNat_natCast, Nat.or_comm, ← Nat.two_pow_add_eq_or_of_lt hf]
  push_cast
  omega

/-- Points and sets of a row of parts. -/
def accL (ps : List Pt) : Nat × List Int := ps.foldl (fun a p => (a.1 + p.1.toNat, pairs a.1 a.2 p.2.2.2)) (0, [0])
theorem accL_next (ps : List Pt) (k : Nat) (h : k < ps.length) : accL (ps.take (k + 1)) = ((accL (ps.take k)).1 + (ps.getD k pt0).1.toNat, pairs (accL (ps.take k)).1 (accL (ps.take k)).2 (ps.getD k pt0).2.2.2) := by
  unfold accL
  rw [List.take_add_one, List.foldl_append]
  simp [List.getD, List.getElem?_eq_getElem h]
theorem allC_at (ps : List Pt) (h : allC ps = true) (k : Nat) (hk : k < ps.length) : isC (ps.getD k pt0).1 (ps.getD k pt0).2.2.2 = true := by
  cases e : isC (ps.getD k pt0).1 (ps.getD k pt0).2.2.2 with
  | true => rfl
  | false => rw [allC_not ps k hk e] at h; cases h
/-- So many points and sets so far. -/
theorem acc_few (ps : List Pt) (h : allC ps = true) : ∀ k, k ≤ ps.length → ((accL (ps.take k)).1 : Int) = sumN (ps.take k) ∧ Few (accL (ps.take k)).1 (accL (ps.take k)).2
  | 0, _ => ⟨rfl, fun x hx => ⟨0, List.mem_singleton.1 hx, Nat.two_pow_pos _⟩, Nat.le_refl _⟩
  | k + 1, hk => by
    obtain ⟨h1, h2⟩ := acc_few ps h k (by omega)
    have hc := allC_at ps h k (by omega)
    have hn := isC_n hc
    rw [accL_next ps k (by omega), sumN_next ps k (by omega)]
    exact ⟨by dsimp only; omega, few_pairs h2 (few_isC hc)⟩
theorem sumN_rise (ps : List Pt) (h : allC ps = true) (k : Nat) : ∀ d, k + d ≤ ps.length → sumN (ps.take k) ≤ sumN (ps.take (k + d))
  | 0, _ => Int.le_refl _
  | d + 1, hd => by
    have h1 := sumN_rise ps h k d (by omega)
    have hn := isC_n (allC_at ps h (k + d) (by omega))
    rw [← Nat.add_assoc, sumN_next ps (k + d) (by omega)]
    omega
theorem sumN_top (ps : List Pt) (h : fitB ps = true) (k : Nat) (hk : k ≤ ps.length) : sumN (ps.take k) ≤ 6 := by
  unfold fitB at h
  rw [Bool.and_eq_true, decide_eq_true_eq] at h
  have h1 := sumN_rise ps h.1 k (ps.length - k) (by omega)
  rw [show k + (ps.length - k) = ps.length by omega, List.take_length] at h1
  omega

/-- The join of a row of parts, if they fit together. -/
def allO (ps : List Pt) : Option (Int × List Int) := if fitB ps = true then made (sumN ps) (accL ps).2 else none

set_option maxRecDepth 100000 in
set_option maxHeartbeats 4000000 in
theorem joinAll_any (b c : Nat) (ps : List Pt) (hl : ps.length ≤ 6) (w : World) (h : PartsAt w b ps) :
    Calls Try.prog 40 #[.slice (some ⟨b, 0, none⟩) ps.length c] w fun e w' => ∃ v, e = .returned (.tuple #[cx (oN (allO ps)) v, .bool (allO ps).isSome]) ∧ OwnInts w' w.heap.size v (oL (allO ps)) ∧ Below w.heap.size w w' := by
  have hb0 : Below w.heap.size w (w.alloc (.cells #[.int .i64 0, .slice none 0 0] 26)) := (Below.refl _ _).alloc (Nat.le_refl _) _
  have htr := Two.new w (.int .i64 0) (.slice none 0 0) 26
  have TR := Lib.hid htr
  have HP := Lib.hid (h.keeps hb0)
  have HBV := Lib.hid hb0
  clear hb0 htr h
  cases hf : fitB ps with
  | false =>
    have HF := Lib.hid hf
    rw [show allO ps = none by unfold allO; rw [if_neg (by rw [hf]; decide)]]
    clear hf
    go_enter Try.func40, Try.ntmps40
    go_wp2_with fail
    refine (fitTogether_b b c ps false HF.out hl _ HP.out).mono ?_
    rintro e V ⟨rfl, hb1⟩
    obtain ⟨r0, r1, r2, r3, r4⟩ := TR.out.keeps hb1
    have HB1 : Hid (Below w.heap.size w V) := HBV.out.trans (hb1.mono HBV.out.size)
    clear hb1
    go_wp2
    refine ret_cx2 w.heap.size rfl rfl rfl (x := .int .i64 0) (y := .slice none 0 0) (by go_simp) (by go_simp) rfl ?_
    exact ⟨_, rfl, OwnInts.nil _ _, by first | exact (HB1.out.setCell (by dsimp only; omega) _).setCell (by dsimp only; omega) _ | exact HB1.out⟩
  | true =>
    have HF := Lib.hid hf
    have hall : allC ps = true := by unfold fitB at hf; rw [Bool.and_eq_true] at hf; exact hf.1
    have HALL := Lib.hid hall
    have HTOP := Lib.hid (sumN_top ps hf)
    have HFEW := Lib.hid (acc_few ps hall)
    rw [show allO ps = made (sumN ps) (accL ps).2 by unfold allO; rw [if_pos hf]]
    clear hf hall
    go_enter Try.func40, Try.ntmps40
    go_wp2_with fail
    refine (fitTogether_b b c ps true HF.out hl _ HP.out).mono ?_
    rintro e V ⟨rfl, hb1⟩
    have TR1 := Lib.hid (TR.out.keeps hb1)
    have HP1 := Lib.hid (HP.out.keeps hb1)
    have HB1 : Hid (Below w.heap.size w V) := HBV.out.trans (hb1.mono HBV.out.size)
    have hvz := HB1.out.size
    have hvr := TR1.out.1
    have HO0 := Lib.hid (OwnInts.lit V V.heap.size [0] (Nat.le_refl _) (by decide))
    clear hb1
    go_wp2
    go_loopw [4, 5, 15] (fun p v i wr => ∃ k : Nat, k ≤ ps.length ∧ i = .int .i64 (k : Int) ∧ p = .int .i64 ((accL (ps.take k)).1 : Int) ∧ OwnInts wr V.heap.size v (accL (ps.take k)).2 ∧ Below V.heap.size V wr) (fun _ _ i _ => ps.length - (intOf i).toNat)
    case atStart => exact ⟨0, Nat.zero_le _, rfl, rfl, HO0.out, (Below.refl _ _).alloc (Nat.le_refl _) _⟩
    case round =>
      clear HO0
      obtain ⟨k, hk, rfl, rfl, hO, hB⟩ := hrel
      have HB := Lib.hid hB
      have hsz := hB.size
      obtain ⟨a1, c1, g1, rfl, hg1, hr1⟩ := hO.at
      have HR1 := Lib.hid hr1
      have HO := Lib.hid hO
      obtain ⟨wo, rfl⟩ : ∃ wo : World, wo = wr := ⟨_, rfl⟩
      clear hO hr1
      by_cases hlt : k < ps.length
      · obtain ⟨n, a, pc, xs, e, h1, h2, h3, h4, h5⟩ := HP1.out.keeps hB k hlt
        obtain ⟨hs, hfew⟩ := HFEW.out k hk
        have hA := accL_next ps k hlt
        have hc := allC_at ps HALL.out k hlt
        have ht1 := HTOP.out (k + 1) hlt
        rw [sumN_next ps k hlt] at ht1
        rw [e] at hA hc ht1
        dsimp only at hA hc ht1
        rw [← hs] at ht1
        obtain ⟨P, hP⟩ : ∃ P, (accL (ps.take k)).1 = P := ⟨_, rfl⟩
        obtain ⟨L, hL⟩ : ∃ L, (accL (ps.take k)).2 = L := ⟨_, rfl⟩
        rw [hP, hL] at hA hfew
        rw [hP] at ht1 hs
        rw [hL] at HR1 HO
        rw [hP, hL]
        have hn := isC_n hc
        have HC := Lib.hid (few_isC hc)
        have HL := Lib.hid hfew
        have HAN := Lib.hid hA
        have hbi : Below wo.heap.size wo (wo.alloc (.cells #[.int .i64 n, .slice a xs.length pc] 26)) := (Below.refl _ _).alloc (Nat.le_refl _) _
        have H3 := Lib.hid (h3.keeps hbi)
        have HR2 := Lib.hid (HR1.out.keeps hbi).ints
        have TW := Lib.hid (Two.new wo (.int .i64 n) (.slice a xs.length pc) 26)
        have HB2 : Hid (Below V.heap.size V (wo.alloc (.cells #[.int .i64 n, .slice a xs.length pc] 26))) := HB.out.trans (hbi.mono hsz)
        have hP6 : P ≤ 6 := by omega
        have hpw : P + n.toNat ≤ 6 := by omega
        have hmv : ∀ j, j < xs.length → ∃ f : Nat, xs.getD j 0 = (f : Int) ∧ 2 ^ P * f < 64 := fun j hj => by
          obtain ⟨f, e1, e2⟩ := few_at HC.out j hj
          have q1 : 2 ^ P * (f + 1) ≤ 2 ^ P * 2 ^ n.toNat := Nat.mul_le_mul_left _ (by omega)
          rw [← Nat.pow_add, Nat.mul_add] at q1
          have q2 := Nat.pow_le_pow_right (n := 2) (by decide) hpw
          have q3 := Nat.two_pow_pos P
          exact ⟨f, e1, by omega⟩
        have hmv2 : ∀ j, j < (movL P xs).length → ∃ f : Nat, (movL P xs).getD j 0 = (f : Int) ∧ f < 64 := fun j hj => by
          rw [movL_length] at hj
          obtain ⟨f, e1, e2⟩ := hmv j hj
          refine ⟨2 ^ P * f, ?_, e2⟩
          unfold movL
          simp only [List.getD, List.getElem?_map, List.getElem?_eq_getElem hj, Option.map_some, Option.getD_some] at e1 ⊢
          rw [e1]; push_cast; rfl
        have hLL : ∀ j, j < L.length → ∃ f : Nat, L.getD j 0 = (f : Int) ∧ f < 64 := fun j hj => by
          obtain ⟨f, e1, e2⟩ := few_at HL.out j hj
          have q2 := Nat.pow_le_pow_right (n := 2) (by decide) hP6
          exact ⟨f, e1, by omega⟩
        have hLn : L.length ≤ 262144 := by
          have q1 := HL.out.2
          have q2 := Nat.pow_le_pow_right (n := 2) (by decide) hP6
          omega
        have hXn : (movL P xs).length ≤ 64 := by
          rw [movL_length]
          have q1 := HC.out.2
          have q2 := Nat.pow_le_pow_right (n := 2) (by decide) (show n.toNat ≤ 6 by omega)
          omega
        have HMV := Lib.hid hmv
        have HMV2 := Lib.hid hmv2
        have HLL := Lib.hid hLL
        have HUN := Lib.hid (uni_mov HL.out HC.out)
        have hpw2 : wrap64 ((P : Int) + n) = (P : Int) + n := IntWalk.wrap64_in _ (by omega)
        have HPN : Hid (((P + n.toNat : Nat) : Int) = (P : Int) + n) := Lib.hid (by omega)
        clear e hc hs hfew hA hP hL h3 hbi hmv hmv2 hLL HO HR1 hB
        go_wp2_with fail
        refine (movedUp_any a pc xs P hP6 HMV.out h5 _ H3.out).mono ?_
        rintro e w1 ⟨v1, rfl, hO1, hb1⟩
        obtain ⟨a2, c2, g2, rfl, hg2, hr2⟩ := hO1.at
        have HR3 := Lib.hid hr2.ints
        have HR4 := Lib.hid (HR2.out.keeps hb1)
        have TW1 := Lib.hid (TW.out.keeps hb1)
        have HB3 : Hid (Below V.heap.size V w1) := HB2.out.trans (hb1.mono HB2.out.size)
        have hz3 := HB3.out.size
        clear hO1 hr2 hb1
        go_wp2_with fail
        refine (unionsOf_any a1 a2 c1 c2 L (movL P xs) HLL.out HMV2.out hLn hXn _ HR4.out HR3.out).mono ?_
        rintro e w2 ⟨v2, rfl, hO2, hb2⟩
        rw [HUN.out] at hO2
        obtain ⟨t0, t1, t2, _, _⟩ := TW1.out.keeps hb2
        have HO2 := Lib.hid (hO2.lower hz3)
        have HB4 : Hid (Below V.heap.size V w2) := HB3.out.trans (hb2.mono hz3)
        clear hO2 hb2
        go_wp2
        go_roundw
        case rel => exact ⟨k + 1, by omega, by go_num, by rw [HAN.out, HPN.out], by rw [HAN.out]; exact HO2.out, HB4.out⟩
        case measure => simp [intOf]; omega
      · have E : Hid (ps.take k = ps) := Lib.hid (by rw [show k = ps.length by omega]; exact List.take_length ..)
        obtain ⟨hs, hfew⟩ := HFEW.out k hk
        rw [E.out] at hs hfew HR1
        have hLn : (accL ps).2.length ≤ 1099511627776 := by
          have q1 := hfew.2
          have q0 := HTOP.out k hk
          rw [E.out, ← hs] at q0
          have q2 := Nat.pow_le_pow_right (n := 2) (by decide) (show (accL ps).1 ≤ 6 by omega)
          omega
        have HS := Lib.hid hs
        have TR2 := Lib.hid (TR1.out.keeps hB)
        rw [E.out]
        clear hfew hs HO hB
        go_wp2_with fail
        rw [HS.out]
        refine (implMake_any (sumN ps) a1 c1 (accL ps).2 hLn _ HR1.out.ints).mono ?_
        rintro e w6 ⟨v, rfl, hO2, hb6⟩
        obtain ⟨a2, c2x, g2, rfl, hc2, hg2, hr2, _⟩ := OwnInts.ata hO2 hb6.size
        obtain ⟨r0, r1, r2, r3, r4⟩ := TR2.out.keeps hb6
        have HO2 := Lib.hid (OwnInts.lower hO2 hsz)
        have HB6 : Hid (Below w.heap.size w w6) := HB1.out.trans ((HB.out.trans (hb6.mono hsz)).mono hvz)
        clear hO2 hr2 hb6
        go_wp2
        refine ret_cx2 w.heap.size rfl rfl rfl (x := .int .i64 (oN (made (sumN ps) (accL ps).2))) (y := .slice a2 (oL (made (sumN ps) (accL ps).2)).length c2x) (by go_simp) (by go_simp) rfl ?_
        exact ⟨_, rfl, (OwnInts.set (OwnInts.set HO2.out _ _ _ (by omega)) _ _ _ (by omega)).lower (by omega), (HB6.out.setCell (by dsimp only; omega) _).setCell (by dsimp only; omega) _⟩

end Go.Proofs.Ythobncbggaggjaa
