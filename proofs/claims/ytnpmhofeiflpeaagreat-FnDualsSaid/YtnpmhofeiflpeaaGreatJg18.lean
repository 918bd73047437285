/-
  TEXTS of one claim, put together: WEq3, WDualS2, WCur.
-/
import Derived.Test.YtnpmhofeiflpeaaGreatJg17
import Derived.Test.YtnpmhofeiflpeaaGreatJg16
import Derived.Test.YtnpmhofeiflpeaaGreatJg1
import Derived.Test.YtnpmhofeiflpeaaGreatProg
import Derived.WalkKit
import Derived.WalkLawsBesides
import Derived.Outline
import Derived.Lib.Hide
import Derived.Deep.QuietTactic
import Derived.BigQuiet
import Derived.WalkSmall
import Derived.IntWalk
import Derived.Laws.Bits64
import Derived.Deep.DeepCutAuto
/-! WALKS: spec.EqualComplex. -/

namespace Go.Proofs.YtnpmhofeiflpeaaGreat
open Go.RowKit
open Sets

theorem beq_false_at {xs ys : List Int} (k : Nat) (h : xs.getD k 0 ≠ ys.getD k 0) : (xs == ys) = false := by
  rw [beq_eq_false_iff_ne]; intro e; subst e; exact h rfl
theorem beq_false_len {xs ys : List Int} (h : ¬ xs.length = ys.length) : (xs == ys) = false := by
  rw [beq_eq_false_iff_ne]; intro e; subst e; exact h rfl
theorem take_next {xs ys : List Int} {k : Nat} (hk : k < xs.length) (hl : k < ys.length) (h : xs.take k = ys.take k) (e : xs.getD k 0 = ys.getD k 0) : xs.take (k + 1) = ys.take (k + 1) := by
  rw [List.take_succ_eq_append_getElem hk, List.take_succ_eq_append_getElem hl, h]
  rw [List.getD, List.getElem?_eq_getElem hk, List.getD, List.getElem?_eq_getElem hl] at e
  simp at e
  rw [e]

set_option maxRecDepth 100000 in
set_option maxHeartbeats 1000000 in
theorem l2Same_any (a1 a2 : Option Addr) (c1 c2 : Nat) (xs ys : List Int) (hlx : xs.length ≤ 1099511627776) (hly : ys.length ≤ 1099511627776) (w : World) (h1 : Ints w a1 xs) (h2 : Ints w a2 ys) :
    Calls Tryz.prog 83 #[.slice a1 xs.length c1, .slice a2 ys.length c2] w fun e w' => e = .returned (.bool (xs == ys)) ∧ Below w.heap.size w w' := by
  have H1 := Lib.hid h1
  have H2 := Lib.hid h2
  clear h1 h2
  by_cases hl : xs.length = ys.length
  · have hl1 : xs.length ≤ ys.length := by omega
    have hl2 : ys.length ≤ xs.length := by omega
    have hne : ((xs.length : Int) != (ys.length : Int)) = false := by rw [hl]; simp
    have HL := Lib.hid hl
    clear hl
    go_enter Tryz.func83, Tryz.ntmps83
    go_wp2
    clear hne
    go_loopw [5] (fun i wr => ∃ k n : Nat, k ≤ xs.length ∧ i = .int .i64 k ∧ wr = w.drewN n ∧ xs.take k = ys.take k) (fun i _ => xs.length - (intOf i).toNat)
    case atStart => exact ⟨0, 0, Nat.zero_le _, rfl, rfl, rfl⟩
    case round =>
      obtain ⟨k, n, hk, rfl, rfl, ht⟩ := hrel
      have HT := Lib.hid ht
      clear ht
      by_cases hlt : k < xs.length
      · have hlt2 : k < ys.length := by omega
        obtain ⟨b1, o1, rfl, g1⟩ := H1.out k hlt
        obtain ⟨b2, o2, rfl, g2⟩ := H2.out k hlt2
        obtain ⟨x, hx⟩ : ∃ x, xs.getD k 0 = x := ⟨_, rfl⟩
        obtain ⟨y, hy⟩ : ∃ y, ys.getD k 0 = y := ⟨_, rfl⟩
        rw [hx] at g1
        rw [hy] at g2
        have HX := Lib.hid hx
        have HY := Lib.hid hy
        clear hx hy
        by_cases hxy : x = y
        · subst hxy
          go_wp2
          go_quiet (fail)
          go_wp2
          go_roundw
          case rel => exact ⟨k + 1, n + nq, by omega, by go_num, rfl, take_next hlt hlt2 HT.out (HX.out.trans HY.out.symm)⟩
          case measure => simp [intOf]; omega
        · have hb : (x != y) = true := by simp [hxy]
          have HN := Lib.hid hxy
          clear hxy
          go_wp2
          go_quiet (fail)
          go_wp2
          go_ret
          rw [beq_false_at k (by rw [HX.out, HY.out]; exact HN.out)]
          exact ⟨rfl, (Mem.below_drewN w n).trans ((Mem.below_drewN _ _).mono (by simp))⟩
      · go_wp2
        go_ret
        have : xs = ys := by
          have := HT.out
          rwa [List.take_of_length_le (by omega), List.take_of_length_le (by omega)] at this
        subst this
        rw [beq_self_eq_true]
        exact ⟨rfl, Mem.below_drewN w n⟩
  · have hne : ((xs.length : Int) != (ys.length : Int)) = true := by simp; omega
    rw [beq_false_len hl]
    clear hl
    go_enter Tryz.func83, Tryz.ntmps83
    go_wp2
    go_ret
    exact ⟨rfl, Below.refl _ _⟩

set_option maxRecDepth 100000 in
set_option maxHeartbeats 1000000 in
theorem specEqual_any (n m : Int) (pa pb : Option Addr) (ca cb : Nat) (xs ys : List Int) (hlx : xs.length ≤ 1099511627776) (hly : ys.length ≤ 1099511627776) (w : World) (hx : Ints w pa xs) (hy : Ints w pb ys) :
    Calls Tryz.prog 47 #[cx n (.slice pa xs.length ca), cx m (.slice pb ys.length cb)] w fun e w' => e = .returned (.bool (eqC n m xs ys)) ∧ Below w.heap.size w w' := by
  have hB : Below w.heap.size w ((w.alloc (.cells #[.int .i64 n, .slice pa xs.length ca] 26)).alloc (.cells #[.int .i64 m, .slice pb ys.length cb] 26)) := ((Below.refl _ _).alloc (by simp) _).alloc (by simp) _
  have HX := Lib.hid (hx.keeps hB)
  have HY := Lib.hid (hy.keeps hB)
  have HB := Lib.hid hB
  clear hx hy hB
  by_cases hnm : n = m
  · subst hnm
    unfold eqC
    rw [beq_self_eq_true, Bool.true_and]
    obtain ⟨r, hr⟩ : ∃ r, (xs == ys) = r := ⟨_, rfl⟩
    have hc := fun w h1 h2 => l2Same_any pa pb ca cb xs ys hlx hly w h1 h2
    rw [hr] at hc ⊢
    have HC := Lib.hid hc
    clear hc hr
    go_enter Tryz.func47, Tryz.ntmps47
    go_wp2_with fail
    refine (HC.out _ HX.out HY.out).mono ?_
    rintro e w1 ⟨rfl, hb1⟩
    go_wp2
    go_ret
    exact ⟨rfl, HB.out.trans (hb1.mono (by simp; omega))⟩
  · have hne : (n == m) = false := by simp [hnm]
    unfold eqC
    rw [hne, Bool.false_and]
    clear hnm
    go_enter Tryz.func47, Tryz.ntmps47
    go_wp2_with fail
    go_ret
    exact ⟨rfl, HB.out⟩

end Go.Proofs.YtnpmhofeiflpeaaGreat

/-! WALKS: spec's chapter 8: CoversOf, DualOf, IsSelfDual. -/

namespace Go.Proofs.YtnpmhofeiflpeaaGreat
open Go.RowKit
open Sets Hom

theorem dualO_no {n : Int} {xs : List Int} (h : isC n xs = false) : dualO n xs = none := by unfold dualO; rw [h]; rfl
theorem dualO_yes {n : Int} {xs : List Int} (h : isC n xs = true) : dualO n xs = some (n, maxQ (dualQ n.toNat (inF xs))) := by unfold dualO; rw [h]; rfl

set_option maxRecDepth 100000 in
set_option maxHeartbeats 2000000 in
theorem specCovers_any (n : Int) (a : Option Addr) (c : Nat) (xs : List Int) (hlen : xs.length ≤ 1099511627776) (w : World) (h : Ints w a xs) :
    Calls Tryz.prog 18 #[.int .i64 n, .slice a xs.length c] w fun e w' => ∃ v, e = .returned v ∧ OwnInts w' w.heap.size v (coversL n xs) ∧ Below w.heap.size w w' := by
  have HH := Lib.hid h
  clear h
  cases hs : setsOf n xs with
  | false =>
    have HM := Lib.hid (made_no hs)
    rw [covers_no hs]
    clear hs
    go_enter Tryz.func18, Tryz.ntmps18
    go_wp2_with fail
    refine (specMake_any n _ _ xs hlen _ HH.out).mono ?_
    rintro e w1 ⟨v, he, hO, hb1⟩
    rw [HM.out] at he hO
    replace he : e = .returned (.tuple #[cx 0 v, .bool false]) := he
    subst he
    obtain ⟨a2, c2, g2, hv2, _⟩ := OwnInts.atc hO
    replace hv2 : v = .slice a2 0 c2 := hv2
    subst hv2
    have hsz := hb1.size
    have HB1 := Lib.hid hb1
    clear hb1 hO
    go_wp2
    go_ret
    have hlit := OwnInts.lit (w1.alloc (Obj.cells #[Value.int IntKind.i64 0, Value.slice a2 0 c2] 26)) w.heap.size [] (by simp; omega) (by simp)
    rw [World.size_alloc] at hlit
    exact ⟨_, rfl, hlit, by first | exact (HB1.out.alloc (by omega) _).alloc (by simp; omega) _ | exact HB1.out.alloc (by omega) _⟩
  | true =>
    have HM := Lib.hid (made_yes hs)
    have HOK := Lib.hid (setsOf_ok hs)
    have HN := Lib.hid ((setsOf_iff n xs).1 hs).1
    rw [covers_yes hs]
    clear hs
    go_enter Tryz.func18, Tryz.ntmps18
    go_wp2_with fail
    refine (specMake_any n _ _ xs hlen _ HH.out).mono ?_
    rintro e w1 ⟨v, he, hO, hb1⟩
    rw [HM.out] at he hO
    replace he : e = .returned (.tuple #[cx n v, .bool true]) := he
    subst he
    obtain ⟨a2, c2, g2, hv2, _⟩ := OwnInts.atc hO
    replace hv2 : v = .slice a2 (maximal xs).length c2 := hv2
    subst hv2
    have hsz := hb1.size
    have HH1 := Lib.hid ((HH.out.keeps hb1).keeps ((Below.refl w1.heap.size w1).alloc (Nat.le_refl _) (Obj.cells #[Value.int IntKind.i64 n, Value.slice a2 (maximal xs).length c2] 26)))
    have HB1 : Hid (Below w.heap.size w (w1.alloc (Obj.cells #[Value.int IntKind.i64 n, Value.slice a2 (maximal xs).length c2] 26))) := hb1.alloc (by omega) _
    clear hb1 hO
    go_wp2_with fail
    refine (l8Covers_any n _ _ xs HN.out HOK.out hlen _ HH1.out).mono ?_
    rintro e w3 ⟨v, rfl, hO3, hb3⟩
    have HO3 := Lib.hid hO3
    have hsz2 := HB1.out.size
    have HB3 : Hid (Below w.heap.size w w3) := HB1.out.trans (hb3.mono hsz2)
    clear hb3 hO3
    go_wp2
    go_ret
    exact ⟨_, rfl, HO3.out.lower hsz2, HB3.out⟩

theorem partLD_le (ok : Bool) (n : Int) (q : Nat → Bool) : (oL (partO ok n q)).length ≤ 64 := by
  unfold partO
  cases ok
  · exact Nat.zero_le _
  · exact maxQ_le q
theorem eqC_same (n : Int) (xs ys : List Int) : eqC n n xs ys = (xs == ys) := by unfold eqC; simp
theorem comp_map_ok {n : Int} {xs : List Int} (h : isC n xs = true) : allOk ((missing n xs).map (compZ n)) = true := by
  obtain ⟨m, rfl, h1, h2⟩ := isC_cast h
  have h64 := pow64 h2
  unfold allOk
  rw [List.all_eq_true]
  intro x hx
  obtain ⟨y, hy, rfl⟩ := List.mem_map.1 hx
  have hs := missing_set y hy
  obtain ⟨s, rfl, _⟩ := ok_nat (missing_ok _ _) hy
  have := (setB_m m s h2).1 hs
  rw [compZ_nat hs, Int.toNat_natCast]
  exact (okZ_nat _).2 (by omega)
theorem specAtD_ok {xs : List Int} (h : allOk xs = true) (k : Nat) (hk : k < xs.length) : ∃ t : Nat, xs.getD k 0 = (t : Int) ∧ t < 64 := by
  refine ok_nat h ?_
  rw [List.getD, List.getElem?_eq_getElem hk]; exact List.getElem_mem hk

set_option maxRecDepth 100000 in
set_option maxHeartbeats 4000000 in
theorem specDual_any (n : Int) (a : Option Addr) (c : Nat) (xs : List Int) (hlen : xs.length ≤ 1099511627776) (w : World) (h : Ints w a xs) :
    Calls Tryz.prog 7 #[cx n (.slice a xs.length c)] w fun e w' => ∃ v, e = .returned (.tuple #[cx (oN (dualO n xs)) v, .bool (dualO n xs).isSome]) ∧ OwnInts w' w.heap.size v (oL (dualO n xs)) ∧ Below w.heap.size w w' := by
  obtain ⟨i0, hi, hz0, hz1, hz2⟩ := info_parts info_int
  have hb0 : Below w.heap.size w ((w.alloc (Obj.cells #[Value.int IntKind.i64 n, Value.slice a xs.length c] 26)).alloc (Obj.cells #[Value.int IntKind.i64 0, Value.slice none 0 0] 26)) := ((Below.refl _ _).alloc (Nat.le_refl _) _).alloc (by simp) _
  have htc := (Two.new w (.int .i64 n) (.slice a xs.length c) 26).alloc (.cells #[.int .i64 0, .slice none 0 0] 26)
  have htr := Two.new (w.alloc (.cells #[.int .i64 n, .slice a xs.length c] 26)) (.int .i64 0) (.slice none 0 0) 26
  rw [World.size_alloc] at htr
  obtain ⟨br, hbr⟩ : ∃ br, w.heap.size + 1 = br := ⟨_, rfl⟩
  rw [hbr] at htr
  have hwb : w.heap.size < br := by omega
  have TC := Lib.hid htc
  have TR := Lib.hid htr
  have HH := Lib.hid (h.keeps hb0)
  have HB0 := Lib.hid hb0
  have HBR := Lib.hid hbr
  clear h htr hb0 htc hbr
  obtain ⟨t0, t1, t2, _, _⟩ := TC.out
  cases hC : isC n xs with
  | false =>
    have HC := Lib.hid hC
    rw [dualO_no hC]
    clear hC
    go_enter Tryz.func7, Tryz.ntmps7
    go_wp2_with fail
    refine (specIsC_b n _ _ xs false HC.out hlen _ HH.out).mono ?_
    rintro e w1 ⟨rfl, hb1⟩
    try rw [HBR.out]
    obtain ⟨r0, r1, r2, r3, r4⟩ := TR.out.keeps hb1
    have HB1 : Hid (Below w.heap.size w w1) := HB0.out.trans (hb1.mono HB0.out.size)
    clear hb1 t0 t1 t2
    go_wp2
    refine ret_cx2 br rfl rfl rfl (x := .int .i64 0) (y := .slice none 0 0) (by go_simp) (by go_simp) rfl ?_
    exact ⟨_, rfl, OwnInts.nil _ _, by first | exact (HB1.out.setCell (by dsimp only; omega) _).setCell (by dsimp only; omega) _ | exact HB1.out⟩
  | true =>
    have HC := Lib.hid hC
    have HN := Lib.hid ((inB_iff _ _ _).2 (isC_n hC))
    obtain ⟨M, hM⟩ : ∃ M, missing n xs = M := ⟨_, rfl⟩
    have hok := missing_ok n xs
    have hle := missing_le n xs
    have hdm := dual_of_missing hC
    have hmk : allOk ((missing n xs).map (compZ n)) = true := comp_map_ok hC
    rw [dualO_yes hC]
    rw [hM] at hok hle hdm hmk
    rw [← hdm]
    have HM := Lib.hid hM
    have HOK := Lib.hid hok
    have HMK := Lib.hid hmk
    clear hC hM hok hdm hmk
    go_enter Tryz.func7, Tryz.ntmps7
    go_wp2_with fail
    refine (specIsC_b n _ _ xs true HC.out hlen _ HH.out).mono ?_
    rintro e w1 ⟨rfl, hb1⟩
    try rw [HBR.out]
    have HB1 : Hid (Below w.heap.size w w1) := HB0.out.trans (hb1.mono HB0.out.size)
    have HI1 := Lib.hid (HH.out.keeps hb1)
    have TC1 := Lib.hid (TC.out.keeps hb1)
    have TR1 := Lib.hid (TR.out.keeps hb1)
    clear t0 t1 t2 hb1 HH TC TR HB0
    obtain ⟨t0, t1, t2, _, _⟩ := TC1.out
    go_wp2_with fail
    refine (specMissing_b n _ _ xs M HM.out hlen _ HI1.out).mono ?_
    rintro e w2 ⟨v, rfl, hO, hb2⟩
    obtain ⟨aM, cM, gM, rfl, _, hIM⟩ := OwnInts.at hO
    have HIM := Lib.hid hIM.ints
    have hsz1 := HB1.out.size
    have HB2 : Hid (Below w.heap.size w w2) := HB1.out.trans (hb2.mono hsz1)
    have TC2 := Lib.hid (TC1.out.keeps hb2)
    have TR2 := Lib.hid (TR1.out.keeps hb2)
    clear t0 t1 t2 hO hIM hb2 TC1 TR1 HI1
    go_wp2
    go_loopw [5, 6] (fun v i wr => ∃ k gg cc : Nat, k ≤ M.length ∧ i = .int .i64 (k : Int) ∧ v = .slice (some ⟨gg, 0, none⟩) k cc ∧ OwnInts wr w2.heap.size (.slice (some ⟨gg, 0, none⟩) k cc) (mapL (compZ n) M k) ∧ Below w2.heap.size w2 wr) (fun _ i _ => M.length - (intOf i).toNat)
    case atStart => exact ⟨0, _, _, by omega, rfl, rfl, OwnInts.lit w2 w2.heap.size [] (by simp) (by simp), (Below.refl _ _).alloc (Nat.le_refl _) _⟩
    case round =>
      obtain ⟨k, gg, cc, hk, rfl, rfl, hO, hB⟩ := hrel
      have HB := Lib.hid hB
      have hsz := hB.size
      have hml : (mapL (compZ n) M k).length = k := by unfold mapL; rw [List.length_map, List.length_take]; omega
      by_cases hlt : k < M.length
      · have HO : Hid (wr.ownsRow w2.heap.size 3 1 (.slice (some ⟨gg, 0, none⟩) k cc) k ((mapL (compZ n) M k).map (Value.int .i64))) := by
          have h := hO
          unfold OwnInts at h
          rw [hml] at h
          exact h
        obtain ⟨b1, o1, rfl, g1⟩ := (HIM.out.keeps hB) k hlt
        obtain ⟨t, ht, ht6⟩ := specAtD_ok HOK.out k hlt
        have HTT := Lib.hid ht
        rw [ht] at g1
        obtain ⟨t0, t1, t2, _, _⟩ := TC2.out.keeps hB
        obtain ⟨z, hz⟩ : ∃ z, compZ n (t : Int) = z := ⟨_, rfl⟩
        have HN1 : Hid (mapL (compZ n) M (k + 1) = mapL (compZ n) M k ++ [z]) := by
          have : mapL (compZ n) M (k + 1) = mapL (compZ n) M k ++ [z] := by rw [mapL_next _ _ _ hlt, ht, hz]
          exact this
        have HZ := Lib.hid hz
        have HML := Lib.hid hml
        have hbg : ∀ g, (Value.slice (some ⟨gg, 0, none⟩) k cc).ownBlock = some g → w2.heap.size ≤ g := fun g hg => (HO.out.lt g hg).1
        have HBG := Lib.hid hbg
        clear hO ht hz hbg hml
        go_wp2_with fail
        go_region_law (first | (go_simp; go_at_call 14; refine (specComp_b n (t : Int) z HZ.out _).mono ?_; rintro e w' ⟨rfl, rfl⟩) | (refine step_append_lies _ (by rfl) _ _ _ (by rfl) w2.heap.size 3 i0 (.int .i64 0) 1 8 Tryz.underlying24 hi hz0 hz1 hz2 rfl (by omega) (.slice (some ⟨gg, 0, none⟩) k cc) k (List.map (Value.int IntKind.i64) (mapL (compZ n) M k)) (by rfl) ((HO.out.alloc _).drew) ⟨wr.heap.size, 0, none⟩ 1 1 [.int .i64 z] (by rfl) (by rfl) (World.news_of_block (cs := #[.int .i64 z]) (t := 3) (fr := (0, 0)) (heap_alloc_new wr _)) (by simp [Value.oneCell']) (by omega) (by unfold maxLen; omega) (by omega) (by simp; omega) (wr.heap.size + 1) (by simp) ?_; intro gg2 cap w3 hown1 hgrow hat hlt3) | fail "arm")
        all_goals
          have hB3 : Below w2.heap.size w2 w3 := ((HB.out.alloc hsz _).drew).grown hgrow (by simp; omega) HBG.out
          have hO3 : OwnInts w3 w2.heap.size (.slice (some ⟨gg2, 0, none⟩) (k + 1) cap) (mapL (compZ n) M (k + 1)) := by
            unfold OwnInts
            rw [HN1.out, List.length_append, List.map_append, HML.out]
            exact hown1
          have HO3 := Lib.hid hO3
          clear hown1 hgrow hat hO3
          go_wp2
          refine ⟨⟨k + 1, gg2, cap, by omega, by go_num, rfl, HO3.out, hB3⟩, ?_⟩
          simp [intOf]; omega
      · have E := Lib.hid (show k = M.length by omega)
        rw [E.out, mapL_all] at hO
        have hmm : (M.map (compZ n)).length = M.length := List.length_map ..
        obtain ⟨a1, c1, g1, hv1, _, hI1⟩ := OwnInts.at hO
        rw [hmm] at hv1
        have HI1 := Lib.hid hI1.ints
        rw [hv1] at hO
        have TR3 := Lib.hid (TR2.out.keeps hB)
        obtain ⟨t0, t1, t2, _, _⟩ := TC2.out.keeps hB
        have hszw := HB2.out.size
        have HB3 : Hid (Below w.heap.size w wr) := HB2.out.trans (hB.mono hszw)
        have HMM := Lib.hid hmm
        have HV1 := Lib.hid hv1
        clear hO hI1 hB hmm hv1
        go_wp2_with fail
        rw [E.out, HV1.out]
        have hcall := l3Make_any n a1 c1 (M.map (compZ n)) HMK.out (by rw [HMM.out]; omega) wr HI1.out
        rw [HMM.out] at hcall
        refine hcall.mono ?_
        rintro e w6 ⟨v, rfl, hO2, hb6⟩
        obtain ⟨a2, c2x, g2, rfl, _⟩ := OwnInts.atc hO2
        have hzb := TR3.out.1
        have hszr := HB3.out.size
        obtain ⟨r0, r1, r2, r3, r4⟩ := TR3.out.keeps hb6
        have HO2 := Lib.hid hO2
        have HB6 : Hid (Below w.heap.size w w6) := HB3.out.trans (hb6.mono hszr)
        clear hO2 hb6 t0 t1 t2
        go_wp2
        refine ret_cx2 br rfl rfl rfl (x := .int .i64 n) (y := .slice a2 (maximal (M.map (compZ n))).length c2x) (by go_simp) (by go_simp) rfl ?_
        exact ⟨_, rfl, (OwnInts.set (OwnInts.set HO2.out _ _ _ hzb) _ _ _ hzb).lower hszr, (HB6.out.setCell (by dsimp only; omega) _).setCell (by dsimp only; omega) _⟩


set_option maxRecDepth 100000 in
set_option maxHeartbeats 2000000 in
theorem specSelf_any (n : Int) (a : Option Addr) (c : Nat) (xs : List Int) (hlen : xs.length ≤ 1099511627776) (w : World) (h : Ints w a xs) :
    Calls Tryz.prog 16 #[cx n (.slice a xs.length c)] w fun e w' => e = .returned (.bool (selfB n xs)) ∧ Below w.heap.size w w' := by
  have hb0 : Below w.heap.size w (w.alloc (.cells #[.int .i64 n, .slice a xs.length c] 26)) := (Below.refl _ _).alloc (Nat.le_refl _) _
  have HH := Lib.hid (h.keeps hb0)
  have HB0 := Lib.hid hb0
  have TC := Lib.hid (Two.new w (.int .i64 n) (.slice a xs.length c) 26)
  clear h hb0
  obtain ⟨t0, t1, t2, _, _⟩ := TC.out
  obtain ⟨D, hD⟩ : ∃ D, dualO n xs = D := ⟨_, rfl⟩
  have hl : (oL D).length ≤ 64 := by rw [← hD]; exact partLD_le _ _ _
  have HD := Lib.hid (fun W (hh : Ints W a xs) => specDual_any n a c xs hlen W hh)
  rw [hD] at HD
  have HS : Hid (selfB n xs = (D.isSome && eqC n (oN D) xs (oL D))) := by
    have : selfB n xs = (D.isSome && eqC n (oN D) xs (oL D)) := by
      rw [← hD]
      unfold selfB
      cases hC : isC n xs with
      | false => rw [dualO_no hC]; rfl
      | true =>
        rw [dualO_yes hC]
        show (true && _) = (true && eqC n n xs (maxQ (dualQ n.toNat (inF xs))))
        rw [eqC_same]
    exact this
  clear hD
  go_enter Tryz.func16, Tryz.ntmps16
  go_wp2_with fail
  refine (HD.out _ HH.out).mono ?_
  rintro e w1 ⟨v, rfl, hO, hb1⟩
  obtain ⟨a2, c2, g2, rfl, hc2, hg2, hr2, _⟩ := OwnInts.ata hO hb1.size
  have hsz0 := hb1.size
  have hba : Below w1.heap.size w1 (w1.alloc (.cells #[.int .i64 (oN D), .slice a2 (oL D).length c2] 26)) := (Below.refl _ _).alloc (Nat.le_refl _) _
  have HX := Lib.hid ((HH.out.keeps hb1).keeps hba)
  have HY := Lib.hid ((hr2.ints).keeps hba)
  have TC2 := Lib.hid ((TC.out.keeps hb1).keeps hba)
  have TD2 := Lib.hid (Two.new w1 (.int .i64 (oN D)) (.slice a2 (oL D).length c2) 26)
  have HB2 : Hid (Below w.heap.size w (w1.alloc (.cells #[.int .i64 (oN D), .slice a2 (oL D).length c2] 26))) := (HB0.out.trans (hb1.mono HB0.out.size)).trans (hba.mono (Nat.le_trans HB0.out.size hb1.size))
  clear t0 t1 t2 hO hb1 hr2 hba HH TC
  obtain ⟨t0, t1, t2, _, _⟩ := TC2.out
  obtain ⟨s0, s1, s2, _, _⟩ := TD2.out
  cases hs : D.isSome with
  | false =>
    have HR : Hid (selfB n xs = false) := by
      have := HS.out
      rw [hs] at this; exact this
    go_wp2
    go_ret
    exact ⟨by rw [HR.out]; rfl, HB2.out⟩
  | true =>
    obtain ⟨b, hb⟩ : ∃ b, eqC n (oN D) xs (oL D) = b := ⟨_, rfl⟩
    have HR : Hid (selfB n xs = b) := by
      have := HS.out
      rw [hs, hb] at this; exact this
    have HB := Lib.hid hb
    clear hb
    have hsz2 := HB2.out.size
    go_wp2_with fail
    have hcall := specEqual_any n (oN D) a a2 c c2 xs (oL D) hlen (Nat.le_trans hl (by decide)) _ HX.out HY.out
    rw [HB.out] at hcall
    refine hcall.mono ?_
    rintro e w3 ⟨rfl, hb3⟩
    go_wp2
    go_ret
    exact ⟨by rw [HR.out]; rfl, HB2.out.trans (hb3.mono hsz2)⟩

end Go.Proofs.YtnpmhofeiflpeaaGreat

/-! WALKS: the cursor over the bytes of a draw: what it hands back is in range; it changes its own block alone. -/

namespace Go.Proofs.YtnpmhofeiflpeaaGreat
open Go.RowKit

/-- A slice of n bytes, none of them in block B. -/
def Bytes (w : World) (a : Option Addr) (n : Nat) (B : Nat) : Prop := ∀ j, j < n → ∃ b o x : Nat, a = some ⟨b, o, none⟩ ∧ b ≠ B ∧ x ≤ 255 ∧ w.cell? ⟨b, o + j, none⟩ = some (.int .u8 (x : Int))

/-- A cursor in block B over n bytes. -/
structure Cur (w : World) (B : Nat) (a : Option Addr) (n c : Nat) : Prop where
  c0 : w.cell? ⟨B, 0, none⟩ = some (.slice a n c)
  c1 : ∃ i : Nat, i ≤ n ∧ w.cell? ⟨B, 1, none⟩ = some (.int .i64 (i : Int))
  c2 : ∃ h : Int, w.cell? ⟨B, 2, none⟩ = some (.int .i64 h)
  fr : ∀ j, w.frozen? ⟨B, j, none⟩ = false
  bs : Bytes w a n B

theorem Bytes.of_but {w w' : World} {a : Option Addr} {n B : Nat} (h : Bytes w a n B) (hg : w.grownBy w' (some B)) : Bytes w' a n B := fun j hj => by
  obtain ⟨b, o, x, e, hb, hx, hc⟩ := h j hj
  exact ⟨b, o, x, e, hb, hx, by rw [hg.cell_far ⟨b, o + j, none⟩ (World.block_lt_of_cell? w _ hc) (by simpa using hb)]; exact hc⟩

theorem Cur.set1 {w : World} {B : Nat} {a : Option Addr} {n c : Nat} (h : Cur w B a n c) (i : Nat) (hi : i ≤ n) : Cur (w.setCell ⟨B, 1, none⟩ (.int .i64 (i : Int))) B a n c := by
  obtain ⟨c0, ⟨i0, _, c1⟩, ⟨h2, c2⟩, fr, bs⟩ := h
  refine ⟨?_, ⟨i, hi, World.cell?_setCell_same _ _ _ c1⟩, ⟨h2, ?_⟩, fun j => ?_, bs.of_but (Mem.but_setCell _ _ _ _)⟩
  · rw [World.cell?_setCell_other _ _ _ _ (by simp)]; exact c0
  · rw [World.cell?_setCell_other _ _ _ _ (by simp)]; exact c2
  · rw [World.frozen?_setCell]; exact fr j
theorem Cur.set2 {w : World} {B : Nat} {a : Option Addr} {n c : Nat} (h : Cur w B a n c) (v : Int) : Cur (w.setCell ⟨B, 2, none⟩ (.int .i64 v)) B a n c := by
  obtain ⟨c0, ⟨i0, hi, c1⟩, ⟨h2, c2⟩, fr, bs⟩ := h
  refine ⟨?_, ⟨i0, hi, ?_⟩, ⟨v, World.cell?_setCell_same _ _ _ c2⟩, fun j => ?_, bs.of_but (Mem.but_setCell _ _ _ _)⟩
  · rw [World.cell?_setCell_other _ _ _ _ (by simp)]; exact c0
  · rw [World.cell?_setCell_other _ _ _ _ (by simp)]; exact c1
  · rw [World.frozen?_setCell]; exact fr j
theorem Cur.drewN {w : World} {B : Nat} {a : Option Addr} {n c : Nat} (h : Cur w B a n c) (m : Nat) : Cur (w.drewN m) B a n c := ⟨h.c0, h.c1, h.c2, h.fr, h.bs⟩

theorem wrap_small (y : Nat) (h : y ≤ 4294967295) : IntKind.i64.wrap (y : Int) = (y : Int) := by
  rw [IntWalk.i64_in _ (by omega)]
theorem and255 (z : Int) : ∃ x : Nat, x ≤ 255 ∧ bits BinOp.and IntKind.i64 z 255 = (x : Int) := by
  have h : (BitVec.ofInt 64 z &&& BitVec.ofInt 64 255).toNat ≤ 255 := by
    rw [BitVec.toNat_and]; exact Nat.le_trans Nat.and_le_right (by decide)
  refine ⟨_, h, ?_⟩
  show IntKind.i64.wrap ((BitVec.ofInt 64 z &&& BitVec.ofInt 64 255).toNat : Int) = _
  exact wrap_small _ (Nat.le_trans h (by decide))

set_option maxRecDepth 100000 in
set_option maxHeartbeats 2000000 in
theorem byte_any (B : Nat) (a : Option Addr) (n c : Nat) (hn : n ≤ 140737488355328) (w : World) (hc : Cur w B a n c) :
    Calls Tryz.prog 72 #[.pointer (some ⟨B, 0, none⟩)] w fun e w' => ∃ x : Nat, x ≤ 255 ∧ e = .returned (.int .i64 (x : Int)) ∧ Cur w' B a n c ∧ w.grownBy w' (some B) := by
  have HC := Lib.hid hc
  obtain ⟨c0, ⟨i, hi, c1⟩, ⟨h, c2⟩, fr, bs⟩ := hc
  have f2 := fr 2
  clear bs fr c0 c1 hi i
  go_enter Tryz.func72, Tryz.ntmps72
  go_wp2_with fail
  generalize wrap64 (wrap64 (h * 6364136223846793005) + 1442695040888963407) = v
  generalize wrap64 (h * 6364136223846793005) = v'
  have HC1 := Lib.hid (HC.out.set2 v)
  have HG1 := Lib.hid (Mem.but_setCell w B 2 (.int .i64 v))
  clear c2 f2 HC
  generalize w.setCell ⟨B, 2, none⟩ (.int .i64 v) = w1 at *
  obtain ⟨c0, ⟨i, hi, c1⟩, ⟨h2, c2⟩, fr, bs⟩ := HC1.out
  have f1 := fr 1
  have BS := Lib.hid bs
  clear fr bs
  go_quiet (fail)
  obtain ⟨x, hx, ex⟩ := and255 (bits BinOp.xor IntKind.i64 (h2 / 8589934592) (h2 / 35184372088832))
  rw [ex]
  clear ex
  generalize bits BinOp.xor IntKind.i64 (h2 / 8589934592) (h2 / 35184372088832) = z1
  generalize h2 / 8589934592 = z2
  generalize h2 / 35184372088832 = z3
  have c0 : (w1.drewN nq).cell? ⟨B, 0, none⟩ = some (.slice a n c) := c0
  have c1 : (w1.drewN nq).cell? ⟨B, 1, none⟩ = some (.int .i64 (i : Int)) := c1
  have f1 : (w1.drewN nq).frozen? ⟨B, 1, none⟩ = false := f1
  have HC2 := Lib.hid (HC1.out.drewN nq)
  have HG2 := Lib.hid (HG1.out.trans (Mem.but_of_below (Mem.below_drewN w1 nq) _))
  clear HC1 HG1 BS c2
  generalize w1.drewN nq = w2 at *
  by_cases hlt : i < n
  · obtain ⟨b, o, y, rfl, hb, hy, g⟩ := HC2.out.bs i hlt
    go_wp2_with fail
    go_quiet (fail)
    have c0 : (w2.drewN nq).cell? ⟨B, 0, none⟩ = some (.slice (some ⟨b, o, none⟩) n c) := c0
    have c1 : (w2.drewN nq).cell? ⟨B, 1, none⟩ = some (.int .i64 (i : Int)) := c1
    have f1 : (w2.drewN nq).frozen? ⟨B, 1, none⟩ = false := f1
    have g : (w2.drewN nq).cell? ⟨b, o + i, none⟩ = some (.int .u8 (y : Int)) := g
    have HC3 := Lib.hid (HC2.out.drewN nq)
    have HG3 := Lib.hid (HG2.out.trans (Mem.but_of_below (Mem.below_drewN w2 nq) _))
    clear HC2 HG2
    generalize w2.drewN nq = w3 at *
    go_wp2_with fail
    go_quiet (fail)
    obtain ⟨x2, hx2, ex2⟩ := and255 ((x : Int) + (y : Int))
    rw [ex2]
    clear ex2
    have c0 : (w3.drewN nq).cell? ⟨B, 0, none⟩ = some (.slice (some ⟨b, o, none⟩) n c) := c0
    have c1 : (w3.drewN nq).cell? ⟨B, 1, none⟩ = some (.int .i64 (i : Int)) := c1
    have f1 : (w3.drewN nq).frozen? ⟨B, 1, none⟩ = false := f1
    have HC4 := Lib.hid (HC3.out.drewN nq)
    have HG4 := Lib.hid (HG3.out.trans (Mem.but_of_below (Mem.below_drewN w3 nq) _))
    clear HC3 HG3 g
    generalize w3.drewN nq = w4 at *
    go_wp2
    go_ret
    have hs := HC4.out.set1 (i + 1) (by omega)
    have hg := HG4.out.trans (Mem.but_setCell w4 B 1 (.int .i64 ((i + 1 : Nat) : Int)))
    rw [show ((i + 1 : Nat) : Int) = (i : Int) + 1 from by omega] at hs hg
    exact ⟨x2, hx2, rfl, hs, hg⟩
  · go_wp2_with fail
    go_quiet (fail)
    go_wp2
    go_ret
    exact ⟨x, hx, rfl, HC2.out.drewN _, HG2.out.trans (Mem.but_of_below (Mem.below_drewN w2 nq) _)⟩

/-- What a draw hands back: the cursor is as good as before; only its block has changed. -/
def Drew (w w' : World) (B : Nat) (a : Option Addr) (n c : Nat) : Prop := Cur w' B a n c ∧ w.grownBy w' (some B)
theorem Drew.trans {w w1 w2 : World} {B : Nat} {a : Option Addr} {n c : Nat} (h : Drew w w1 B a n c) (k : Drew w1 w2 B a n c) : Drew w w2 B a n c := ⟨k.1, h.2.trans k.2⟩

theorem mod_nat (x n : Nat) (hn : 0 < n) : ∃ r : Nat, r < n ∧ ((x : Int) % (n : Int)) = (r : Int) := ⟨x % n, Nat.mod_lt _ hn, by omega⟩

set_option maxRecDepth 100000 in
set_option maxHeartbeats 2000000 in
theorem below_any (B : Nat) (a : Option Addr) (n c : Nat) (hn : n ≤ 140737488355328) (m : Nat) (hm : 0 < m) (hm2 : m ≤ 4294967296) (w : World) (hc : Cur w B a n c) :
    Calls Tryz.prog 36 #[.pointer (some ⟨B, 0, none⟩), .int .i64 (m : Int)] w fun e w' => ∃ r : Nat, r < m ∧ e = .returned (.int .i64 (r : Int)) ∧ Drew w w' B a n c := by
  have HC := Lib.hid hc
  clear hc
  by_cases hs : m ≤ 256
  · go_enter Tryz.func36, Tryz.ntmps36
    go_wp2_with fail
    refine (byte_any B a n c hn _ HC.out).mono ?_
    rintro e w1 ⟨x, hx, rfl, hc1, hg1⟩
    have HC1 := Lib.hid hc1
    have HG1 := Lib.hid hg1
    clear hc1 hg1
    go_wp2
    go_ret
    obtain ⟨r, hr, er⟩ := mod_nat x m hm
    exact ⟨r, hr, by rw [← er]; rfl, HC1.out, HG1.out⟩
  · go_enter Tryz.func36, Tryz.ntmps36
    go_wp2_with fail
    refine (byte_any B a n c hn _ HC.out).mono ?_
    rintro e w1 ⟨x, hx, rfl, hc1, hg1⟩
    have D1 : Hid (Drew w w1 B a n c) := ⟨hc1, hg1⟩
    clear hc1 hg1
    go_wp2_with fail
    refine (byte_any B a n c hn _ D1.out.1).mono ?_
    rintro e w2 ⟨y, hy, rfl, hc1, hg1⟩
    have D2 : Hid (Drew w w2 B a n c) := D1.out.trans ⟨hc1, hg1⟩
    clear hc1 hg1 D1
    go_wp2_with fail
    refine (byte_any B a n c hn _ D2.out.1).mono ?_
    rintro e w3 ⟨z, hz, rfl, hc1, hg1⟩
    have D3 : Hid (Drew w w3 B a n c) := D2.out.trans ⟨hc1, hg1⟩
    clear hc1 hg1 D2
    go_wp2_with fail
    refine (byte_any B a n c hn _ D3.out.1).mono ?_
    rintro e w4 ⟨t, ht, rfl, hc1, hg1⟩
    have D4 : Hid (Drew w w4 B a n c) := D3.out.trans ⟨hc1, hg1⟩
    clear hc1 hg1 D3
    go_wp2
    go_ret
    obtain ⟨r, hr, er⟩ := mod_nat (x * 16777216 + y * 65536 + z * 256 + t) m hm
    have er' : (((x : Int) * 16777216 + (y : Int) * 65536 + (z : Int) * 256 + (t : Int)) % (m : Int)) = (r : Int) := by rw [← er]; simp
    exact ⟨r, hr, by rw [← er']; rfl, D4.out⟩

/-- A slice of n bytes. -/
def Code (w : World) (a : Option Addr) (n : Nat) : Prop := ∀ j, j < n → ∃ b o x : Nat, a = some ⟨b, o, none⟩ ∧ x ≤ 255 ∧ w.cell? ⟨b, o + j, none⟩ = some (.int .u8 (x : Int))
theorem Code.keeps {w w' : World} {a : Option Addr} {n : Nat} (h : Code w a n) (hb : Below w.heap.size w w') : Code w' a n := fun j hj => by
  obtain ⟨b, o, x, e, hx, hc⟩ := h j hj
  exact ⟨b, o, x, e, hx, by rw [hb.cell (p := ⟨b, o + j, none⟩) (World.block_lt_of_cell? w _ hc)]; exact hc⟩

theorem cur_new (w : World) (a : Option Addr) (n c : Nat) (h : Int) (hc : Code w a n) : Cur (w.alloc (.cells #[.slice a n c, .int .i64 0, .int .i64 h] 67)) w.heap.size a n c := by
  refine ⟨World.cell?_alloc_new w _ _ 0, ⟨0, Nat.zero_le _, World.cell?_alloc_new w _ _ 1⟩, ⟨h, World.cell?_alloc_new w _ _ 2⟩, fun j => World.frozen?_alloc_at _ _ _ _ rfl, fun j hj => ?_⟩
  obtain ⟨b, o, x, e, hx, hcell⟩ := hc j hj
  have hlt := World.block_lt_of_cell? w _ hcell
  exact ⟨b, o, x, e, by simp at hlt; omega, hx, by rw [World.cell?_alloc_lt _ _ _ hlt]; exact hcell⟩

set_option maxRecDepth 100000 in
set_option maxHeartbeats 2000000 in
/-- l1New: a cursor in a new block. -/
theorem new_any (a : Option Addr) (n c : Nat) (hn : n ≤ 140737488355328) (w : World) (hc : Code w a n) :
    Calls Tryz.prog 26 #[.slice a n c] w fun e w' => e = .returned (.pointer (some ⟨w.heap.size, 0, none⟩)) ∧ Cur w' w.heap.size a n c ∧ w.heap.size < w'.heap.size ∧ Below w.heap.size w w' := by
  have HC := Lib.hid hc
  clear hc
  go_enter Tryz.func26, Tryz.ntmps26
  go_wp2
  go_loop [3, 4] (fun h i => ∃ (k : Nat) (v : Int), k ≤ n ∧ i = .int .i64 (k : Int) ∧ h = .int .i64 v) (fun _ i => n - (intOf i).toNat)
  case atStart => exact ⟨0, _, Nat.zero_le _, rfl, rfl⟩
  case round =>
    obtain ⟨k, v, hk, rfl, rfl⟩ := hrel
    by_cases hlt : k < n
    · by_cases h4 : k < 4000
      · obtain ⟨b, o, x, rfl, hx, g⟩ := HC.out k hlt
        go_wp2
        go_round
        case rel => exact ⟨k + 1, _, by omega, by go_num, rfl⟩
        case measure => simp [intOf]; omega
      · go_wp2
        go_ret
        exact ⟨rfl, cur_new _ _ _ _ _ HC.out, by simp, (Below.refl _ _).alloc (Nat.le_refl _) _⟩
    · go_wp2
      go_ret
      exact ⟨rfl, cur_new _ _ _ _ _ HC.out, by simp, (Below.refl _ _).alloc (Nat.le_refl _) _⟩

end Go.Proofs.YtnpmhofeiflpeaaGreat
