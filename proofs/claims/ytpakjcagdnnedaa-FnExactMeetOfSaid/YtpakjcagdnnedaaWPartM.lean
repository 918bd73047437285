/-
  WALKS: spec's chapter 5: meet (written by genpart.py).
-/
import Derived.Test.YtpakjcagdnnedaaWPartS
import Derived.Laws.AppendOwnNone
import Derived.StillTactics
import Derived.Deep.RegionHeld3
import Derived.Deep.AppendLies
namespace Go.Proofs.Ytpakjcagdnnedaa
open Go.RowKit
open Sets

theorem Ints.news {w : World} {ad : Addr} {xs : List Int} (h : Ints w (some ad) xs) : ∀ (j : Nat) u, (xs.map (Value.int .i64))[j]? = some u → w.cell? (ad.add j) = some u := fun j u hu => by
  have hj : j < (xs.map (Value.int .i64)).length := (List.getElem?_eq_some_iff.1 hu).1
  rw [List.length_map] at hj
  rw [ints_cell xs j hj] at hu
  cases hu
  obtain ⟨b, o, e, hc⟩ := h j hj
  cases e
  have e1 : (⟨b, o, none⟩ : Addr).add j = ⟨b, o + j, none⟩ := by unfold Addr.add; split <;> simp_all
  rw [e1]; exact hc
theorem Ints.none_nil {w : World} {xs : List Int} (h : Ints w none xs) : xs = [] := by
  rcases Nat.eq_zero_or_pos xs.length with e | e
  · exact List.eq_nil_of_length_eq_zero e
  · obtain ⟨_, _, e, _⟩ := h 0 e; cases e
theorem one_ints (xs : List Int) : ∀ u ∈ xs.map (Value.int .i64), u.oneCell' = true := by
  intro u hu; obtain ⟨x, _, rfl⟩ := List.mem_map.1 hu; rfl
theorem bothOk_le {n : Int} {xs : List Int} (h : isC n xs = true) : xs.length ≤ 64 := isC_le h
theorem and_meet2 (f g : Nat) (hf : f < 64) (hg : g < 64) : bits BinOp.and IntKind.i64 (f : Int) (g : Int) = meetZ f (g : Int) := by
  rw [and_meet f g hf hg]
  show ((f &&& g : Nat) : Int) = ((g &&& f : Nat) : Int)
  rw [Nat.and_comm]

set_option maxRecDepth 100000 in
set_option maxHeartbeats 4000000 in
theorem specMeet_any (n m : Int) (pa pb : Option Addr) (ca cb : Nat) (xs ys : List Int) (hlx : xs.length ≤ 1099511627776) (hly : ys.length ≤ 1099511627776) (w : World) (hx : Ints w pa xs) (hy : Ints w pb ys) :
    Calls Try.prog 29 #[cx n (.slice pa xs.length ca), cx m (.slice pb ys.length cb)] w fun e w' => ∃ v, e = .returned (.tuple #[cx (oN (meetO n m xs ys)) v, .bool (meetO n m xs ys).isSome]) ∧ OwnInts w' w.heap.size v (oL (meetO n m xs ys)) ∧ Below w.heap.size w w' := by
  obtain ⟨i0, hi, hz0, hz1, hz2⟩ := info_parts info_int
  have hb0 : Below w.heap.size w (((w.alloc (.cells #[.int .i64 n, .slice pa xs.length ca] 26)).alloc (.cells #[.int .i64 m, .slice pb ys.length cb] 26)).alloc (.cells #[.int .i64 0, .slice none 0 0] 26)) := (((Below.refl _ _).alloc (Nat.le_refl _) _).alloc (by simp) _).alloc (by simp; omega) _
  have hta := ((Two.new w (.int .i64 n) (.slice pa xs.length ca) 26).alloc (.cells #[.int .i64 m, .slice pb ys.length cb] 26)).alloc (.cells #[.int .i64 0, .slice none 0 0] 26)
  have htb := (Two.new (w.alloc (.cells #[.int .i64 n, .slice pa xs.length ca] 26)) (.int .i64 m) (.slice pb ys.length cb) 26).alloc (.cells #[.int .i64 0, .slice none 0 0] 26)
  have htr := Two.new ((w.alloc (.cells #[.int .i64 n, .slice pa xs.length ca] 26)).alloc (.cells #[.int .i64 m, .slice pb ys.length cb] 26)) (.int .i64 0) (.slice none 0 0) 26
  simp only [World.size_alloc] at htb htr
  have hX := hx.keeps hb0
  have hY := hy.keeps hb0
  obtain ⟨bb, hbb⟩ : ∃ bb, w.heap.size + 1 = bb := ⟨_, rfl⟩
  obtain ⟨br, hbr⟩ : ∃ br, bb + 1 = br := ⟨_, rfl⟩
  rw [hbb] at htb htr
  rw [hbr] at htr
  have hwb : w.heap.size < bb := by omega
  have hwr : bb < br := by omega
  have TA := Lib.hid hta
  have TB := Lib.hid htb
  have TR := Lib.hid htr
  have HX := Lib.hid hX
  have HY := Lib.hid hY
  have HBV := Lib.hid hb0
  obtain ⟨k0, k1, k2, k3, k4⟩ := hta
  obtain ⟨l0, l1, l2, l3, l4⟩ := htb
  clear hx hy htr hX hY hb0
  cases hcx : isC n xs with
  | false =>
    have HCX := Lib.hid hcx
    rw [show meetO n m xs ys = none from partO_no (by unfold bothOk; rw [hcx]; rfl)]
    clear hcx
    go_enter Try.func29, Try.ntmps29
    go_wp2_with fail
    try rw [hbb]
    try rw [hbr]
    refine (specIsC_b n _ _ xs false HCX.out hlx _ HX.out).mono ?_
    rintro e w1 ⟨rfl, hb1⟩
    obtain ⟨r0, r1, r2, r3, r4⟩ := TR.out.keeps hb1
    have HB1 : Hid (Below w.heap.size w w1) := HBV.out.trans (hb1.mono HBV.out.size)
    clear hb1
    go_wp2
    refine ret_cx2 br rfl rfl rfl (x := .int .i64 0) (y := .slice none 0 0) (by go_simp) (by go_simp) rfl ?_
    exact ⟨_, rfl, OwnInts.nil _ _, by first | exact (HB1.out.setCell (by dsimp only; omega) _).setCell (by dsimp only; omega) _ | exact HB1.out⟩
  | true =>
  cases hcy : isC m ys with
  | false =>
    have HCX := Lib.hid hcx
    have HCY := Lib.hid hcy
    rw [show meetO n m xs ys = none from partO_no (by unfold bothOk; rw [hcx, hcy]; rfl)]
    clear hcx hcy
    go_enter Try.func29, Try.ntmps29
    go_wp2_with fail
    try rw [hbb]
    try rw [hbr]
    refine (specIsC_b n _ _ xs true HCX.out hlx _ HX.out).mono ?_
    rintro e w1 ⟨rfl, hb1⟩
    have TA1 := Lib.hid (TA.out.keeps hb1)
    have TB1 := Lib.hid (TB.out.keeps hb1)
    have TR1 := Lib.hid (TR.out.keeps hb1)
    have HX1 := Lib.hid (HX.out.keeps hb1)
    have HY1 := Lib.hid (HY.out.keeps hb1)
    have HBV1 : Hid (Below w.heap.size w w1) := HBV.out.trans (hb1.mono HBV.out.size)
    clear hb1
    obtain ⟨d0, d1, d2, d3, d4⟩ := TB1.out
    go_wp2_with fail
    refine (specIsC_b m _ _ ys false HCY.out hly _ HY1.out).mono ?_
    rintro e w2 ⟨rfl, hb2⟩
    obtain ⟨r0, r1, r2, r3, r4⟩ := TR1.out.keeps hb2
    have HB1 : Hid (Below w.heap.size w w2) := HBV1.out.trans (hb2.mono HBV1.out.size)
    clear hb2
    go_wp2
    refine ret_cx2 br rfl rfl rfl (x := .int .i64 0) (y := .slice none 0 0) (by go_simp) (by go_simp) rfl ?_
    exact ⟨_, rfl, OwnInts.nil _ _, by first | exact (HB1.out.setCell (by dsimp only; omega) _).setCell (by dsimp only; omega) _ | exact HB1.out⟩
  | true =>
  by_cases hnm : n = m
  case neg =>
    have HCX := Lib.hid hcx
    have HCY := Lib.hid hcy
    have hnq : (n != m) = true := by simp [hnm]
    rw [show meetO n m xs ys = none from partO_no (by unfold bothOk; rw [hcx, hcy]; simp [hnm])]
    clear hcx hcy hnm
    go_enter Try.func29, Try.ntmps29
    go_wp2_with fail
    try rw [hbb]
    try rw [hbr]
    refine (specIsC_b n _ _ xs true HCX.out hlx _ HX.out).mono ?_
    rintro e w1 ⟨rfl, hb1⟩
    have TA1 := Lib.hid (TA.out.keeps hb1)
    have TB1 := Lib.hid (TB.out.keeps hb1)
    have TR1 := Lib.hid (TR.out.keeps hb1)
    have HX1 := Lib.hid (HX.out.keeps hb1)
    have HY1 := Lib.hid (HY.out.keeps hb1)
    have HBV1 : Hid (Below w.heap.size w w1) := HBV.out.trans (hb1.mono HBV.out.size)
    clear hb1
    obtain ⟨d0, d1, d2, d3, d4⟩ := TB1.out
    go_wp2_with fail
    refine (specIsC_b m _ _ ys true HCY.out hly _ HY1.out).mono ?_
    rintro e w2 ⟨rfl, hb2⟩
    obtain ⟨e0, e1, e2, e3, e4⟩ := TA1.out.keeps hb2
    obtain ⟨f0, f1, f2, f3, f4⟩ := TB1.out.keeps hb2
    obtain ⟨r0, r1, r2, r3, r4⟩ := TR1.out.keeps hb2
    have HB1 : Hid (Below w.heap.size w w2) := HBV1.out.trans (hb2.mono HBV1.out.size)
    clear hb2
    go_wp2
    refine ret_cx2 br rfl rfl rfl (x := .int .i64 0) (y := .slice none 0 0) (by go_simp) (by go_simp) rfl ?_
    exact ⟨_, rfl, OwnInts.nil _ _, by first | exact (HB1.out.setCell (by dsimp only; omega) _).setCell (by dsimp only; omega) _ | exact HB1.out⟩
  case pos =>
    subst hnm
    have HCX := Lib.hid hcx
    have HCY := Lib.hid hcy
    have hnq : (n != n) = false := by simp
    rw [show meetO n n xs ys = some (n, maxQ (andQ xs ys)) from partO_yes (by unfold bothOk; rw [hcx, hcy]; simp)]
    clear hcx hcy
    go_enter Try.func29, Try.ntmps29
    go_wp2_with fail
    try rw [hbb]
    try rw [hbr]
    refine (specIsC_b n _ _ xs true HCX.out hlx _ HX.out).mono ?_
    rintro e w1 ⟨rfl, hb1⟩
    have TA1 := Lib.hid (TA.out.keeps hb1)
    have TB1 := Lib.hid (TB.out.keeps hb1)
    have TR1 := Lib.hid (TR.out.keeps hb1)
    have HX1 := Lib.hid (HX.out.keeps hb1)
    have HY1 := Lib.hid (HY.out.keeps hb1)
    have HBV1 : Hid (Below w.heap.size w w1) := HBV.out.trans (hb1.mono HBV.out.size)
    clear hb1
    obtain ⟨d0, d1, d2, d3, d4⟩ := TB1.out
    go_wp2_with fail
    refine (specIsC_b n _ _ ys true HCY.out hly _ HY1.out).mono ?_
    rintro e w2 ⟨rfl, hb2⟩
    obtain ⟨V, rfl⟩ : ∃ V : World, V = w2 := ⟨_, rfl⟩
    have TA := Lib.hid (TA1.out.keeps hb2)
    have TB := Lib.hid (TB1.out.keeps hb2)
    have TR := Lib.hid (TR1.out.keeps hb2)
    have HX := Lib.hid (HX1.out.keeps hb2)
    have HY := Lib.hid (HY1.out.keeps hb2)
    have HBV : Hid (Below w.heap.size w V) := HBV1.out.trans (hb2.mono HBV1.out.size)
    have hvs := HBV.out.size
    have hbv := TR.out.1
    clear hb2 hbb hbr k0 k1 k2 k3 k4 l0 l1 l2 l3 l4 d0 d1 d2 d3 d4 TA1 TB1 TR1 HX1 HY1 HBV1
    obtain ⟨e0, e1, e2, e3, e4⟩ := TA.out
    obtain ⟨f0, f1, f2, f3, f4⟩ := TB.out
    have hxl := isC_le HCX.out
    have hyl := isC_le HCY.out
    have hprod : xs.length * ys.length ≤ 64 * 64 := Nat.mul_le_mul hxl hyl
    go_wp2
    go_loopw [6, 7] (fun v i wr => ∃ i1 : Nat, i1 ≤ xs.length ∧ i = .int .i64 (i1 : Int) ∧ OwnInts wr V.heap.size v (meetL xs ys i1 0) ∧ Below V.heap.size V wr) (fun _ i _ => xs.length - (intOf i).toNat)
    case atStart => exact ⟨0, Nat.zero_le _, rfl, OwnInts.lit V V.heap.size [] (Nat.le_refl _) (by simp), (Below.refl _ _).alloc (Nat.le_refl _) _⟩
    case round =>
      clear e0 e1 e2 e3 e4 f0 f1 f2 f3 f4
      obtain ⟨i1, hi1, rfl, hO, hB⟩ := hrel
      have HO := Lib.hid hO
      have HBO := Lib.hid hB
      have hszo := hB.size
      obtain ⟨wo, rfl⟩ : ∃ wo : World, wo = wr := ⟨_, rfl⟩
      clear hO
      obtain ⟨e0, e1, e2, e3, e4⟩ := TA.out.keeps hB
      by_cases hlt : i1 < xs.length
      · obtain ⟨f, hf, hf64⟩ := isC_at2 (isC_ok HCX.out) i1 hlt
        have HF := Lib.hid hf
        have hlti : decide ((i1 : Int) < (xs.length : Int)) = true := by simpa using hlt
        clear hf hB
        go_wp2
        go_loopw [6, 8] (fun v i wr => ∃ k : Nat, k ≤ ys.length ∧ i = .int .i64 (k : Int) ∧ OwnInts wr V.heap.size v (meetL xs ys i1 k) ∧ Below V.heap.size V wr) (fun _ i _ => ys.length - (intOf i).toNat)
        case atStart => exact ⟨0, Nat.zero_le _, rfl, HO.out, HBO.out⟩
        case round =>
          clear HO e0 e1 e2 e3 e4
          obtain ⟨k, hk, rfl, hO, hB⟩ := hrel
          have HO := Lib.hid hO
          unfold OwnInts at HO
          have hsz := hB.size
          have hl := meetL_le xs ys i1 k
          clear hO
          obtain ⟨e0, e1, e2, e3, e4⟩ := TA.out.keeps hB
          obtain ⟨f0, f1, f2, f3, f4⟩ := TB.out.keeps hB
          by_cases hlk : k < ys.length
          · obtain ⟨b0, o0, hae, g0⟩ := (HX.out.keeps hB) i1 hlt
            obtain ⟨b1, o1, hbe, g1⟩ := (HY.out.keeps hB) k hlk
            have hbx : b0 < V.heap.size := by
              obtain ⟨_, _, hq1, hq2⟩ := HX.out i1 hlt
              rw [hae] at hq1
              cases hq1
              exact World.block_lt_of_cell? V _ hq2
            have hby : b1 < V.heap.size := by
              obtain ⟨_, _, hq3, hq4⟩ := HY.out k hlk
              rw [hbe] at hq3
              cases hq3
              exact World.block_lt_of_cell? V _ hq4
            obtain ⟨t, ht, ht64⟩ := isC_at2 (isC_ok HCY.out) k hlk
            rw [HF.out] at g0
            rw [ht] at g1
            have ha := and_meet2 f t hf64 ht64
            have HN := Lib.hid ((meetL_next xs ys i1 k hlk).trans (by rw [HF.out, ht]; rfl : _ = meetL xs ys i1 k ++ [meetZ f (t : Int)]))
            obtain ⟨z, hz⟩ : ∃ z, meetZ f (t : Int) = z := ⟨_, rfl⟩
            rw [hz] at ha HN
            subst hae hbe
            clear hz ht
            have hno : ∀ g, g < V.heap.size → u6.ownBlock ≠ some g := fun g hg e => absurd (HO.out.lt g e).1 (by omega)
            have hn0 := hno _ (show w.heap.size < V.heap.size by omega)
            have hn1 := hno _ (show bb < V.heap.size by omega)
            have hn2 := hno _ hbx
            have hn3 := hno _ hby
            clear hno
            go_wp2_with fail
            go_region_held3 (fun w' => w'.cell? ⟨w.heap.size, 1, none⟩ = some (.slice (some ⟨b0, o0, none⟩) xs.length ca) ∧ w'.cell? ⟨bb, 1, none⟩ = some (.slice (some ⟨b1, o1, none⟩) ys.length cb) ∧ w'.cell? ⟨b0, o0 + i1, none⟩ = some (.int .i64 (f : Int)) ∧ w'.cell? ⟨b1, o1 + k, none⟩ = some (.int .i64 (t : Int)))
              (first | go_keep | (go_split_ands; refine ⟨?_, ?_, ?_, ?_⟩ <;> (first | (rw [hgrow.cell_far _ (by simp; omega) (Ne.symm hn0)]; assumption) | (rw [hgrow.cell_far _ (by simp; omega) (Ne.symm hn1)]; assumption) | (rw [hgrow.cell_far _ (by simp; omega) (Ne.symm hn2)]; assumption) | (rw [hgrow.cell_far _ (by simp; omega) (Ne.symm hn3)]; assumption))))
              ((refine step_append_lies _ (by rfl) _ _ _ (by rfl) V.heap.size 3 i0 (.int .i64 0) 1 8 Try.underlying24 hi hz0 hz1 hz2 rfl (by omega) u6 (meetL xs ys i1 k).length (List.map (Value.int IntKind.i64) (meetL xs ys i1 k)) (by rfl) ((HO.out.alloc _).drew) ⟨wr.heap.size, 0, none⟩ 1 1 [.int .i64 z] (by rfl) (by rfl) (World.news_of_block (cs := #[.int .i64 z]) (t := 3) (fr := (0, 0)) (heap_alloc_new wr _)) (by simp [Value.oneCell']) (by omega) (by unfold maxLen; omega) (by omega) (by simp; omega) (wr.heap.size + 1) (by simp) ?_; intro gg cap w1 hown1 hgrow hat hlt))
            have hB5 : Below V.heap.size V w1 := ((hB.alloc hsz _).drew).grown hgrow (by simp; omega) (fun g hg => (HO.out.lt g hg).1)
            have H1 := Lib.hid hown1
            clear hown1 hgrow
            go_wp2
            go_roundw
            case rel => exact ⟨k + 1, by omega, by go_num, by rw [HN.out]; exact OwnInts.next H1.out, hB5⟩
            case measure => simp [intOf]; omega
          · have E := Lib.hid (show k = ys.length by omega)
            have HL := Lib.hid (meetL_line xs ys i1 hlt)
            go_wp2
            go_roundw
            case rel =>
              have h2 := HO.out
              rw [E.out, HL.out] at h2
              exact ⟨i1 + 1, by omega, by go_num, h2, hB⟩
            case measure => simp [intOf]; omega
      · have E := Lib.hid (show i1 = xs.length by omega)
        have HO2 : Hid (OwnInts wo V.heap.size u6 (meetL xs ys xs.length 0)) := Lib.hid (by have h := HO.out; rw [E.out] at h; exact h)
        clear HO
        have HO := HO2
        have hml := meetL_le xs ys xs.length 0
        clear HO2 e0 e1 e2 e3 e4
        obtain ⟨a1, c1, g1x, rfl, hg1x, hr1⟩ := OwnInts.at HO.out
        have R1 := Lib.hid hr1
        have R0 := Lib.hid (TR.out.keeps hB)
        obtain ⟨e0, e1, e2, e3, e4⟩ := TA.out.keeps hB
        clear hr1 HO
        go_wp2_with fail
        refine (l3Make_any n _ _ (meetL xs ys xs.length 0) (meetL_ok xs ys (isC_ok HCY.out)) (by omega) _ R1.out.ints).mono ?_
        rintro e w6 ⟨v, rfl, hO2, hb6⟩
        rw [meet_spec xs ys (isC_ok HCY.out)] at hO2
        obtain ⟨a2, c2x, g2, rfl, hc2, hg2, hr2, _⟩ := OwnInts.ata hO2 hb6.size
        obtain ⟨r0, r1, r2, r3, r4⟩ := R0.out.keeps hb6
        have HO2 := Lib.hid (OwnInts.lower hO2 hszo)
        have HB6 : Hid (Below w.heap.size w w6) := HBV.out.trans ((hB.trans (hb6.mono hszo)).mono hvs)
        clear hO2 hr2 hb6
        go_wp2
        refine ret_cx2 br rfl rfl rfl (x := .int .i64 n) (y := .slice a2 (maxQ (andQ xs ys)).length c2x) (by go_simp) (by go_simp) rfl ?_
        exact ⟨_, rfl, (OwnInts.set (OwnInts.set HO2.out _ _ _ (by omega)) _ _ _ (by omega)).lower (by omega), (HB6.out.setCell (by dsimp only; omega) _).setCell (by dsimp only; omega) _⟩


end Go.Proofs.Ytpakjcagdnnedaa
