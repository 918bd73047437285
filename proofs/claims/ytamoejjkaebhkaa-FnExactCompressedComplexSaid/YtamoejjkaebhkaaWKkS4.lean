/-
  WALKS: spec's chapter 11: CompressedComplex.
-/
import Derived.Test.YtamoejjkaebhkaaWKkS3
import Derived.Test.YtamoejjkaebhkaaJg13
import Derived.Test.YtamoejjkaebhkaaJg20
namespace Go.Proofs.Ytamoejjkaebhkaa
open Go.RowKit
open Sets Hn Kk

theorem fits_yes {L : List Int} (h : countsB L = true) (hf : ∀ j, j < L.length → L.getD j 0 ≤ (ch 6 j : Int)) : fitsB L = true := by
  unfold fitsB
  rw [h, Bool.true_and, List.all_eq_true]
  exact fun k hk => decide_eq_true (hf k (List.mem_range.1 hk))
theorem fits_no {L : List Int} {k : Nat} (hk : k < L.length) (h : ¬L.getD k 0 ≤ (ch 6 k : Int)) : fitsB L = false := by
  rw [Bool.eq_false_iff]
  intro e
  exact h (fits_at e k hk).2.1
theorem fits_not {L : List Int} (h : countsB L = false) : fitsB L = false := by unfold fitsB; rw [h, Bool.false_and]
theorem compO_no {L : List Int} (h : fitsB L = false) : compO L = none := by unfold compO; rw [if_neg (by rw [h]; simp)]
theorem compO_yes {L : List Int} (h : fitsB L = true) : compO L = some (6, maximal (setsTo L L.length)) := by unfold compO; rw [if_pos h]
theorem afc_b (a : Option Addr) (c : Nat) (L : List Int) (l : Nat) (hl : L.length = l) (b : Bool) (hb : countsB L = b) (hlen : l ≤ 1099511627776) (w : World) (h : Ints w a L) :
    Calls Try.prog 26 #[.slice a l c] w fun e w' => e = .returned (.bool b) ∧ Below w.heap.size w w' := by
  subst hl hb; exact specAFC_any a c L hlen w h
theorem fs_some (k x : Nat) (hk : k ≤ 6) (hx : x ≤ ch 6 k) : (fsZ (k : Int) (x : Int)).length = x := by
  rw [fsZ_in hk hx, List.length_map]
  unfold firstN
  rw [List.length_take, lev_len ⟨k, by omega⟩]
  dsimp only
  omega
theorem first_b (k m : Int) (R : List Int) (hR : fsZ k m = R) (w : World) : Calls Try.prog 24 #[.int .i64 k, .int .i64 m] w fun e w' => ∃ v, e = .returned v ∧ OwnInts w' w.heap.size v R ∧ Below w.heap.size w w' := by
  subst hR; exact specFirst_any k m w
theorem make_b (n : Int) (a : Option Addr) (c : Nat) (xs R : List Int) (l : Nat) (hl : xs.length = l) (hR : maximal xs = R) (hok : allOk xs = true) (hlen : l ≤ 1099511627776) (w : World) (h : Ints w a xs) :
    Calls Try.prog 42 #[.int .i64 n, .slice a l c] w fun e w' => ∃ v, e = .returned (cx n v) ∧ OwnInts w' w.heap.size v R ∧ Below w.heap.size w w' := by
  subst hl hR; exact l3Make_any n a c xs hok hlen w h

set_option maxRecDepth 100000 in
set_option maxHeartbeats 4000000 in
theorem specComp11_any (a : Option Addr) (c : Nat) (L : List Int) (hlen : L.length ≤ 1099511627776) (w : World) (h : Ints w a L) :
    Calls Try.prog 14 #[.slice a L.length c] w fun e w' => ∃ v, e = .returned (.tuple #[cx (oN (compO L)) v, .bool (compO L).isSome]) ∧ OwnInts w' w.heap.size v (oL (compO L)) ∧ Below w.heap.size w w' := by
  obtain ⟨i0, hi, hz0, hz1, hz2⟩ := info_parts info_int
  have hb0 : Below w.heap.size w (w.alloc (Obj.cells #[Value.int IntKind.i64 0, Value.slice none 0 0] 30)) := (Below.refl _ _).alloc (Nat.le_refl _) _
  have TR := Lib.hid (Two.new w (.int .i64 0) (.slice none 0 0) 30)
  have H := Lib.hid (h.keeps hb0)
  have HW := Lib.hid h
  have HB0 := Lib.hid hb0
  clear h hb0
  obtain ⟨br, hbr⟩ : ∃ br, w.heap.size = br := ⟨_, rfl⟩
  have HBR := Lib.hid hbr
  have TR0 : Hid (Two (w.alloc (Obj.cells #[Value.int IntKind.i64 0, Value.slice none 0 0] 30)) br (.int .i64 0) (.slice none 0 0)) := by rw [← hbr]; exact TR
  have HB0 : Hid (Below br w (w.alloc (Obj.cells #[Value.int IntKind.i64 0, Value.slice none 0 0] 30))) := by rw [← hbr]; exact HB0
  have hsz0 : (w.alloc (Obj.cells #[Value.int IntKind.i64 0, Value.slice none 0 0] 30)).heap.size = br + 1 := by simp [hbr]
  clear TR hbr
  obtain ⟨l, hl⟩ : ∃ l, L.length = l := ⟨_, rfl⟩
  have HL := Lib.hid hl
  cases hC : countsB L with
  | false =>
    rw [compO_no (fits_not hC)]
    have HC := Lib.hid hC
    rw [hl] at hlen ⊢
    clear hC hl
    go_enter Try.func14, Try.ntmps14
    go_wp2_with fail
    refine (afc_b _ _ L l HL.out false HC.out hlen _ H.out).mono ?_
    rintro e w1 ⟨rfl, hb1⟩
    try rw [HBR.out]
    obtain ⟨r0, r1, r2, r3, r4⟩ := TR0.out.keeps hb1
    have HB1 : Hid (Below br w w1) := HB0.out.trans (hb1.mono (by omega))
    clear hb1
    go_wp2
    refine ret_cx2 br rfl rfl rfl (x := .int .i64 0) (y := .slice none 0 0) (by go_simp) (by go_simp) rfl ?_
    exact ⟨_, rfl, OwnInts.nil _ _, by rw [HBR.out]; first | exact (HB1.out.setCell (by dsimp only; omega) _).setCell (by dsimp only; omega) _ | exact HB1.out⟩
  | true =>
    have hll := countsB_length hC
    have HC := Lib.hid hC
    have HFN := Lib.hid (fun k hk h => compO_no (@fits_no L k hk h))
    have HFY := Lib.hid (fun hf => fits_yes hC hf)
    have HSTEP := Lib.hid (fun k hk => (stepB_iff L k).1 (countsB_step hC k hk))
    have HSL := Lib.hid (setsTo_len L)
    obtain ⟨O, hO⟩ : ∃ O, compO L = O := ⟨_, rfl⟩
    have HOV := Lib.hid hO
    rw [hO] at HFN
    rw [hO]
    rw [hl] at hlen hll HFN HFY HSTEP
    rw [hl]
    clear hC hl hO
    go_enter Try.func14, Try.ntmps14
    go_wp2_with fail
    refine (afc_b _ _ L l HL.out true HC.out hlen _ H.out).mono ?_
    rintro e w1 ⟨rfl, hb1⟩
    try rw [HBR.out]
    have hsz1 := hb1.size
    rw [hsz0] at hsz1
    have HB1 : Hid (Below br w w1) := HB0.out.trans (hb1.mono (by omega))
    have TR1 := Lib.hid (TR0.out.keeps hb1)
    have HO1 := Lib.hid (OwnInts.lit w1 (br + 1) [] (by omega) (by simp))
    have HBA : Hid (Below w1.heap.size w1 (w1.alloc (.cells #[] 3))) := Lib.hid ((Below.refl _ _).alloc (Nat.le_refl _) _)
    have HB2 : Hid (Below br w (w1.alloc (.cells #[] 3))) := HB1.out.trans (HBA.out.mono (by omega))
    have TR2 := Lib.hid (TR1.out.keeps HBA.out)
    clear hb1 HB0 TR0 H HB1 TR1 HBA hsz0
    go_wp2
    try rw [HBR.out]
    go_loopw [4, 5] (fun v kv wr => ∃ (k N cc : Nat) (aa : Option Addr), k ≤ l ∧ kv = .int .i64 (k : Int) ∧ v = .slice aa N cc ∧ (setsTo L k).length = N ∧ OwnInts wr (br + 1) (.slice aa N cc) (setsTo L k) ∧ Below br w wr ∧ Two wr br (.int .i64 0) (.slice none 0 0) ∧ (∀ j, j < k → L.getD j 0 ≤ (ch 6 j : Int))) (fun _ kv _ => l - (intOf kv).toNat)
    case atStart => exact ⟨0, 0, _, _, Nat.zero_le _, rfl, rfl, rfl, HO1.out, HB2.out, TR2.out, fun j hj => absurd hj (Nat.not_lt_zero _)⟩
    case round =>
      clear HO1 HB2 TR2
      obtain ⟨k, N, cc, aa, hk, rfl, rfl, hN, hO, hB, hT, hf⟩ := hrel
      have HO := Lib.hid hO
      have HB := Lib.hid hB
      have HT := Lib.hid hT
      have HF := Lib.hid hf
      have HN := Lib.hid hN
      have hN2 := HSL.out k
      rw [hN] at hN2
      clear hO hB hT hf hN
      by_cases hlt : k < l
      · obtain ⟨b, o, rfl, g⟩ := (HW.out.keeps (by rw [HBR.out]; exact HB.out)) k (by rw [HL.out]; exact hlt)
        obtain ⟨s1, s2, _, _⟩ := HSTEP.out k hlt
        obtain ⟨x, hx⟩ : ∃ x : Nat, L.getD k 0 = (x : Int) := ⟨(L.getD k 0).toNat, by omega⟩
        rw [hx] at g s1 s2
        have HX := Lib.hid hx
        have hk6 : k ≤ 6 := by omega
        obtain ⟨q, hq⟩ : ∃ q, ch 6 k = q := ⟨_, rfl⟩
        have HQ := Lib.hid hq
        have HCH : Hid (∀ W, Calls Try.prog 27 #[.int .i64 6, .int .i64 (k : Int)] W fun e w' => e = .returned (.int .i64 (q : Int)) ∧ W = w') := by
          have : ∀ W, Calls Try.prog 27 #[.int .i64 6, .int .i64 (k : Int)] W fun e w' => e = .returned (.int .i64 (q : Int)) ∧ W = w' := fun W => specChoose_z 6 k 6 (k : Int) rfl rfl q hq (by decide) hk6 W
          exact this
        clear hx hq
        by_cases hxq : q < x
        · have hO0 : O = none := HFN.out k hlt (by rw [HX.out, HQ.out]; omega)
          subst hO0
          have hdq : decide (q < x) = true := by simpa using hxq
          go_wp2_with fail
          go_quiet ((go_at_call 27; refine quietlyH (HCH.out _)))
          obtain ⟨r0, r1, r2, r3, r4⟩ := (show Two (wr.drewN nq) br (.int .i64 0) (.slice none 0 0) from HT.out)
          have HBq : Hid (Below br w (wr.drewN nq)) := Lib.hid (bdrew HB.out nq)
          generalize wr.drewN nq = w5 at *
          go_wp2
          refine ret_cx2 br rfl rfl rfl (x := .int .i64 0) (y := .slice none 0 0) (by go_simp) (by go_simp) rfl ?_
          exact ⟨_, rfl, OwnInts.nil _ _, by rw [HBR.out]; first | exact (HBq.out.setCell (by dsimp only; omega) _).setCell (by dsimp only; omega) _ | exact HBq.out⟩
        · have hdq : decide (q < x) = false := by simpa using hxq
          obtain ⟨R, hR⟩ : ∃ R, fsZ (k : Int) (x : Int) = R := ⟨_, rfl⟩
          have HR := Lib.hid hR
          have hRl : R.length = x := by rw [← hR]; exact fs_some k x hk6 (by rw [HQ.out]; omega)
          have HRL := Lib.hid hRl
          have HNX : Hid (setsTo L (k + 1) = setsTo L k ++ R) := by
            have : setsTo L (k + 1) = setsTo L k ++ R := by rw [setsTo, HX.out, hR]
            exact this
          clear hR hRl
          go_wp2_with fail
          go_quiet ((go_at_call 27; refine quietlyH (HCH.out _)))
          have HTq : Hid (Two (wr.drewN nq) br (.int .i64 0) (.slice none 0 0)) := HT
          have HBq : Hid (Below br w (wr.drewN nq)) := Lib.hid (bdrew HB.out nq)
          have HOq : Hid (OwnInts (wr.drewN nq) (br + 1) (.slice aa N cc) (setsTo L k)) := HO
          have g : (wr.drewN nq).cell? ⟨b, o + k, none⟩ = some (.int .i64 (x : Int)) := g
          clear HT HB HO
          generalize wr.drewN nq = w5 at *
          have hs5 := HTq.out.1
          go_wp2_with fail
          refine (first_b (k : Int) (x : Int) R HR.out _).mono ?_
          rintro e w6 ⟨v6, rfl, hO6, hb6⟩
          obtain ⟨a6, c6, g6, rfl, hc6, hg6, hr6, _⟩ := OwnInts.ata hO6 hb6.size
          obtain ⟨e6, _, _, _⟩ := hr6 0 (by rw [HRL.out]; omega)
          subst e6
          have HB6 : Hid (Below br w w6) := HBq.out.trans (hb6.mono (by omega))
          have HT6 := Lib.hid (HTq.out.keeps hb6)
          have HO6 : Hid (w6.ownsRow (br + 1) 3 1 (.slice aa N cc) N ((setsTo L k).map (Value.int .i64))) := by
            have h := OwnInts.keeps HOq.out hb6
            unfold OwnInts at h
            rw [HN.out] at h
            exact h
          have hs6 : br < w6.heap.size := Nat.lt_of_lt_of_le hs5 hb6.size
          have HR6 := Lib.hid hr6.ints
          rw [HRL.out] at hc6 ⊢
          have HRM : Hid ((R.map (Value.int .i64)).length = x) := by
            have : (R.map (Value.int .i64)).length = x := by rw [List.length_map, HRL.out]
            exact this
          clear hO6 hb6 hr6 HBq HTq HOq g
          have hx20 : x ≤ 1000 := by omega
          have hNb : N ≤ 200 := by omega
          go_wp2_with (at_builtin; refine wpList_append_own_at _ rfl _ _ 26 rfl (br + 1) 3 i0 (.int .i64 0) 1 8 Try.underlying26 hi hz0 hz1 hz2 rfl (by decide) (.slice aa N cc) N ((setsTo L k).map (Value.int .i64)) rfl HO6.out ⟨g6, 0, none⟩ x c6 (R.map (Value.int .i64)) rfl ?c0 (Ints.news HR6.out) (one_ints _) ?c3 ?c4 ?c5 ?_)
          case c0 => rw [HRM.out]; omega
          case c3 => unfold maxLen; omega
          case c4 => omega
          case c5 => omega
          intro v' w7 hown1 hgrow _ hob
          have hbs : Below (br + 1) w6 w7 := (Below.refl _ _).grown hgrow (by omega) (fun g hg => (HO6.out.lt g hg).1)
          have hO7 : OwnInts w7 (br + 1) v' (setsTo L (k + 1)) := by
            rw [HNX.out]
            unfold OwnInts
            rw [List.length_append, List.map_append, HN.out, HRL.out]
            exact hown1
          have hl7 : (setsTo L (k + 1)).length = N + x := by rw [HNX.out, List.length_append, HN.out, HRL.out]
          obtain ⟨a7, c7, _, rfl, _⟩ := OwnInts.ata hO7 (by have := hbs.size; omega)
          rw [hl7] at hO7
          rw [hl7]
          have HL7 := Lib.hid hl7
          have HO7 := Lib.hid hO7
          have HB7 : Hid (Below br w w7) := HB6.out.trans (hbs.mono (by omega))
          have HT7 := Lib.hid (Two.under HT6.out hbs (by omega))
          have HF7 : Hid (∀ j, j < k + 1 → L.getD j 0 ≤ (ch 6 j : Int)) := by
            have : ∀ j, j < k + 1 → L.getD j 0 ≤ (ch 6 j : Int) := fun j hj => by
              by_cases e : j = k
              · subst e; rw [HX.out, HQ.out]; omega
              · exact HF.out j (by omega)
            exact this
          clear hown1 hgrow hob hO7 hbs hl7
          go_wp2
          go_roundw
          case rel => exact ⟨k + 1, N + x, c7, a7, by omega, by go_num, rfl, HL7.out, HO7.out, HB7.out, HT7.out, HF7.out⟩
          case measure => simp [intOf]; omega
      · have E := Lib.hid (show k = l by omega)
        have hfit : fitsB L = true := HFY.out (fun j hj => HF.out j (by rw [E.out]; exact hj))
        have hOs : O = some (6, maximal (setsTo L k)) := by rw [← HOV.out, compO_yes hfit, HL.out, E.out]
        have hok := setsTo_ok hfit
        rw [HL.out, ← E.out] at hok
        have HOK := Lib.hid hok
        subst hOs
        obtain ⟨a6, c6, g6, hv6, _, hr6⟩ := (show OwnInts wr (br + 1) (.slice aa (setsTo L k).length cc) (setsTo L k) by rw [HN.out]; exact HO.out).at
        injection hv6 with e1 e2 e3
        subst e1
        have HR6 := Lib.hid hr6.ints
        have hNb : N ≤ 200 := by omega
        have hs5 := HT.out.1
        clear hfit hok hr6 e2 e3
        go_wp2_with fail
        refine (make_b 6 _ _ (setsTo L k) _ N HN.out rfl HOK.out (by omega) _ HR6.out).mono ?_
        rintro e w8 ⟨v, rfl, hO2, hb8⟩
        obtain ⟨a8, c8, g8, rfl, _⟩ := OwnInts.atc hO2
        obtain ⟨r0, r1, r2, r3, r4⟩ := HT.out.keeps hb8
        have HO2 := Lib.hid hO2
        have HB8 : Hid (Below br w w8) := HB.out.trans (hb8.mono (by omega))
        clear hO2 hb8
        go_wp2
        refine ret_cx2 br rfl rfl rfl (x := .int .i64 6) (y := .slice a8 (maximal (setsTo L k)).length c8) (by go_simp) (by go_simp) rfl ?_
        exact ⟨_, rfl, by rw [HBR.out]; exact (OwnInts.set (OwnInts.set HO2.out _ _ _ (by omega)) _ _ _ (by omega)).lower (by omega), by rw [HBR.out]; exact (HB8.out.setCell (by dsimp only; omega) _).setCell (by dsimp only; omega) _⟩

end Go.Proofs.Ytamoejjkaebhkaa
