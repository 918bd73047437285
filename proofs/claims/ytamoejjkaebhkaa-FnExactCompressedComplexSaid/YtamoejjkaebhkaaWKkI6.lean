/-
  WALKS: impl's chapter 11: CompressedComplex.
-/
import Derived.Test.YtamoejjkaebhkaaWKkI4
import Derived.Test.YtamoejjkaebhkaaWKkI5
import Derived.Test.YtamoejjkaebhkaaWKkS4
import Derived.Test.YtamoejjkaebhkaaWCx7
namespace Go.Proofs.Ytamoejjkaebhkaa
open Go.RowKit
open Sets Hn Kk

theorem afcI_b (a : Option Addr) (c : Nat) (L : List Int) (l : Nat) (hl : L.length = l) (b : Bool) (hb : countsB L = b) (hlen : l ≤ 1099511627776) (w : World) (h : Ints w a L) :
    Calls Try.prog 25 #[.slice a l c] w fun e w' => e = .returned (.bool b) ∧ Below w.heap.size w w' := by
  subst hl hb; exact implAFC_any a c L hlen w h
theorem firstI_b (k m : Int) (R : List Int) (hR : fsZ k m = R) (w : World) : Calls Try.prog 23 #[.int .i64 k, .int .i64 m] w fun e w' => ∃ v, e = .returned v ∧ OwnInts w' w.heap.size v R ∧ Below w.heap.size w w' := by
  subst hR; exact implFirst_any k m w
theorem fs_few (k : Nat) (hk : k ≤ 6) (m : Int) : (fsZ (k : Int) m).length ≤ ch 6 k := by
  unfold fsZ
  split
  · rw [List.length_map, Int.toNat_natCast]
    unfold firstN
    have := lev_len ⟨k, by omega⟩
    dsimp only at this
    rw [List.length_take, this]
    omega
  · simp
theorem few_sums : ∀ k : Fin 7, [0, 1, 7, 22, 42, 57, 63, 64].getD k.val 0 + ch 6 k.val = [0, 1, 7, 22, 42, 57, 63, 64].getD (k.val + 1) 0 := by decide +kernel
theorem few_all : ∀ k : Fin 8, [0, 1, 7, 22, 42, 57, 63, 64].getD k.val 0 ≤ 64 := by decide +kernel
theorem setsTo_sum (L : List Int) : ∀ n, n ≤ 7 → (setsTo L n).length ≤ [0, 1, 7, 22, 42, 57, 63, 64].getD n 0
  | 0, _ => by simp [setsTo]
  | n + 1, h => by
    rw [setsTo, List.length_append]
    have h1 := setsTo_sum L n (by omega)
    have h2 := fs_few n (by omega) (L.getD n 0)
    have h3 := few_sums ⟨n, by omega⟩
    dsimp only at h3
    omega
theorem made_sets {L : List Int} (h : fitsB L = true) : made 6 (setsTo L L.length) = some (6, maximal (setsTo L L.length)) := by
  refine made_yes ((setsOf_iff _ _).2 ⟨by decide, ?_, fun x hx => ?_⟩)
  · have hl : L.length ≤ 7 := by
      unfold fitsB at h
      rw [Bool.and_eq_true] at h
      exact (countsB_length h.1).2
    have h1 := setsTo_sum L L.length hl
    have h2 := few_all ⟨L.length, by omega⟩
    dsimp only at h2
    omega
  · obtain ⟨s, rfl, hs, _⟩ := (mem_setsTo h L.length (Nat.le_refl _) x).1 hx
    have : ∀ s : Fin 64, setB 6 (s.val : Int) = true := by decide +kernel
    exact this ⟨s, hs⟩
theorem fs_none (k x : Nat) (_ : k ≤ 6) (hx : ch 6 k < x) : fsZ (k : Int) (x : Int) = [] := by
  unfold fsZ
  rw [if_neg (by rw [Int.toNat_natCast]; omega)]

set_option maxRecDepth 100000 in
set_option maxHeartbeats 4000000 in
theorem implComp11_any (a : Option Addr) (c : Nat) (L : List Int) (hlen : L.length ≤ 1099511627776) (w : World) (h : Ints w a L) :
    Calls Try.prog 13 #[.slice a L.length c] w fun e w' => ∃ v, e = .returned (.tuple #[cx (oN (compO L)) v, .bool (compO L).isSome]) ∧ OwnInts w' w.heap.size v (oL (compO L)) ∧ Below w.heap.size w w' := by
  obtain ⟨i0, hi, hz0, hz1, hz2⟩ := info_parts info_int
  have hb0 : Below w.heap.size w (w.alloc (Obj.cells #[Value.int IntKind.i64 0, Value.slice none 0 0] 30)) := (Below.refl _ _).alloc (Nat.le_refl _) _
  have TR := Lib.hid (Two.new w (.int .i64 0) (.slice none 0 0) 30)
  have H := Lib.hid (h.keeps hb0)
  have HW := Lib.hid h
  have HB0 := Lib.hid hb0
  clear h hb0
  obtain ⟨br, hbr⟩ : ∃ br, w.heap.size = br := ⟨_, rfl⟩
  have HBR := Lib.hid hbr
  have TR0 : Hid (Two (w.alloc (Obj.cells #[Value.int IntKind.i64 0, Value.slice none 0 0] 30)) br (.int .i64 0) (.slice none 0 0)) := by rw [← hbr]; exact TR
  have HB0 : Hid (Below br w (w.alloc (Obj.cells #[Value.int IntKind.i64 0, Value.slice none 0 0] 30))) := by rw [← hbr]; exact HB0
  have hsz0 : (w.alloc (Obj.cells #[Value.int IntKind.i64 0, Value.slice none 0 0] 30)).heap.size = br + 1 := by simp [hbr]
  clear TR hbr
  obtain ⟨l, hl⟩ : ∃ l, L.length = l := ⟨_, rfl⟩
  have HL := Lib.hid hl
  cases hC : countsB L with
  | false =>
    rw [compO_no (fits_not hC)]
    have HC := Lib.hid hC
    rw [hl] at hlen ⊢
    clear hC hl
    go_enter Try.func13, Try.ntmps13
    go_wp2_with fail
    refine (afcI_b _ _ L l HL.out false HC.out hlen _ H.out).mono ?_
    rintro e w1 ⟨rfl, hb1⟩
    try rw [HBR.out]
    obtain ⟨r0, r1, r2, r3, r4⟩ := TR0.out.keeps hb1
    have HB1 : Hid (Below br w w1) := HB0.out.trans (hb1.mono (by omega))
    clear hb1
    go_wp2
    refine ret_cx2 br rfl rfl rfl (x := .int .i64 0) (y := .slice none 0 0) (by go_simp) (by go_simp) rfl ?_
    exact ⟨_, rfl, OwnInts.nil _ _, by rw [HBR.out]; first | exact (HB1.out.setCell (by dsimp only; omega) _).setCell (by dsimp only; omega) _ | exact HB1.out⟩
  | true =>
    have hll := countsB_length hC
    have HC := Lib.hid hC
    have HFN := Lib.hid (fun k hk h => compO_no (@fits_no L k hk h))
    have HFY := Lib.hid (fun hf => fits_yes hC hf)
    have HSTEP := Lib.hid (fun k hk => (stepB_iff L k).1 (countsB_step hC k hk))
    have HSL := Lib.hid (setsTo_len L)
    obtain ⟨O, hO⟩ : ∃ O, compO L = O := ⟨_, rfl⟩
    have HOV := Lib.hid hO
    rw [hO] at HFN
    rw [hO]
    rw [hl] at hlen hll HFN HFY HSTEP
    rw [hl]
    clear hC hl hO
    go_enter Try.func13, Try.ntmps13
    go_wp2_with fail
    refine (afcI_b _ _ L l HL.out true HC.out hlen _ H.out).mono ?_
    rintro e w1 ⟨rfl, hb1⟩
    try rw [HBR.out]
    have hsz1 := hb1.size
    rw [hsz0] at hsz1
    have HB1 : Hid (Below br w w1) := HB0.out.trans (hb1.mono (by omega))
    have TR1 := Lib.hid (TR0.out.keeps hb1)
    have HO1 := Lib.hid (OwnInts.nil w1 (br + 1))
    clear hb1 HB0 TR0 H hsz0
    go_wp2
    try rw [HBR.out]
    go_loopw [4, 14] (fun v kv wr => ∃ (k N cc : Nat) (aa : Option Addr), k ≤ l ∧ kv = .int .i64 (k : Int) ∧ v = .slice aa N cc ∧ (setsTo L k).length = N ∧ OwnInts wr (br + 1) (.slice aa N cc) (setsTo L k) ∧ Below br w wr ∧ Two wr br (.int .i64 0) (.slice none 0 0) ∧ br + 1 ≤ wr.heap.size ∧ (∀ j, j < k → L.getD j 0 ≤ (ch 6 j : Int))) (fun _ kv _ => l - (intOf kv).toNat)
    case atStart => exact ⟨0, 0, _, _, Nat.zero_le _, rfl, rfl, rfl, HO1.out, HB1.out, TR1.out, hsz1, fun j hj => absurd hj (Nat.not_lt_zero _)⟩
    case round =>
      clear HO1 HB1 TR1 hsz1
      obtain ⟨k, N, cc, aa, hk, rfl, rfl, hN, hO, hB, hT, hs0, hf⟩ := hrel
      have HO := Lib.hid hO
      have HB := Lib.hid hB
      have HT := Lib.hid hT
      have HF := Lib.hid hf
      have HN := Lib.hid hN
      have hN2 := HSL.out k
      rw [hN] at hN2
      clear hO hB hT hf hN
      by_cases hlt : k < l
      · obtain ⟨b, o, rfl, g⟩ := (HW.out.keeps (by rw [HBR.out]; exact HB.out)) k (by rw [HL.out]; exact hlt)
        obtain ⟨s1, s2, _, _⟩ := HSTEP.out k hlt
        obtain ⟨x, hx⟩ : ∃ x : Nat, L.getD k 0 = (x : Int) := ⟨(L.getD k 0).toNat, by omega⟩
        rw [hx] at g s1 s2
        have HX := Lib.hid hx
        have hk6 : k ≤ 6 := by omega
        obtain ⟨q, hq⟩ : ∃ q, ch 6 k = q := ⟨_, rfl⟩
        have HQ := Lib.hid hq
        clear hx hq
        by_cases hxq : q < x
        · have hO0 : O = none := HFN.out k hlt (by rw [HX.out, HQ.out]; omega)
          subst hO0
          have hx1 : decide (0 < x) = true := by simp; omega
          have HR0 : Hid (fsZ (k : Int) (x : Int) = []) := by
            have : fsZ (k : Int) (x : Int) = [] := fs_none k x hk6 (by rw [HQ.out]; exact hxq)
            exact this
          clear hxq
          go_wp2_with fail
          refine (firstI_b (k : Int) (x : Int) [] HR0.out _).mono ?_
          rintro e w6 ⟨v6, rfl, hO6, hb6⟩
          obtain ⟨a6, c6, g6, rfl, _⟩ := hO6.at
          obtain ⟨r0, r1, r2, r3, r4⟩ := HT.out.keeps hb6
          have HB6 : Hid (Below br w w6) := HB.out.trans (hb6.mono (by omega))
          clear hO6 hb6
          go_wp2
          refine ret_cx2 br rfl rfl rfl (x := .int .i64 0) (y := .slice none 0 0) (by go_simp) (by go_simp) rfl ?_
          exact ⟨_, rfl, OwnInts.nil _ _, by rw [HBR.out]; first | exact (HB6.out.setCell (by dsimp only; omega) _).setCell (by dsimp only; omega) _ | exact HB6.out⟩
        · obtain ⟨R, hR⟩ : ∃ R, fsZ (k : Int) (x : Int) = R := ⟨_, rfl⟩
          have HR := Lib.hid hR
          have hRl : R.length = x := by rw [← hR]; exact fs_some k x hk6 (by rw [HQ.out]; omega)
          have HRL := Lib.hid hRl
          have HNX : Hid (setsTo L (k + 1) = setsTo L k ++ R) := by
            have : setsTo L (k + 1) = setsTo L k ++ R := by rw [setsTo, HX.out, hR]
            exact this
          have hxx : decide (x < x) = false := by simp
          have hs5 := HT.out.1
          clear hR hRl
          go_wp2_with fail
          refine (firstI_b (k : Int) (x : Int) R HR.out _).mono ?_
          rintro e w6 ⟨v6, rfl, hO6, hb6⟩
          obtain ⟨a6, c6, g6, rfl, hc6, hg6, hr6, _⟩ := OwnInts.ata hO6 hb6.size
          obtain ⟨e6, _, _, _⟩ := hr6 0 (by rw [HRL.out]; omega)
          subst e6
          have HB6 : Hid (Below br w w6) := HB.out.trans (hb6.mono (by omega))
          have HT6 := Lib.hid (HT.out.keeps hb6)
          have HO6 : Hid (w6.ownsRow (br + 1) 3 1 (.slice aa N cc) N ((setsTo L k).map (Value.int .i64))) := by
            have h := OwnInts.keeps HO.out hb6
            unfold OwnInts at h
            rw [HN.out] at h
            exact h
          have hs6 : br < w6.heap.size := Nat.lt_of_lt_of_le hs5 hb6.size
          have HR6 := Lib.hid hr6.ints
          rw [HRL.out] at hc6 ⊢
          have HRM : Hid ((R.map (Value.int .i64)).length = x) := by
            have : (R.map (Value.int .i64)).length = x := by rw [List.length_map, HRL.out]
            exact this
          clear hO6 hb6 hr6 g
          have hx20 : x ≤ 1000 := by omega
          have hNb : N ≤ 200 := by omega
          go_wp2_with (at_builtin; refine wpList_append_own_at _ rfl _ _ 26 rfl (br + 1) 3 i0 (.int .i64 0) 1 8 Try.underlying26 hi hz0 hz1 hz2 rfl (by decide) (.slice aa N cc) N ((setsTo L k).map (Value.int .i64)) rfl HO6.out ⟨g6, 0, none⟩ x c6 (R.map (Value.int .i64)) rfl ?c0 (Ints.news HR6.out) (one_ints _) ?c3 ?c4 ?c5 ?_)
          case c0 => rw [HRM.out]; omega
          case c3 => unfold maxLen; omega
          case c4 => omega
          case c5 => omega
          intro v' w7 hown1 hgrow _ hob
          have hbs : Below (br + 1) w6 w7 := (Below.refl _ _).grown hgrow (by omega) (fun g hg => (HO6.out.lt g hg).1)
          have hO7 : OwnInts w7 (br + 1) v' (setsTo L (k + 1)) := by
            rw [HNX.out]
            unfold OwnInts
            rw [List.length_append, List.map_append, HN.out, HRL.out]
            exact hown1
          have hl7 : (setsTo L (k + 1)).length = N + x := by rw [HNX.out, List.length_append, HN.out, HRL.out]
          obtain ⟨a7, c7, _, rfl, _⟩ := OwnInts.ata hO7 (by have := hbs.size; omega)
          rw [hl7] at hO7
          rw [hl7]
          have HL7 := Lib.hid hl7
          have HO7 := Lib.hid hO7
          have HB7 : Hid (Below br w w7) := HB6.out.trans (hbs.mono (by omega))
          have HT7 := Lib.hid (Two.under HT6.out hbs (by omega))
          have HF7 : Hid (∀ j, j < k + 1 → L.getD j 0 ≤ (ch 6 j : Int)) := by
            have : ∀ j, j < k + 1 → L.getD j 0 ≤ (ch 6 j : Int) := fun j hj => by
              by_cases e : j = k
              · subst e; rw [HX.out, HQ.out]; omega
              · exact HF.out j (by omega)
            exact this
          have hs7 : br + 1 ≤ w7.heap.size := Nat.le_trans (by omega) hbs.size
          clear hown1 hgrow hob hO7 hbs hl7
          go_wp2
          go_roundw
          case rel => exact ⟨k + 1, N + x, c7, a7, by omega, by go_num, rfl, HL7.out, HO7.out, HB7.out, HT7.out, hs7, HF7.out⟩
          case measure => simp [intOf]; omega
      · have E := Lib.hid (show k = l by omega)
        have hfit : fitsB L = true := HFY.out (fun j hj => HF.out j (by rw [E.out]; exact hj))
        have hOs : O = some (6, maximal (setsTo L k)) := by rw [← HOV.out, compO_yes hfit, HL.out, E.out]
        have hmd := made_sets hfit
        rw [HL.out, ← E.out] at hmd
        have HMD := Lib.hid hmd
        subst hOs
        obtain ⟨a6, c6, g6, hv6, _, hr6⟩ := (show OwnInts wr (br + 1) (.slice aa (setsTo L k).length cc) (setsTo L k) by rw [HN.out]; exact HO.out).at
        injection hv6 with e1 e2 e3
        subst e1
        have HR6 := Lib.hid hr6.ints
        have hNb : N ≤ 200 := by omega
        have hs5 := HT.out.1
        clear hfit hmd hr6 e2 e3
        go_wp2_with fail
        refine (implMake_some 6 _ _ N (setsTo L k) HN.out 6 (maximal (setsTo L k)) HMD.out (by rw [HN.out]; omega) _ HR6.out).mono ?_
        rintro e w8 ⟨v, rfl, hO2, hb8⟩
        obtain ⟨a8, c8, g8, rfl, _⟩ := OwnInts.atc hO2
        obtain ⟨r0, r1, r2, r3, r4⟩ := HT.out.keeps hb8
        have HO2 := Lib.hid hO2
        have HB8 : Hid (Below br w w8) := HB.out.trans (hb8.mono (by omega))
        clear hO2 hb8
        go_wp2
        refine ret_cx2 br rfl rfl rfl (x := .int .i64 6) (y := .slice a8 (maximal (setsTo L k)).length c8) (by go_simp) (by go_simp) rfl ?_
        exact ⟨_, rfl, by rw [HBR.out]; exact (OwnInts.set (OwnInts.set HO2.out _ _ _ (by omega)) _ _ _ (by omega)).lower (by omega), by rw [HBR.out]; exact (HB8.out.setCell (by dsimp only; omega) _).setCell (by dsimp only; omega) _⟩

end Go.Proofs.Ytamoejjkaebhkaa
