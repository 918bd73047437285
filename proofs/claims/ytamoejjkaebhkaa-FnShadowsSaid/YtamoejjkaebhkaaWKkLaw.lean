/-
  THE WALK of the law on possible counts (written by genkklaw.py).
-/
import Derived.Test.YtamoejjkaebhkaaWKkH
import Derived.Deep.DeepCutAuto
namespace Go.Proofs.Ytamoejjkaebhkaa
open Go.RowKit
open Sets Hn Kk

set_option maxRecDepth 1000000 in
set_option maxHeartbeats 16000000 in
theorem kk_walk (JCas : ∀ (m k : Int) (W : World), Calls Try.prog 11 #[.int .i64 m, .int .i64 k] W fun e w' => ∃ v, e = .returned v ∧ HasInts w' W.heap.size v (cascZ m k) ∧ Below W.heap.size W w')
    (JSh : ∀ (m k : Int) (W : World), Calls Try.prog 20 #[.int .i64 m, .int .i64 k] W fun e w' => e = .returned (.int .i64 (boundZ 0 m k)) ∧ Below W.heap.size W w')
    (JFs : ∀ (k m : Int) (W : World), Calls Try.prog 23 #[.int .i64 k, .int .i64 m] W fun e w' => ∃ v, e = .returned v ∧ HasInts w' W.heap.size v (fsZ k m) ∧ Below W.heap.size W w')
    (JAfc : ∀ (a : Option Addr) (c : Nat) (xs : List Int), xs.length ≤ c → xs.length ≤ 1099511627776 → ∀ W : World, Ints W a xs → Calls Try.prog 25 #[.slice a xs.length c] W fun e w' => e = .returned (.bool (countsB xs)) ∧ Below W.heap.size W w')
    (JCmp : ∀ (a : Option Addr) (c : Nat) (xs : List Int), xs.length ≤ c → xs.length ≤ 1099511627776 → ∀ W : World, Ints W a xs → Calls Try.prog 13 #[.slice a xs.length c] W fun e w' => ∃ v, e = .returned (.tuple #[cx (oN (compO xs)) v, .bool (compO xs).isSome]) ∧ HasInts w' W.heap.size v (oL (compO xs)) ∧ Below W.heap.size W w')
    (a : Option Addr) (n c : Nat) (hn : n ≤ 9223372036854775807) (w : World) (hc : Code w a n) :
    Calls Try.prog 3 #[.slice a n c] w fun e w' => e = .returned (.bool true) ∧ Below w.heap.size w w' := by
  have HC := Lib.hid hc
  clear hc
  by_cases hbig : 1048576 < (n : Int)
  · go_enter Try.func3, Try.ntmps3
    go_wp2
    go_ret
    exact ⟨rfl, Below.refl _ _⟩
  have KCas := Lib.hid JCas
  have KSh := Lib.hid JSh
  have KFs := Lib.hid JFs
  have KAfc := Lib.hid JAfc
  have KCmp := Lib.hid JCmp
  clear JCas JSh JFs JAfc JCmp
  go_enter Try.func3, Try.ntmps3
  go_wp2_with (go_at_call 9; go_in)
  refine (drawCascade_any a n c (by omega) _ HC.out).mono ?_
  rintro e w1 ⟨z3, z4, rfl, hb⟩
  have HBW := Lib.hid hb
  clear hb
  obtain ⟨LA, hLA⟩ : ∃ z, cascZ z3 z4 = z := ⟨_, rfl⟩
  have hla : LA.length ≤ 1048576 := by rw [← hLA]; exact cascZ_le _ _
  have hjc := KCas.out z3 z4
  rw [hLA] at hjc
  have GC := Lib.hid hjc
  have HLA := Lib.hid hLA
  clear hjc hLA
  go_wp2_with fail
  refine (GC.out _).mono ?_
  rintro e w2 ⟨v, rfl, hO, hb⟩
  obtain ⟨a5, c5, _, rfl, hc5, _, hr0, _⟩ := hO
  have hr := hr0.ints
  replace HBW := Lib.hid (HBW.out.trans (hb.mono HBW.out.size))
  have I5 := Lib.hid hr
  clear hr hr0 hb
  go_wp2_with fail
  refine (drawComp11_any a n c (by omega) _ (HC.out.keeps HBW.out)).mono ?_
  rintro e w3 ⟨v, x6, rfl, hx6, hO, hb⟩
  obtain ⟨a6, c6, rfl, hc6, hz6, hr⟩ := OwnInts.atn hO hb.size
  replace I5 := Lib.hid (I5.out.keeps hb)
  replace HBW := Lib.hid (HBW.out.trans (hb.mono HBW.out.size))
  have I6 := Lib.hid hr
  clear hO hr hb
  obtain ⟨NO, hNO⟩ : ∃ z, oN (compO x6) = z := ⟨_, rfl⟩
  obtain ⟨LO, hLO⟩ : ∃ z, oL (compO x6) = z := ⟨_, rfl⟩
  obtain ⟨BO, hBO⟩ : ∃ z, (compO x6).isSome = z := ⟨_, rfl⟩
  have hlO : LO.length ≤ 1099511627776 := by rw [← hLO]; exact Nat.le_trans (compO_le _) (by decide)
  have hCO : BO = true → counts (faces NO LO) = x6 := fun h => by rw [← hNO, ← hLO]; exact compO_counts (by rw [hBO]; exact h)
  have hG := fun W h => KCmp.out a6 c6 x6 hc6 (by omega) W h
  have hS := fun W h => specComp11_any a6 c6 x6 (by omega) W h
  simp only [hNO, hLO, hBO] at hG hS
  have GG := Lib.hid hG
  have GS := Lib.hid hS
  have HCO := Lib.hid hCO
  clear hG hS hCO hNO hLO hBO
  go_wp2_with fail
  refine (GG.out _ I6.out).mono ?_
  rintro e w7 ⟨v, rfl, hO, hb⟩
  obtain ⟨a7, c7, _, rfl, hc7, _, hr0, _⟩ := hO
  have hr := hr0.ints
  have hba : Below w7.heap.size w7 (w7.alloc (.cells #[.int .i64 NO, .slice a7 LO.length c7] 30)) := (Below.refl _ _).alloc (Nat.le_refl _) _
  replace I5 := Lib.hid ((I5.out.keeps hb).keeps hba)
  replace I6 := Lib.hid ((I6.out.keeps hb).keeps hba)
  replace HBW := Lib.hid ((HBW.out.trans (hb.mono HBW.out.size)).trans (hba.mono (Nat.le_trans HBW.out.size hb.size)))
  have BX7 := Lib.hid (Bx.new (n := NO) (c := c7) hr 30)
  clear hr hb hba hr0
  go_wp2_with fail
  refine (GS.out _ I6.out).mono ?_
  rintro e w9 ⟨v, rfl, hO, hb⟩
  obtain ⟨a9, c9, rfl, hc9, hz9, hr⟩ := OwnInts.atn hO hb.size
  have hba : Below w9.heap.size w9 (w9.alloc (.cells #[.int .i64 NO, .slice a9 LO.length c9] 30)) := (Below.refl _ _).alloc (Nat.le_refl _) _
  replace BX7 := Lib.hid ((BX7.out.keeps hb).keeps hba)
  replace I5 := Lib.hid ((I5.out.keeps hb).keeps hba)
  replace I6 := Lib.hid ((I6.out.keeps hb).keeps hba)
  replace HBW := Lib.hid ((HBW.out.trans (hb.mono HBW.out.size)).trans (hba.mono (Nat.le_trans HBW.out.size hb.size)))
  have BX9 := Lib.hid (Bx.new (n := NO) (c := c9) hr 30)
  clear hr hb hba hO
  clear GG GS
  go_wp2_with fail
  refine (drawFirst_any a n c (by omega) _ (HC.out.keeps HBW.out)).mono ?_
  rintro e w10 ⟨p11, q12, rfl, hb⟩
  replace BX7 := Lib.hid (BX7.out.keeps hb)
  replace BX9 := Lib.hid (BX9.out.keeps hb)
  replace I5 := Lib.hid (I5.out.keeps hb)
  replace I6 := Lib.hid (I6.out.keeps hb)
  replace HBW := Lib.hid (HBW.out.trans (hb.mono HBW.out.size))
  clear hb
  go_wp2_with fail
  refine (drawCounts_any a n c (by omega) _ (HC.out.keeps HBW.out)).mono ?_
  rintro e w11 ⟨N1, v, x1, rfl, hx1, hO, hb⟩
  obtain ⟨a1, c1, rfl, hc1, hz1, hr⟩ := OwnInts.atn hO hb.size
  replace BX7 := Lib.hid (BX7.out.keeps hb)
  replace BX9 := Lib.hid (BX9.out.keeps hb)
  replace I5 := Lib.hid (I5.out.keeps hb)
  replace I6 := Lib.hid (I6.out.keeps hb)
  replace HBW := Lib.hid (HBW.out.trans (hb.mono HBW.out.size))
  have I1 := Lib.hid hr
  clear hO hr hb
  obtain ⟨LF, hLF⟩ : ∃ z, counts (faces N1 x1) = z := ⟨_, rfl⟩
  have hlf7 : LF.length ≤ 7 := by rw [← hLF]; exact counts_le7 _
  have hposs : 0 < LF.length → countsB LF = true := fun h => by rw [← hLF]; exact counts_possible N1 x1 (by rw [hLF]; exact h)
  have HLF := Lib.hid hLF
  have HPO := Lib.hid hposs
  clear hLF hposs
  go_wp2_with fail
  refine (kkCounts N1 _ _ x1 LF HLF.out (by omega) _ I1.out).mono ?_
  rintro e w13 ⟨v, rfl, hO, hb⟩
  obtain ⟨a13, c13, rfl, hc13, hz13, hr⟩ := OwnInts.atn hO hb.size
  replace BX7 := Lib.hid (BX7.out.keeps hb)
  replace BX9 := Lib.hid (BX9.out.keeps hb)
  replace I5 := Lib.hid (I5.out.keeps hb)
  replace I6 := Lib.hid (I6.out.keeps hb)
  replace HBW := Lib.hid (HBW.out.trans (hb.mono HBW.out.size))
  have I13 := Lib.hid hr
  clear hO hr hb I1
  obtain ⟨R, hR⟩ : ∃ R, fsZ p11 q12 = R := ⟨_, rfl⟩
  have hRl : R.length ≤ 1099511627776 := by rw [← hR]; exact Nat.le_trans (fsZ_le _ _) (by decide)
  obtain ⟨zb, hzb⟩ : ∃ z, boundZ 0 z3 z4 = z := ⟨_, rfl⟩
  obtain ⟨B6, hB6⟩ : ∃ z, countsB x6 = z := ⟨_, rfl⟩
  have hjs := KSh.out z3 z4
  have hjf := KFs.out p11 q12
  have hja := KAfc.out a6 c6 x6 hc6 (by omega)
  rw [hzb] at hjs
  rw [hR] at hjf
  rw [hB6] at hja
  have hbb : (BO != BO) = false := by simp
  have hbb6 : (B6 != B6) = false := by simp
  have hbz : (zb != zb) = false := by simp
  have HR := Lib.hid hR
  have HZB := Lib.hid hzb
  have HB6 := Lib.hid hB6
  have GSh := Lib.hid hjs
  have GFs := Lib.hid hjf
  have GAf := Lib.hid hja
  clear hR hzb hB6 hjs hjf hja KSh KFs GC
  go_wp2_with fail
  refine (kkSC z3 z4 LA HLA.out _).mono ?_
  rintro e wN ⟨v, rfl, hO, hb⟩
  obtain ⟨aHP, cHP, gHP, rfl, _, _, hsp, _⟩ := OwnInts.ata hO hb.size
  replace BX7 := Lib.hid (BX7.out.keeps hb)
  replace BX9 := Lib.hid (BX9.out.keeps hb)
  replace I5 := Lib.hid (I5.out.keeps hb)
  replace I6 := Lib.hid (I6.out.keeps hb)
  replace I13 := Lib.hid (I13.out.keeps hb)
  replace HBW := Lib.hid (HBW.out.trans (hb.mono HBW.out.size))
  have HP := Lib.hid hsp.ints
  clear hsp
  clear hO
  clear hb
  go_wp2_with fail
  refine (sameInt_any _ _ _ _ LA (by omega) _ I5.out HP.out).mono ?_
  rintro e wN ⟨rfl, hb⟩
  replace BX7 := Lib.hid (BX7.out.keeps hb)
  replace BX9 := Lib.hid (BX9.out.keeps hb)
  replace I5 := Lib.hid (I5.out.keeps hb)
  replace I6 := Lib.hid (I6.out.keeps hb)
  replace I13 := Lib.hid (I13.out.keeps hb)
  replace HP := Lib.hid (HP.out.keeps hb)
  replace HBW := Lib.hid (HBW.out.trans (hb.mono HBW.out.size))
  clear hb
  clear HP
  go_wp2_with fail
  refine (GSh.out _).mono ?_
  rintro e wN ⟨rfl, hb⟩
  replace BX7 := Lib.hid (BX7.out.keeps hb)
  replace BX9 := Lib.hid (BX9.out.keeps hb)
  replace I5 := Lib.hid (I5.out.keeps hb)
  replace I6 := Lib.hid (I6.out.keeps hb)
  replace I13 := Lib.hid (I13.out.keeps hb)
  replace HBW := Lib.hid (HBW.out.trans (hb.mono HBW.out.size))
  clear hb
  go_wp2_with fail
  refine (kkSH z3 z4 zb HZB.out _).mono ?_
  rintro e wN ⟨rfl, hb⟩
  replace BX7 := Lib.hid (BX7.out.keeps hb)
  replace BX9 := Lib.hid (BX9.out.keeps hb)
  replace I5 := Lib.hid (I5.out.keeps hb)
  replace I6 := Lib.hid (I6.out.keeps hb)
  replace I13 := Lib.hid (I13.out.keeps hb)
  replace HBW := Lib.hid (HBW.out.trans (hb.mono HBW.out.size))
  clear hb
  obtain ⟨t0, t1, t2, t3, t4⟩ := BX7.out.1
  obtain ⟨s0, s1, s2, s3, s4⟩ := BX9.out.1
  go_wp2_with fail
  refine (sameCx_any NO _ _ _ _ LO hlO _ BX7.out.2 BX9.out.2).mono ?_
  rintro e wN ⟨rfl, hb⟩
  replace BX7 := Lib.hid (BX7.out.keeps hb)
  replace BX9 := Lib.hid (BX9.out.keeps hb)
  replace I5 := Lib.hid (I5.out.keeps hb)
  replace I6 := Lib.hid (I6.out.keeps hb)
  replace I13 := Lib.hid (I13.out.keeps hb)
  replace HBW := Lib.hid (HBW.out.trans (hb.mono HBW.out.size))
  clear hb t0 t1 t2 t3 t4 s0 s1 s2 s3 s4
  go_wp2_with fail
  refine (GFs.out _).mono ?_
  rintro e wN ⟨v, rfl, hO, hb⟩
  obtain ⟨aHQ, cHQ, gHQ, rfl, _, _, hsp, _⟩ := hO
  replace BX7 := Lib.hid (BX7.out.keeps hb)
  replace BX9 := Lib.hid (BX9.out.keeps hb)
  replace I5 := Lib.hid (I5.out.keeps hb)
  replace I6 := Lib.hid (I6.out.keeps hb)
  replace I13 := Lib.hid (I13.out.keeps hb)
  replace HBW := Lib.hid (HBW.out.trans (hb.mono HBW.out.size))
  have HQ := Lib.hid hsp.ints
  clear hsp
  clear hb
  go_wp2_with fail
  refine (kkSF p11 q12 R HR.out _).mono ?_
  rintro e wN ⟨v, rfl, hO, hb⟩
  obtain ⟨aHT5, cHT5, gHT5, rfl, _, _, hsp, _⟩ := OwnInts.ata hO hb.size
  replace BX7 := Lib.hid (BX7.out.keeps hb)
  replace BX9 := Lib.hid (BX9.out.keeps hb)
  replace I5 := Lib.hid (I5.out.keeps hb)
  replace I6 := Lib.hid (I6.out.keeps hb)
  replace I13 := Lib.hid (I13.out.keeps hb)
  replace HQ := Lib.hid (HQ.out.keeps hb)
  replace HBW := Lib.hid (HBW.out.trans (hb.mono HBW.out.size))
  have HT5 := Lib.hid hsp.ints
  clear hsp
  clear hO
  clear hb
  go_wp2_with fail
  refine (sameInt_any _ _ _ _ R hRl _ HQ.out HT5.out).mono ?_
  rintro e wN ⟨rfl, hb⟩
  replace BX7 := Lib.hid (BX7.out.keeps hb)
  replace BX9 := Lib.hid (BX9.out.keeps hb)
  replace I5 := Lib.hid (I5.out.keeps hb)
  replace I6 := Lib.hid (I6.out.keeps hb)
  replace I13 := Lib.hid (I13.out.keeps hb)
  replace HQ := Lib.hid (HQ.out.keeps hb)
  replace HT5 := Lib.hid (HT5.out.keeps hb)
  replace HBW := Lib.hid (HBW.out.trans (hb.mono HBW.out.size))
  clear hb
  clear HQ HT5
  go_wp2_with fail
  refine (GAf.out _ I6.out).mono ?_
  rintro e wN ⟨rfl, hb⟩
  replace BX7 := Lib.hid (BX7.out.keeps hb)
  replace BX9 := Lib.hid (BX9.out.keeps hb)
  replace I5 := Lib.hid (I5.out.keeps hb)
  replace I6 := Lib.hid (I6.out.keeps hb)
  replace I13 := Lib.hid (I13.out.keeps hb)
  replace HBW := Lib.hid (HBW.out.trans (hb.mono HBW.out.size))
  clear hb
  go_wp2_with fail
  refine (kkSA _ _ x6 B6 HB6.out (by omega) _ I6.out).mono ?_
  rintro e wN ⟨rfl, hb⟩
  replace BX7 := Lib.hid (BX7.out.keeps hb)
  replace BX9 := Lib.hid (BX9.out.keeps hb)
  replace I5 := Lib.hid (I5.out.keeps hb)
  replace I6 := Lib.hid (I6.out.keeps hb)
  replace I13 := Lib.hid (I13.out.keeps hb)
  replace HBW := Lib.hid (HBW.out.trans (hb.mono HBW.out.size))
  clear hb
  clear BX9 hbb hbb6 hbz GSh GFs GAf
  by_cases hf0 : LF.length = 0
  · obtain rfl := List.eq_nil_of_length_eq_zero hf0
    simp only [List.length_nil]
    clear hf0 hlf7 I13 KAfc
    cases BO with
    | false =>
      cases hF : fineB z3 z4 with
      | false =>
        have hla0 : LA = [] := by rw [← HLA.out]; unfold cascZ; rw [if_neg (by rw [hF]; simp)]
        subst hla0
        simp only [List.length_nil]
        clear hF hla
        go_wp2
        go_loopw [14, 15] (fun s i wr => s = .int .i64 0 ∧ i = .int .i64 0 ∧ Below w.heap.size w wr) (fun _ _ _ => 0)
        case atStart => exact ⟨rfl, rfl, HBW.out⟩
        case round =>
          obtain ⟨rfl, rfl, hB⟩ := hrel
          have HB := Lib.hid hB
          clear hB
          go_wp2
          go_ret
          exact ⟨rfl, HB.out⟩
      | true =>
        obtain ⟨f0, f1, f2, f3⟩ := (fineB_iff z3 z4).1 hF
        obtain ⟨M, hM⟩ : ∃ M : Nat, z3 = (M : Int) := ⟨z3.toNat, by omega⟩
        obtain ⟨K, hK⟩ : ∃ K : Nat, z4 = (K : Int) := ⟨z4.toNat, by omega⟩
        subst hM
        subst hK
        have hK1 : 1 ≤ K := by omega
        have hK6 : K ≤ 6 := by omega
        have hM1 : M ≤ 1000 := by omega
        have hLC : LA = ofN (casc K M) := by rw [← HLA.out]; unfold cascZ; rw [if_pos hF]; rfl
        have hat := fun j hj => casc_at K M j hM1 hj
        have hsm := casc_sum K M hK1 hM1
        have hsl := fun h2 j hj => casc_small K M j h2 hK6 hM1 hj
        have hcl := casc_le K M
        obtain ⟨C, hC⟩ : ∃ C, casc K M = C := ⟨_, rfl⟩
        rw [hC] at hLC hat hsm hsl hcl
        have hil := ofN_length C
        have hia := ofN_at C
        rw [← hLC] at hil hia
        have HAT := Lib.hid hat
        have HSM := Lib.hid hsm
        have HSL := Lib.hid hsl
        have HIA := Lib.hid hia
        have HIL := Lib.hid hil
        obtain ⟨l, hl⟩ : ∃ l, C.length = l := ⟨_, rfl⟩
        have HL := Lib.hid hl
        have hLAl : LA.length = l := by rw [hil, hl]
        have HLAL := Lib.hid hLAl
        rw [hl] at hcl
        rw [hLAl]
        clear hF f0 f1 f2 f3 hLC hat hsm hsl hC hil hia hl hLAl hla
        go_wp2
        go_loopw [14, 15] (fun s i wr => ∃ j m : Nat, j ≤ l ∧ i = .int .i64 (j : Int) ∧ s = .int .i64 ((sumT (fun j x => ch x (K - j)) C j : Nat) : Int) ∧ (sumT (fun j x => ch x (K - j)) C j ≤ 1000 ∨ l = 0) ∧ Below w.heap.size w wr ∧ Ints wr a5 LA ∧ m = 0) (fun _ i _ => l - (intOf i).toNat)
        case atStart => exact ⟨0, 0, Nat.zero_le _, rfl, rfl, .inl (by show 0 ≤ 1000; decide), HBW.out, I5.out, rfl⟩
        case round =>
          obtain ⟨j, m0, hj, rfl, rfl, hs1000, hB, hI, _⟩ := hrel
          have HB := Lib.hid hB
          have HI := Lib.hid hI
          clear hB hI
          by_cases hlt : j < l
          · obtain ⟨b1, o1, rfl, g1⟩ := HI.out j (by rw [HLAL.out]; exact hlt)
            rw [HIA.out j (by rw [HL.out]; exact hlt)] at g1
            obtain ⟨q1, q2⟩ := HAT.out j (by rw [HL.out]; exact hlt)
            obtain ⟨x, hx⟩ : ∃ x, C.getD j 0 = x := ⟨_, rfl⟩
            have HX := Lib.hid hx
            rw [hx] at g1 q1 q2
            have hKj : (K : Int) - (j : Int) = ((K - j : Nat) : Int) := by omega
            have hxk : decide (x < K - j) = false := by simp; omega
            have hxk2 : decide ((x : Int) < (K : Int) - (j : Int)) = false := by simp; omega
            have hnx : sumT (fun j x => ch x (K - j)) C (j + 1) = sumT (fun j x => ch x (K - j)) C j + ch x (K - j) := by rw [sumT, hx]
            have hle : sumT (fun j x => ch x (K - j)) C (j + 1) ≤ 1000 := by
              have hmono : ∀ d, j + 1 + d ≤ l → sumT (fun j x => ch x (K - j)) C (j + 1) ≤ sumT (fun j x => ch x (K - j)) C (j + 1 + d) := fun d => by
                induction d with
                | zero => intro _; exact Nat.le_refl _
                | succ d ih => intro h; exact Nat.le_trans (ih (by omega)) (Nat.le_add_right _ _)
              have h1 := hmono (l - (j + 1)) (by omega)
              rw [show j + 1 + (l - (j + 1)) = l by omega] at h1
              have h2 := HSM.out
              rw [HL.out] at h2
              omega
            obtain ⟨y, hy⟩ : ∃ y, ch x (K - j) = y := ⟨_, rfl⟩
            obtain ⟨S0, hS0⟩ : ∃ S0, sumT (fun j x => ch x (K - j)) C j = S0 := ⟨_, rfl⟩
            obtain ⟨S1, hS1⟩ : ∃ S1, sumT (fun j x => ch x (K - j)) C (j + 1) = S1 := ⟨_, rfl⟩
            rw [hS0, hS1, hy] at hnx
            rw [hS1] at hle
            rw [hS0]
            have HS0 := Lib.hid hS0
            have HS1 := Lib.hid hS1
            have HY := Lib.hid hy
            have HNX := Lib.hid hnx
            have hbs : S0 + y ≤ 1000 := by omega
            clear hx hy hS0 hS1 hnx hs1000
            by_cases hj0 : j = 0
            · subst hj0
              rw [Nat.add_zero] at g1
              have HS1 : Hid (sumT (fun j x => ch x (K - j)) C 1 = S1) := HS1
              go_wp2_with fail
              go_quiet (fail)
              have HBq := Lib.hid (bdrew HB.out nq)
              have HIq : Hid (Ints (wr.drewN nq) (some ⟨b1, o1, none⟩) LA) := HI
              have g1 : (wr.drewN nq).cell? ⟨b1, o1, none⟩ = some (.int .i64 (x : Int)) := g1
              generalize wr.drewN nq = w5 at *
              by_cases hx60 : x ≤ 60
              · have hd60 : decide (x ≤ 60) = true := by simpa using hx60
                have HCH : Hid (∀ W, Calls Try.prog 27 #[.int .i64 (x : Int), .int .i64 ((K : Int))] W fun e w' => e = .returned (.int .i64 (y : Int)) ∧ W = w') := by
                  have : ∀ W, Calls Try.prog 27 #[.int .i64 (x : Int), .int .i64 ((K : Int))] W fun e w' => e = .returned (.int .i64 (y : Int)) ∧ W = w' := fun W => specChoose_z x (K - 0) _ _ rfl (by omega) y HY.out hx60 (by omega) W
                  exact this
                go_wp2_with fail
                refine (HCH.out _).mono ?_
                rintro e w' ⟨rfl, rfl⟩
                go_wp2
                go_roundw
                case rel => exact ⟨1, 0, by omega, rfl, by rw [HS1.out, HNX.out]; simp, .inl (by rw [HS1.out]; exact hle), HBq.out, HIq.out, rfl⟩
                case measure => simp [intOf]; omega
              · have hd60 : decide (x ≤ 60) = false := by simpa using hx60
                have hK11 : K = 1 := by
                  rcases Nat.lt_or_ge K 2 with h | h
                  · omega
                  · exfalso
                    have := HSL.out h 0 (by rw [HL.out]; exact hlt)
                    rw [HX.out] at this
                    omega
                have hKe : ((K : Int) == 1) = true := by rw [hK11]; rfl
                clear hK11
                go_wp2
                go_ret
                exact ⟨rfl, HBq.out⟩
            · obtain ⟨b2, o2, e2, g2⟩ := HI.out (j - 1) (by rw [HLAL.out]; omega)
              injection e2 with e2
              injection e2 with e2 e3
              subst e2 e3
              rw [HIA.out (j - 1) (by rw [HL.out]; omega)] at g2
              have q3 := q2 (by omega)
              obtain ⟨x2, hx2⟩ : ∃ x2, C.getD (j - 1) 0 = x2 := ⟨_, rfl⟩
              rw [hx2] at g2 q3
              obtain ⟨jj, hjj⟩ : ∃ jj, j - 1 = jj := ⟨_, rfl⟩
              rw [hjj] at g2
              have hjz : (j : Int) - 1 = (jj : Int) := by omega
              have hjl : jj < l := by omega
              have hdj : decide (0 < j) = true := by simp; omega
              have hge : decide (x2 ≤ x) = false := by simp; omega
              clear hx2 hjj q2
              go_wp2_with fail
              go_quiet (fail)
              have HBq := Lib.hid (bdrew HB.out nq)
              have HIq : Hid (Ints (wr.drewN nq) (some ⟨b1, o1, none⟩) LA) := HI
              have g1 : (wr.drewN nq).cell? ⟨b1, o1 + j, none⟩ = some (.int .i64 (x : Int)) := g1
              generalize wr.drewN nq = w5 at *
              by_cases hx60 : x ≤ 60
              · have hd60 : decide (x ≤ 60) = true := by simpa using hx60
                have HCH : Hid (∀ W, Calls Try.prog 27 #[.int .i64 (x : Int), .int .i64 (((K - j : Nat) : Int))] W fun e w' => e = .returned (.int .i64 (y : Int)) ∧ W = w') := by
                  have : ∀ W, Calls Try.prog 27 #[.int .i64 (x : Int), .int .i64 (((K - j : Nat) : Int))] W fun e w' => e = .returned (.int .i64 (y : Int)) ∧ W = w' := fun W => specChoose_z x (K - j) _ _ rfl (by omega) y HY.out hx60 (by omega) W
                  exact this
                go_wp2_with fail
                refine (HCH.out _).mono ?_
                rintro e w' ⟨rfl, rfl⟩
                go_wp2
                go_roundw
                case rel => exact ⟨j + 1, 0, by omega, by go_num, by rw [HS1.out, HNX.out]; simp, .inl (by rw [HS1.out]; exact hle), HBq.out, HIq.out, rfl⟩
                case measure => simp [intOf]; omega
              · have hd60 : decide (x ≤ 60) = false := by simpa using hx60
                have hK11 : K = 1 := by
                  rcases Nat.lt_or_ge K 2 with h | h
                  · omega
                  · exfalso
                    have := HSL.out h j (by rw [HL.out]; exact hlt)
                    rw [HX.out] at this
                    omega
                have hKe : ((K : Int) == 1) = true := by rw [hK11]; rfl
                clear hK11
                go_wp2
                go_ret
                exact ⟨rfl, HBq.out⟩
          · have E := Lib.hid (show j = l by omega)
            have hS : sumT (fun j x => ch x (K - j)) C j = M := by rw [E.out, ← HL.out]; exact HSM.out
            rw [hS]
            have hMM : ((M : Int) == (M : Int)) = true := by simp
            clear hS
            by_cases hl0 : l = 0
            · have hlz : ((l : Int) == 0) = true := by rw [hl0]; rfl
              clear hl0
              go_wp2
              go_ret
              exact ⟨rfl, HB.out⟩
            · have hlz : ((l : Int) == 0) = false := by rw [beq_eq_false_iff_ne]; omega
              clear hl0
              go_wp2
              go_ret
              exact ⟨rfl, HB.out⟩
    | true =>
      have hcc := HCO.out rfl
      have HCC := Lib.hid hcc
      clear hcc
      obtain ⟨t0, t1, t2, t3, t4⟩ := BX7.out.1
      go_wp2_with fail
      refine (kkCounts NO _ _ LO x6 HCC.out hlO _ BX7.out.2).mono ?_
      rintro e wF ⟨v, rfl, hO, hb⟩
      obtain ⟨aF, cF, gF, rfl, _, _, hrF, _⟩ := OwnInts.ata hO hb.size
      have IF := Lib.hid hrF.ints
      replace I5 := Lib.hid (I5.out.keeps hb)
      replace I6 := Lib.hid (I6.out.keeps hb)
      replace HBW := Lib.hid (HBW.out.trans (hb.mono HBW.out.size))
      clear hO hb hrF t0 t1 t2 t3 t4
      go_wp2_with fail
      refine (sameInt_any _ _ _ _ x6 (by omega) _ IF.out I6.out).mono ?_
      rintro e wG ⟨rfl, hb⟩
      replace I5 := Lib.hid (I5.out.keeps hb)
      replace HBW := Lib.hid (HBW.out.trans (hb.mono HBW.out.size))
      clear hb IF
      cases hF : fineB z3 z4 with
      | false =>
        have hla0 : LA = [] := by rw [← HLA.out]; unfold cascZ; rw [if_neg (by rw [hF]; simp)]
        subst hla0
        simp only [List.length_nil]
        clear hF hla
        go_wp2
        go_loopw [14, 15] (fun s i wr => s = .int .i64 0 ∧ i = .int .i64 0 ∧ Below w.heap.size w wr) (fun _ _ _ => 0)
        case atStart => exact ⟨rfl, rfl, HBW.out⟩
        case round =>
          obtain ⟨rfl, rfl, hB⟩ := hrel
          have HB := Lib.hid hB
          clear hB
          go_wp2
          go_ret
          exact ⟨rfl, HB.out⟩
      | true =>
        obtain ⟨f0, f1, f2, f3⟩ := (fineB_iff z3 z4).1 hF
        obtain ⟨M, hM⟩ : ∃ M : Nat, z3 = (M : Int) := ⟨z3.toNat, by omega⟩
        obtain ⟨K, hK⟩ : ∃ K : Nat, z4 = (K : Int) := ⟨z4.toNat, by omega⟩
        subst hM
        subst hK
        have hK1 : 1 ≤ K := by omega
        have hK6 : K ≤ 6 := by omega
        have hM1 : M ≤ 1000 := by omega
        have hLC : LA = ofN (casc K M) := by rw [← HLA.out]; unfold cascZ; rw [if_pos hF]; rfl
        have hat := fun j hj => casc_at K M j hM1 hj
        have hsm := casc_sum K M hK1 hM1
        have hsl := fun h2 j hj => casc_small K M j h2 hK6 hM1 hj
        have hcl := casc_le K M
        obtain ⟨C, hC⟩ : ∃ C, casc K M = C := ⟨_, rfl⟩
        rw [hC] at hLC hat hsm hsl hcl
        have hil := ofN_length C
        have hia := ofN_at C
        rw [← hLC] at hil hia
        have HAT := Lib.hid hat
        have HSM := Lib.hid hsm
        have HSL := Lib.hid hsl
        have HIA := Lib.hid hia
        have HIL := Lib.hid hil
        obtain ⟨l, hl⟩ : ∃ l, C.length = l := ⟨_, rfl⟩
        have HL := Lib.hid hl
        have hLAl : LA.length = l := by rw [hil, hl]
        have HLAL := Lib.hid hLAl
        rw [hl] at hcl
        rw [hLAl]
        clear hF f0 f1 f2 f3 hLC hat hsm hsl hC hil hia hl hLAl hla
        go_wp2
        go_loopw [14, 15] (fun s i wr => ∃ j m : Nat, j ≤ l ∧ i = .int .i64 (j : Int) ∧ s = .int .i64 ((sumT (fun j x => ch x (K - j)) C j : Nat) : Int) ∧ (sumT (fun j x => ch x (K - j)) C j ≤ 1000 ∨ l = 0) ∧ Below w.heap.size w wr ∧ Ints wr a5 LA ∧ m = 0) (fun _ i _ => l - (intOf i).toNat)
        case atStart => exact ⟨0, 0, Nat.zero_le _, rfl, rfl, .inl (by show 0 ≤ 1000; decide), HBW.out, I5.out, rfl⟩
        case round =>
          obtain ⟨j, m0, hj, rfl, rfl, hs1000, hB, hI, _⟩ := hrel
          have HB := Lib.hid hB
          have HI := Lib.hid hI
          clear hB hI
          by_cases hlt : j < l
          · obtain ⟨b1, o1, rfl, g1⟩ := HI.out j (by rw [HLAL.out]; exact hlt)
            rw [HIA.out j (by rw [HL.out]; exact hlt)] at g1
            obtain ⟨q1, q2⟩ := HAT.out j (by rw [HL.out]; exact hlt)
            obtain ⟨x, hx⟩ : ∃ x, C.getD j 0 = x := ⟨_, rfl⟩
            have HX := Lib.hid hx
            rw [hx] at g1 q1 q2
            have hKj : (K : Int) - (j : Int) = ((K - j : Nat) : Int) := by omega
            have hxk : decide (x < K - j) = false := by simp; omega
            have hxk2 : decide ((x : Int) < (K : Int) - (j : Int)) = false := by simp; omega
            have hnx : sumT (fun j x => ch x (K - j)) C (j + 1) = sumT (fun j x => ch x (K - j)) C j + ch x (K - j) := by rw [sumT, hx]
            have hle : sumT (fun j x => ch x (K - j)) C (j + 1) ≤ 1000 := by
              have hmono : ∀ d, j + 1 + d ≤ l → sumT (fun j x => ch x (K - j)) C (j + 1) ≤ sumT (fun j x => ch x (K - j)) C (j + 1 + d) := fun d => by
                induction d with
                | zero => intro _; exact Nat.le_refl _
                | succ d ih => intro h; exact Nat.le_trans (ih (by omega)) (Nat.le_add_right _ _)
              have h1 := hmono (l - (j + 1)) (by omega)
              rw [show j + 1 + (l - (j + 1)) = l by omega] at h1
              have h2 := HSM.out
              rw [HL.out] at h2
              omega
            obtain ⟨y, hy⟩ : ∃ y, ch x (K - j) = y := ⟨_, rfl⟩
            obtain ⟨S0, hS0⟩ : ∃ S0, sumT (fun j x => ch x (K - j)) C j = S0 := ⟨_, rfl⟩
            obtain ⟨S1, hS1⟩ : ∃ S1, sumT (fun j x => ch x (K - j)) C (j + 1) = S1 := ⟨_, rfl⟩
            rw [hS0, hS1, hy] at hnx
            rw [hS1] at hle
            rw [hS0]
            have HS0 := Lib.hid hS0
            have HS1 := Lib.hid hS1
            have HY := Lib.hid hy
            have HNX := Lib.hid hnx
            have hbs : S0 + y ≤ 1000 := by omega
            clear hx hy hS0 hS1 hnx hs1000
            by_cases hj0 : j = 0
            · subst hj0
              rw [Nat.add_zero] at g1
              have HS1 : Hid (sumT (fun j x => ch x (K - j)) C 1 = S1) := HS1
              go_wp2_with fail
              go_quiet (fail)
              have HBq := Lib.hid (bdrew HB.out nq)
              have HIq : Hid (Ints (wr.drewN nq) (some ⟨b1, o1, none⟩) LA) := HI
              have g1 : (wr.drewN nq).cell? ⟨b1, o1, none⟩ = some (.int .i64 (x : Int)) := g1
              generalize wr.drewN nq = w5 at *
              by_cases hx60 : x ≤ 60
              · have hd60 : decide (x ≤ 60) = true := by simpa using hx60
                have HCH : Hid (∀ W, Calls Try.prog 27 #[.int .i64 (x : Int), .int .i64 ((K : Int))] W fun e w' => e = .returned (.int .i64 (y : Int)) ∧ W = w') := by
                  have : ∀ W, Calls Try.prog 27 #[.int .i64 (x : Int), .int .i64 ((K : Int))] W fun e w' => e = .returned (.int .i64 (y : Int)) ∧ W = w' := fun W => specChoose_z x (K - 0) _ _ rfl (by omega) y HY.out hx60 (by omega) W
                  exact this
                go_wp2_with fail
                refine (HCH.out _).mono ?_
                rintro e w' ⟨rfl, rfl⟩
                go_wp2
                go_roundw
                case rel => exact ⟨1, 0, by omega, rfl, by rw [HS1.out, HNX.out]; simp, .inl (by rw [HS1.out]; exact hle), HBq.out, HIq.out, rfl⟩
                case measure => simp [intOf]; omega
              · have hd60 : decide (x ≤ 60) = false := by simpa using hx60
                have hK11 : K = 1 := by
                  rcases Nat.lt_or_ge K 2 with h | h
                  · omega
                  · exfalso
                    have := HSL.out h 0 (by rw [HL.out]; exact hlt)
                    rw [HX.out] at this
                    omega
                have hKe : ((K : Int) == 1) = true := by rw [hK11]; rfl
                clear hK11
                go_wp2
                go_ret
                exact ⟨rfl, HBq.out⟩
            · obtain ⟨b2, o2, e2, g2⟩ := HI.out (j - 1) (by rw [HLAL.out]; omega)
              injection e2 with e2
              injection e2 with e2 e3
              subst e2 e3
              rw [HIA.out (j - 1) (by rw [HL.out]; omega)] at g2
              have q3 := q2 (by omega)
              obtain ⟨x2, hx2⟩ : ∃ x2, C.getD (j - 1) 0 = x2 := ⟨_, rfl⟩
              rw [hx2] at g2 q3
              obtain ⟨jj, hjj⟩ : ∃ jj, j - 1 = jj := ⟨_, rfl⟩
              rw [hjj] at g2
              have hjz : (j : Int) - 1 = (jj : Int) := by omega
              have hjl : jj < l := by omega
              have hdj : decide (0 < j) = true := by simp; omega
              have hge : decide (x2 ≤ x) = false := by simp; omega
              clear hx2 hjj q2
              go_wp2_with fail
              go_quiet (fail)
              have HBq := Lib.hid (bdrew HB.out nq)
              have HIq : Hid (Ints (wr.drewN nq) (some ⟨b1, o1, none⟩) LA) := HI
              have g1 : (wr.drewN nq).cell? ⟨b1, o1 + j, none⟩ = some (.int .i64 (x : Int)) := g1
              generalize wr.drewN nq = w5 at *
              by_cases hx60 : x ≤ 60
              · have hd60 : decide (x ≤ 60) = true := by simpa using hx60
                have HCH : Hid (∀ W, Calls Try.prog 27 #[.int .i64 (x : Int), .int .i64 (((K - j : Nat) : Int))] W fun e w' => e = .returned (.int .i64 (y : Int)) ∧ W = w') := by
                  have : ∀ W, Calls Try.prog 27 #[.int .i64 (x : Int), .int .i64 (((K - j : Nat) : Int))] W fun e w' => e = .returned (.int .i64 (y : Int)) ∧ W = w' := fun W => specChoose_z x (K - j) _ _ rfl (by omega) y HY.out hx60 (by omega) W
                  exact this
                go_wp2_with fail
                refine (HCH.out _).mono ?_
                rintro e w' ⟨rfl, rfl⟩
                go_wp2
                go_roundw
                case rel => exact ⟨j + 1, 0, by omega, by go_num, by rw [HS1.out, HNX.out]; simp, .inl (by rw [HS1.out]; exact hle), HBq.out, HIq.out, rfl⟩
                case measure => simp [intOf]; omega
              · have hd60 : decide (x ≤ 60) = false := by simpa using hx60
                have hK11 : K = 1 := by
                  rcases Nat.lt_or_ge K 2 with h | h
                  · omega
                  · exfalso
                    have := HSL.out h j (by rw [HL.out]; exact hlt)
                    rw [HX.out] at this
                    omega
                have hKe : ((K : Int) == 1) = true := by rw [hK11]; rfl
                clear hK11
                go_wp2
                go_ret
                exact ⟨rfl, HBq.out⟩
          · have E := Lib.hid (show j = l by omega)
            have hS : sumT (fun j x => ch x (K - j)) C j = M := by rw [E.out, ← HL.out]; exact HSM.out
            rw [hS]
            have hMM : ((M : Int) == (M : Int)) = true := by simp
            clear hS
            by_cases hl0 : l = 0
            · have hlz : ((l : Int) == 0) = true := by rw [hl0]; rfl
              clear hl0
              go_wp2
              go_ret
              exact ⟨rfl, HB.out⟩
            · have hlz : ((l : Int) == 0) = false := by rw [beq_eq_false_iff_ne]; omega
              clear hl0
              go_wp2
              go_ret
              exact ⟨rfl, HB.out⟩
  · have hfp : decide (0 < LF.length) = true := by simp; omega
    have hja := KAfc.out a13 c13 LF hc13 (by omega)
    rw [HPO.out (by omega)] at hja
    have GA := Lib.hid hja
    clear hja hf0 KAfc
    go_wp2_with fail
    refine (GA.out _ I13.out).mono ?_
    rintro e wA ⟨rfl, hb⟩
    replace BX7 := Lib.hid (BX7.out.keeps hb)
    replace I5 := Lib.hid (I5.out.keeps hb)
    replace I6 := Lib.hid (I6.out.keeps hb)
    replace HBW := Lib.hid (HBW.out.trans (hb.mono HBW.out.size))
    clear hb I13 GA
    cases BO with
    | false =>
      cases hF : fineB z3 z4 with
      | false =>
        have hla0 : LA = [] := by rw [← HLA.out]; unfold cascZ; rw [if_neg (by rw [hF]; simp)]
        subst hla0
        simp only [List.length_nil]
        clear hF hla
        go_wp2
        go_loopw [14, 15] (fun s i wr => s = .int .i64 0 ∧ i = .int .i64 0 ∧ Below w.heap.size w wr) (fun _ _ _ => 0)
        case atStart => exact ⟨rfl, rfl, HBW.out⟩
        case round =>
          obtain ⟨rfl, rfl, hB⟩ := hrel
          have HB := Lib.hid hB
          clear hB
          go_wp2
          go_ret
          exact ⟨rfl, HB.out⟩
      | true =>
        obtain ⟨f0, f1, f2, f3⟩ := (fineB_iff z3 z4).1 hF
        obtain ⟨M, hM⟩ : ∃ M : Nat, z3 = (M : Int) := ⟨z3.toNat, by omega⟩
        obtain ⟨K, hK⟩ : ∃ K : Nat, z4 = (K : Int) := ⟨z4.toNat, by omega⟩
        subst hM
        subst hK
        have hK1 : 1 ≤ K := by omega
        have hK6 : K ≤ 6 := by omega
        have hM1 : M ≤ 1000 := by omega
        have hLC : LA = ofN (casc K M) := by rw [← HLA.out]; unfold cascZ; rw [if_pos hF]; rfl
        have hat := fun j hj => casc_at K M j hM1 hj
        have hsm := casc_sum K M hK1 hM1
        have hsl := fun h2 j hj => casc_small K M j h2 hK6 hM1 hj
        have hcl := casc_le K M
        obtain ⟨C, hC⟩ : ∃ C, casc K M = C := ⟨_, rfl⟩
        rw [hC] at hLC hat hsm hsl hcl
        have hil := ofN_length C
        have hia := ofN_at C
        rw [← hLC] at hil hia
        have HAT := Lib.hid hat
        have HSM := Lib.hid hsm
        have HSL := Lib.hid hsl
        have HIA := Lib.hid hia
        have HIL := Lib.hid hil
        obtain ⟨l, hl⟩ : ∃ l, C.length = l := ⟨_, rfl⟩
        have HL := Lib.hid hl
        have hLAl : LA.length = l := by rw [hil, hl]
        have HLAL := Lib.hid hLAl
        rw [hl] at hcl
        rw [hLAl]
        clear hF f0 f1 f2 f3 hLC hat hsm hsl hC hil hia hl hLAl hla
        go_wp2
        go_loopw [14, 15] (fun s i wr => ∃ j m : Nat, j ≤ l ∧ i = .int .i64 (j : Int) ∧ s = .int .i64 ((sumT (fun j x => ch x (K - j)) C j : Nat) : Int) ∧ (sumT (fun j x => ch x (K - j)) C j ≤ 1000 ∨ l = 0) ∧ Below w.heap.size w wr ∧ Ints wr a5 LA ∧ m = 0) (fun _ i _ => l - (intOf i).toNat)
        case atStart => exact ⟨0, 0, Nat.zero_le _, rfl, rfl, .inl (by show 0 ≤ 1000; decide), HBW.out, I5.out, rfl⟩
        case round =>
          obtain ⟨j, m0, hj, rfl, rfl, hs1000, hB, hI, _⟩ := hrel
          have HB := Lib.hid hB
          have HI := Lib.hid hI
          clear hB hI
          by_cases hlt : j < l
          · obtain ⟨b1, o1, rfl, g1⟩ := HI.out j (by rw [HLAL.out]; exact hlt)
            rw [HIA.out j (by rw [HL.out]; exact hlt)] at g1
            obtain ⟨q1, q2⟩ := HAT.out j (by rw [HL.out]; exact hlt)
            obtain ⟨x, hx⟩ : ∃ x, C.getD j 0 = x := ⟨_, rfl⟩
            have HX := Lib.hid hx
            rw [hx] at g1 q1 q2
            have hKj : (K : Int) - (j : Int) = ((K - j : Nat) : Int) := by omega
            have hxk : decide (x < K - j) = false := by simp; omega
            have hxk2 : decide ((x : Int) < (K : Int) - (j : Int)) = false := by simp; omega
            have hnx : sumT (fun j x => ch x (K - j)) C (j + 1) = sumT (fun j x => ch x (K - j)) C j + ch x (K - j) := by rw [sumT, hx]
            have hle : sumT (fun j x => ch x (K - j)) C (j + 1) ≤ 1000 := by
              have hmono : ∀ d, j + 1 + d ≤ l → sumT (fun j x => ch x (K - j)) C (j + 1) ≤ sumT (fun j x => ch x (K - j)) C (j + 1 + d) := fun d => by
                induction d with
                | zero => intro _; exact Nat.le_refl _
                | succ d ih => intro h; exact Nat.le_trans (ih (by omega)) (Nat.le_add_right _ _)
              have h1 := hmono (l - (j + 1)) (by omega)
              rw [show j + 1 + (l - (j + 1)) = l by omega] at h1
              have h2 := HSM.out
              rw [HL.out] at h2
              omega
            obtain ⟨y, hy⟩ : ∃ y, ch x (K - j) = y := ⟨_, rfl⟩
            obtain ⟨S0, hS0⟩ : ∃ S0, sumT (fun j x => ch x (K - j)) C j = S0 := ⟨_, rfl⟩
            obtain ⟨S1, hS1⟩ : ∃ S1, sumT (fun j x => ch x (K - j)) C (j + 1) = S1 := ⟨_, rfl⟩
            rw [hS0, hS1, hy] at hnx
            rw [hS1] at hle
            rw [hS0]
            have HS0 := Lib.hid hS0
            have HS1 := Lib.hid hS1
            have HY := Lib.hid hy
            have HNX := Lib.hid hnx
            have hbs : S0 + y ≤ 1000 := by omega
            clear hx hy hS0 hS1 hnx hs1000
            by_cases hj0 : j = 0
            · subst hj0
              rw [Nat.add_zero] at g1
              have HS1 : Hid (sumT (fun j x => ch x (K - j)) C 1 = S1) := HS1
              go_wp2_with fail
              go_quiet (fail)
              have HBq := Lib.hid (bdrew HB.out nq)
              have HIq : Hid (Ints (wr.drewN nq) (some ⟨b1, o1, none⟩) LA) := HI
              have g1 : (wr.drewN nq).cell? ⟨b1, o1, none⟩ = some (.int .i64 (x : Int)) := g1
              generalize wr.drewN nq = w5 at *
              by_cases hx60 : x ≤ 60
              · have hd60 : decide (x ≤ 60) = true := by simpa using hx60
                have HCH : Hid (∀ W, Calls Try.prog 27 #[.int .i64 (x : Int), .int .i64 ((K : Int))] W fun e w' => e = .returned (.int .i64 (y : Int)) ∧ W = w') := by
                  have : ∀ W, Calls Try.prog 27 #[.int .i64 (x : Int), .int .i64 ((K : Int))] W fun e w' => e = .returned (.int .i64 (y : Int)) ∧ W = w' := fun W => specChoose_z x (K - 0) _ _ rfl (by omega) y HY.out hx60 (by omega) W
                  exact this
                go_wp2_with fail
                refine (HCH.out _).mono ?_
                rintro e w' ⟨rfl, rfl⟩
                go_wp2
                go_roundw
                case rel => exact ⟨1, 0, by omega, rfl, by rw [HS1.out, HNX.out]; simp, .inl (by rw [HS1.out]; exact hle), HBq.out, HIq.out, rfl⟩
                case measure => simp [intOf]; omega
              · have hd60 : decide (x ≤ 60) = false := by simpa using hx60
                have hK11 : K = 1 := by
                  rcases Nat.lt_or_ge K 2 with h | h
                  · omega
                  · exfalso
                    have := HSL.out h 0 (by rw [HL.out]; exact hlt)
                    rw [HX.out] at this
                    omega
                have hKe : ((K : Int) == 1) = true := by rw [hK11]; rfl
                clear hK11
                go_wp2
                go_ret
                exact ⟨rfl, HBq.out⟩
            · obtain ⟨b2, o2, e2, g2⟩ := HI.out (j - 1) (by rw [HLAL.out]; omega)
              injection e2 with e2
              injection e2 with e2 e3
              subst e2 e3
              rw [HIA.out (j - 1) (by rw [HL.out]; omega)] at g2
              have q3 := q2 (by omega)
              obtain ⟨x2, hx2⟩ : ∃ x2, C.getD (j - 1) 0 = x2 := ⟨_, rfl⟩
              rw [hx2] at g2 q3
              obtain ⟨jj, hjj⟩ : ∃ jj, j - 1 = jj := ⟨_, rfl⟩
              rw [hjj] at g2
              have hjz : (j : Int) - 1 = (jj : Int) := by omega
              have hjl : jj < l := by omega
              have hdj : decide (0 < j) = true := by simp; omega
              have hge : decide (x2 ≤ x) = false := by simp; omega
              clear hx2 hjj q2
              go_wp2_with fail
              go_quiet (fail)
              have HBq := Lib.hid (bdrew HB.out nq)
              have HIq : Hid (Ints (wr.drewN nq) (some ⟨b1, o1, none⟩) LA) := HI
              have g1 : (wr.drewN nq).cell? ⟨b1, o1 + j, none⟩ = some (.int .i64 (x : Int)) := g1
              generalize wr.drewN nq = w5 at *
              by_cases hx60 : x ≤ 60
              · have hd60 : decide (x ≤ 60) = true := by simpa using hx60
                have HCH : Hid (∀ W, Calls Try.prog 27 #[.int .i64 (x : Int), .int .i64 (((K - j : Nat) : Int))] W fun e w' => e = .returned (.int .i64 (y : Int)) ∧ W = w') := by
                  have : ∀ W, Calls Try.prog 27 #[.int .i64 (x : Int), .int .i64 (((K - j : Nat) : Int))] W fun e w' => e = .returned (.int .i64 (y : Int)) ∧ W = w' := fun W => specChoose_z x (K - j) _ _ rfl (by omega) y HY.out hx60 (by omega) W
                  exact this
                go_wp2_with fail
                refine (HCH.out _).mono ?_
                rintro e w' ⟨rfl, rfl⟩
                go_wp2
                go_roundw
                case rel => exact ⟨j + 1, 0, by omega, by go_num, by rw [HS1.out, HNX.out]; simp, .inl (by rw [HS1.out]; exact hle), HBq.out, HIq.out, rfl⟩
                case measure => simp [intOf]; omega
              · have hd60 : decide (x ≤ 60) = false := by simpa using hx60
                have hK11 : K = 1 := by
                  rcases Nat.lt_or_ge K 2 with h | h
                  · omega
                  · exfalso
                    have := HSL.out h j (by rw [HL.out]; exact hlt)
                    rw [HX.out] at this
                    omega
                have hKe : ((K : Int) == 1) = true := by rw [hK11]; rfl
                clear hK11
                go_wp2
                go_ret
                exact ⟨rfl, HBq.out⟩
          · have E := Lib.hid (show j = l by omega)
            have hS : sumT (fun j x => ch x (K - j)) C j = M := by rw [E.out, ← HL.out]; exact HSM.out
            rw [hS]
            have hMM : ((M : Int) == (M : Int)) = true := by simp
            clear hS
            by_cases hl0 : l = 0
            · have hlz : ((l : Int) == 0) = true := by rw [hl0]; rfl
              clear hl0
              go_wp2
              go_ret
              exact ⟨rfl, HB.out⟩
            · have hlz : ((l : Int) == 0) = false := by rw [beq_eq_false_iff_ne]; omega
              clear hl0
              go_wp2
              go_ret
              exact ⟨rfl, HB.out⟩
    | true =>
      have hcc := HCO.out rfl
      have HCC := Lib.hid hcc
      clear hcc
      obtain ⟨t0, t1, t2, t3, t4⟩ := BX7.out.1
      go_wp2_with fail
      refine (kkCounts NO _ _ LO x6 HCC.out hlO _ BX7.out.2).mono ?_
      rintro e wF ⟨v, rfl, hO, hb⟩
      obtain ⟨aF, cF, gF, rfl, _, _, hrF, _⟩ := OwnInts.ata hO hb.size
      have IF := Lib.hid hrF.ints
      replace I5 := Lib.hid (I5.out.keeps hb)
      replace I6 := Lib.hid (I6.out.keeps hb)
      replace HBW := Lib.hid (HBW.out.trans (hb.mono HBW.out.size))
      clear hO hb hrF t0 t1 t2 t3 t4
      go_wp2_with fail
      refine (sameInt_any _ _ _ _ x6 (by omega) _ IF.out I6.out).mono ?_
      rintro e wG ⟨rfl, hb⟩
      replace I5 := Lib.hid (I5.out.keeps hb)
      replace HBW := Lib.hid (HBW.out.trans (hb.mono HBW.out.size))
      clear hb IF
      cases hF : fineB z3 z4 with
      | false =>
        have hla0 : LA = [] := by rw [← HLA.out]; unfold cascZ; rw [if_neg (by rw [hF]; simp)]
        subst hla0
        simp only [List.length_nil]
        clear hF hla
        go_wp2
        go_loopw [14, 15] (fun s i wr => s = .int .i64 0 ∧ i = .int .i64 0 ∧ Below w.heap.size w wr) (fun _ _ _ => 0)
        case atStart => exact ⟨rfl, rfl, HBW.out⟩
        case round =>
          obtain ⟨rfl, rfl, hB⟩ := hrel
          have HB := Lib.hid hB
          clear hB
          go_wp2
          go_ret
          exact ⟨rfl, HB.out⟩
      | true =>
        obtain ⟨f0, f1, f2, f3⟩ := (fineB_iff z3 z4).1 hF
        obtain ⟨M, hM⟩ : ∃ M : Nat, z3 = (M : Int) := ⟨z3.toNat, by omega⟩
        obtain ⟨K, hK⟩ : ∃ K : Nat, z4 = (K : Int) := ⟨z4.toNat, by omega⟩
        subst hM
        subst hK
        have hK1 : 1 ≤ K := by omega
        have hK6 : K ≤ 6 := by omega
        have hM1 : M ≤ 1000 := by omega
        have hLC : LA = ofN (casc K M) := by rw [← HLA.out]; unfold cascZ; rw [if_pos hF]; rfl
        have hat := fun j hj => casc_at K M j hM1 hj
        have hsm := casc_sum K M hK1 hM1
        have hsl := fun h2 j hj => casc_small K M j h2 hK6 hM1 hj
        have hcl := casc_le K M
        obtain ⟨C, hC⟩ : ∃ C, casc K M = C := ⟨_, rfl⟩
        rw [hC] at hLC hat hsm hsl hcl
        have hil := ofN_length C
        have hia := ofN_at C
        rw [← hLC] at hil hia
        have HAT := Lib.hid hat
        have HSM := Lib.hid hsm
        have HSL := Lib.hid hsl
        have HIA := Lib.hid hia
        have HIL := Lib.hid hil
        obtain ⟨l, hl⟩ : ∃ l, C.length = l := ⟨_, rfl⟩
        have HL := Lib.hid hl
        have hLAl : LA.length = l := by rw [hil, hl]
        have HLAL := Lib.hid hLAl
        rw [hl] at hcl
        rw [hLAl]
        clear hF f0 f1 f2 f3 hLC hat hsm hsl hC hil hia hl hLAl hla
        go_wp2
        go_loopw [14, 15] (fun s i wr => ∃ j m : Nat, j ≤ l ∧ i = .int .i64 (j : Int) ∧ s = .int .i64 ((sumT (fun j x => ch x (K - j)) C j : Nat) : Int) ∧ (sumT (fun j x => ch x (K - j)) C j ≤ 1000 ∨ l = 0) ∧ Below w.heap.size w wr ∧ Ints wr a5 LA ∧ m = 0) (fun _ i _ => l - (intOf i).toNat)
        case atStart => exact ⟨0, 0, Nat.zero_le _, rfl, rfl, .inl (by show 0 ≤ 1000; decide), HBW.out, I5.out, rfl⟩
        case round =>
          obtain ⟨j, m0, hj, rfl, rfl, hs1000, hB, hI, _⟩ := hrel
          have HB := Lib.hid hB
          have HI := Lib.hid hI
          clear hB hI
          by_cases hlt : j < l
          · obtain ⟨b1, o1, rfl, g1⟩ := HI.out j (by rw [HLAL.out]; exact hlt)
            rw [HIA.out j (by rw [HL.out]; exact hlt)] at g1
            obtain ⟨q1, q2⟩ := HAT.out j (by rw [HL.out]; exact hlt)
            obtain ⟨x, hx⟩ : ∃ x, C.getD j 0 = x := ⟨_, rfl⟩
            have HX := Lib.hid hx
            rw [hx] at g1 q1 q2
            have hKj : (K : Int) - (j : Int) = ((K - j : Nat) : Int) := by omega
            have hxk : decide (x < K - j) = false := by simp; omega
            have hxk2 : decide ((x : Int) < (K : Int) - (j : Int)) = false := by simp; omega
            have hnx : sumT (fun j x => ch x (K - j)) C (j + 1) = sumT (fun j x => ch x (K - j)) C j + ch x (K - j) := by rw [sumT, hx]
            have hle : sumT (fun j x => ch x (K - j)) C (j + 1) ≤ 1000 := by
              have hmono : ∀ d, j + 1 + d ≤ l → sumT (fun j x => ch x (K - j)) C (j + 1) ≤ sumT (fun j x => ch x (K - j)) C (j + 1 + d) := fun d => by
                induction d with
                | zero => intro _; exact Nat.le_refl _
                | succ d ih => intro h; exact Nat.le_trans (ih (by omega)) (Nat.le_add_right _ _)
              have h1 := hmono (l - (j + 1)) (by omega)
              rw [show j + 1 + (l - (j + 1)) = l by omega] at h1
              have h2 := HSM.out
              rw [HL.out] at h2
              omega
            obtain ⟨y, hy⟩ : ∃ y, ch x (K - j) = y := ⟨_, rfl⟩
            obtain ⟨S0, hS0⟩ : ∃ S0, sumT (fun j x => ch x (K - j)) C j = S0 := ⟨_, rfl⟩
            obtain ⟨S1, hS1⟩ : ∃ S1, sumT (fun j x => ch x (K - j)) C (j + 1) = S1 := ⟨_, rfl⟩
            rw [hS0, hS1, hy] at hnx
            rw [hS1] at hle
            rw [hS0]
            have HS0 := Lib.hid hS0
            have HS1 := Lib.hid hS1
            have HY := Lib.hid hy
            have HNX := Lib.hid hnx
            have hbs : S0 + y ≤ 1000 := by omega
            clear hx hy hS0 hS1 hnx hs1000
            by_cases hj0 : j = 0
            · subst hj0
              rw [Nat.add_zero] at g1
              have HS1 : Hid (sumT (fun j x => ch x (K - j)) C 1 = S1) := HS1
              go_wp2_with fail
              go_quiet (fail)
              have HBq := Lib.hid (bdrew HB.out nq)
              have HIq : Hid (Ints (wr.drewN nq) (some ⟨b1, o1, none⟩) LA) := HI
              have g1 : (wr.drewN nq).cell? ⟨b1, o1, none⟩ = some (.int .i64 (x : Int)) := g1
              generalize wr.drewN nq = w5 at *
              by_cases hx60 : x ≤ 60
              · have hd60 : decide (x ≤ 60) = true := by simpa using hx60
                have HCH : Hid (∀ W, Calls Try.prog 27 #[.int .i64 (x : Int), .int .i64 ((K : Int))] W fun e w' => e = .returned (.int .i64 (y : Int)) ∧ W = w') := by
                  have : ∀ W, Calls Try.prog 27 #[.int .i64 (x : Int), .int .i64 ((K : Int))] W fun e w' => e = .returned (.int .i64 (y : Int)) ∧ W = w' := fun W => specChoose_z x (K - 0) _ _ rfl (by omega) y HY.out hx60 (by omega) W
                  exact this
                go_wp2_with fail
                refine (HCH.out _).mono ?_
                rintro e w' ⟨rfl, rfl⟩
                go_wp2
                go_roundw
                case rel => exact ⟨1, 0, by omega, rfl, by rw [HS1.out, HNX.out]; simp, .inl (by rw [HS1.out]; exact hle), HBq.out, HIq.out, rfl⟩
                case measure => simp [intOf]; omega
              · have hd60 : decide (x ≤ 60) = false := by simpa using hx60
                have hK11 : K = 1 := by
                  rcases Nat.lt_or_ge K 2 with h | h
                  · omega
                  · exfalso
                    have := HSL.out h 0 (by rw [HL.out]; exact hlt)
                    rw [HX.out] at this
                    omega
                have hKe : ((K : Int) == 1) = true := by rw [hK11]; rfl
                clear hK11
                go_wp2
                go_ret
                exact ⟨rfl, HBq.out⟩
            · obtain ⟨b2, o2, e2, g2⟩ := HI.out (j - 1) (by rw [HLAL.out]; omega)
              injection e2 with e2
              injection e2 with e2 e3
              subst e2 e3
              rw [HIA.out (j - 1) (by rw [HL.out]; omega)] at g2
              have q3 := q2 (by omega)
              obtain ⟨x2, hx2⟩ : ∃ x2, C.getD (j - 1) 0 = x2 := ⟨_, rfl⟩
              rw [hx2] at g2 q3
              obtain ⟨jj, hjj⟩ : ∃ jj, j - 1 = jj := ⟨_, rfl⟩
              rw [hjj] at g2
              have hjz : (j : Int) - 1 = (jj : Int) := by omega
              have hjl : jj < l := by omega
              have hdj : decide (0 < j) = true := by simp; omega
              have hge : decide (x2 ≤ x) = false := by simp; omega
              clear hx2 hjj q2
              go_wp2_with fail
              go_quiet (fail)
              have HBq := Lib.hid (bdrew HB.out nq)
              have HIq : Hid (Ints (wr.drewN nq) (some ⟨b1, o1, none⟩) LA) := HI
              have g1 : (wr.drewN nq).cell? ⟨b1, o1 + j, none⟩ = some (.int .i64 (x : Int)) := g1
              generalize wr.drewN nq = w5 at *
              by_cases hx60 : x ≤ 60
              · have hd60 : decide (x ≤ 60) = true := by simpa using hx60
                have HCH : Hid (∀ W, Calls Try.prog 27 #[.int .i64 (x : Int), .int .i64 (((K - j : Nat) : Int))] W fun e w' => e = .returned (.int .i64 (y : Int)) ∧ W = w') := by
                  have : ∀ W, Calls Try.prog 27 #[.int .i64 (x : Int), .int .i64 (((K - j : Nat) : Int))] W fun e w' => e = .returned (.int .i64 (y : Int)) ∧ W = w' := fun W => specChoose_z x (K - j) _ _ rfl (by omega) y HY.out hx60 (by omega) W
                  exact this
                go_wp2_with fail
                refine (HCH.out _).mono ?_
                rintro e w' ⟨rfl, rfl⟩
                go_wp2
                go_roundw
                case rel => exact ⟨j + 1, 0, by omega, by go_num, by rw [HS1.out, HNX.out]; simp, .inl (by rw [HS1.out]; exact hle), HBq.out, HIq.out, rfl⟩
                case measure => simp [intOf]; omega
              · have hd60 : decide (x ≤ 60) = false := by simpa using hx60
                have hK11 : K = 1 := by
                  rcases Nat.lt_or_ge K 2 with h | h
                  · omega
                  · exfalso
                    have := HSL.out h j (by rw [HL.out]; exact hlt)
                    rw [HX.out] at this
                    omega
                have hKe : ((K : Int) == 1) = true := by rw [hK11]; rfl
                clear hK11
                go_wp2
                go_ret
                exact ⟨rfl, HBq.out⟩
          · have E := Lib.hid (show j = l by omega)
            have hS : sumT (fun j x => ch x (K - j)) C j = M := by rw [E.out, ← HL.out]; exact HSM.out
            rw [hS]
            have hMM : ((M : Int) == (M : Int)) = true := by simp
            clear hS
            by_cases hl0 : l = 0
            · have hlz : ((l : Int) == 0) = true := by rw [hl0]; rfl
              clear hl0
              go_wp2
              go_ret
              exact ⟨rfl, HB.out⟩
            · have hlz : ((l : Int) == 0) = false := by rw [beq_eq_false_iff_ne]; omega
              clear hl0
              go_wp2
              go_ret
              exact ⟨rfl, HB.out⟩

end Go.Proofs.Ytamoejjkaebhkaa
