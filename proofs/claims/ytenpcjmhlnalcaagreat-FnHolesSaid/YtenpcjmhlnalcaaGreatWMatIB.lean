/-
  WALKS of chapter 13 (impl): BorderMatrix.
-/
import Derived.Test.YtenpcjmhlnalcaaGreatJg12
import Derived.Test.YtenpcjmhlnalcaaGreatJg22
import Derived.Test.YtenpcjmhlnalcaaGreatWBor
import Derived.Test.YtenpcjmhlnalcaaGreatWDel
import Derived.StillTailTactics
import Derived.Deep.RegionLaw
namespace Go.Proofs.YtenpcjmhlnalcaaGreat
open Go.RowKit
open Sets

theorem andNot_sub : ∀ a b : Nat, a < 64 → b < 64 → sub b a = true → bits BinOp.andNot IntKind.i64 (a : Int) (b : Int) = ((a - b : Nat) : Int) := by
  refine fin64b ?_
  decide +kernel

set_option maxRecDepth 100000 in
set_option maxHeartbeats 2000000 in
theorem borderSign_any (t s : Nat) (ht : t < 64) (hs : s < 64) (hk : pc s = pc t + 1) (w : World) : Calls Tryz.prog 65 #[.int .i64 (t : Int), .int .i64 (s : Int)] w fun e w' => e = .returned (.int .i64 (Hom.sgn t s)) ∧ w = w' := by
  cases h : sub t s with
  | false =>
    have E := Lib.hid (Hom.sgn_zero (t := t) (s := s) (by rw [h]; simp))
    have HSB := Lib.hid (isSubset_any t s ht hs w)
    rw [h] at HSB
    clear h
    go_enter Tryz.func65, Tryz.ntmps65
    go_wp2_with fail
    refine HSB.out.mono ?_
    rintro e w' ⟨rfl, rfl⟩
    go_wp2
    go_ret
    exact ⟨ret_int E.out.symm, rfl⟩
  | true =>
    have HSB := Lib.hid (isSubset_any t s ht hs w)
    rw [h] at HSB
    have hlt : t < s := by
      have h1 := sub_le h
      have : t ≠ s := fun e => by rw [e] at hk; omega
      omega
    have han := andNot_sub s t hs ht h
    have hpm := and_natM s (s - t - 1) hs (by omega)
    rw [show (((s - t - 1 : Nat)) : Int) = ((s - t : Nat) : Int) - 1 by omega] at hpm
    have hm : s &&& (s - t - 1) < 64 := Nat.lt_of_le_of_lt Nat.and_le_left hs
    have HM := Lib.hid (fun W => implSizeOf_nat (s &&& (s - t - 1)) hm W)
    have E := Lib.hid (sgn_yes h hk)
    have hpp := pc_le (s &&& (s - t - 1))
    generalize (s &&& (s - t - 1)) = m at *
    have hd1 : 1 ≤ s - t := by omega
    have hd2 : s - t ≤ 64 := by omega
    generalize s - t = d at *
    obtain ⟨z, hz⟩ : ∃ z, Hom.sgn t s = z := ⟨_, rfl⟩
    rw [hz] at E ⊢
    clear hm h hlt hk hz
    go_enter Tryz.func65, Tryz.ntmps65
    go_wp2_with fail
    refine HSB.out.mono ?_
    rintro e w' ⟨rfl, rfl⟩
    obtain ⟨q, hq⟩ : ∃ q, pc m = q := ⟨_, rfl⟩
    rw [hq] at HM hpp E
    clear hq
    go_wp2_with fail
    refine (HM.out _).mono ?_
    rintro e w' ⟨rfl, rfl⟩
    have htm : ((q : Int)).tmod 2 = ((q % 2 : Nat) : Int) := by rw [Int.tmod_eq_emod_of_nonneg (by omega)]; omega
    by_cases h2 : q % 2 = 1
    · rw [h2] at E
      rw [h2] at htm
      have HE : Hid (z = -1) := by
        have : z = -1 := by rw [E.out]; rfl
        exact this
      clear E h2
      go_wp2
      go_ret
      exact ⟨ret_int HE.out.symm, rfl⟩
    · have h3 : q % 2 = 0 := by omega
      rw [h3] at E
      rw [h3] at htm
      have HE : Hid (z = 1) := by
        have : z = 1 := by rw [E.out]; rfl
        exact this
      clear E h2 h3
      go_wp2
      go_ret
      exact ⟨ret_int HE.out.symm, rfl⟩

theorem sized_pc (n : Int) (xs : List Int) (q : Int) (j : Nat) (h : j < (sized q (faces n xs)).length) : ∃ s : Nat, (sized q (faces n xs)).getD j 0 = (s : Int) ∧ s < 64 ∧ (pc s : Int) = q := by
  obtain ⟨s, h1, h2⟩ := sized_at n xs q j h
  refine ⟨s, h1, h2, ?_⟩
  have hm : (sized q (faces n xs)).getD j 0 ∈ sized q (faces n xs) := by
    rw [List.getD, List.getElem?_eq_getElem h]; exact List.getElem_mem h
  rw [h1] at hm
  have := (List.mem_filter.1 hm).2
  simpa using this

theorem MP.drew {w : World} {base P : Nat} {v : Value} {R : List (Nat × Nat)} {M : Lin.Mat} (h : MP w base P v R M) : MP w.drew base P v R M :=
  ⟨h.cell, h.soft, h.low, h.lt, ⟨h.own.own, h.own.len, h.own.nodup, h.own.rows, h.own.apart⟩, h.off, h.offR⟩

/-- The border's matrix while it is written. -/
def borTo (L H : List Int) (i j i' j' : Nat) : Int := if i' < i ∨ (i' = i ∧ j' < j) then Hom.sgn (L.getD i' 0).toNat (H.getD j' 0).toNat else 0
theorem borTo_start (L H : List Int) (i' j' : Nat) : (0 : Int) = borTo L H 0 0 i' j' := (if_neg (by omega)).symm
theorem borTo_row (L H : List Int) (i n i' j' : Nat) (h : j' < n) : borTo L H i n i' j' = borTo L H (i + 1) 0 i' j' := by
  unfold borTo
  by_cases h2 : i' < i + 1
  · rw [if_pos (by omega), if_pos (.inl h2)]
  · rw [if_neg (by omega), if_neg (by omega)]
theorem borTo_same (L H : List Int) (i j i' j' : Nat) (h : ¬(i' = i ∧ j' = j)) : borTo L H i (j + 1) i' j' = borTo L H i j i' j' := by
  unfold borTo
  by_cases h2 : i' < i ∨ (i' = i ∧ j' < j)
  · rw [if_pos h2, if_pos (by omega)]
  · rw [if_neg h2, if_neg (by omega)]
theorem borTo_end (L H : List Int) (i i' j' : Nat) (h : i' < i) : borTo L H i 0 i' j' = Hom.sgn (L.getD i' 0).toNat (H.getD j' 0).toNat := if_pos (.inl h)
theorem borM_F (L H : List Int) : borM L H = matF L.length H.length fun i j => Hom.sgn (L.getD i 0).toNat (H.getD j 0).toNat := by
  have hl := borM_length L H
  have hrow : ∀ i, i < L.length → Lin.row (borM L H) i = borR (L.getD i 0) H := fun i hi => by
    unfold borM Lin.row
    simp [List.getD, List.getElem?_eq_getElem hi]
  refine mat_eq hl (matF_length _ _ _) (fun i hi => by rw [hrow i hi, borR_length]) (matF_wide _ _ _) fun i j hi hj => ?_
  rw [matF_ent _ _ _ i j hi hj]
  unfold Lin.ent
  rw [hrow i hi]
  unfold borR
  simp [List.getD, List.getElem?_eq_getElem hj]

/-- The border's matrix; none where it isn't asked for. -/
def bordZ (n : Int) (xs : List Int) (k : Int) : Lin.Mat := if isC n xs = true ∧ 1 ≤ k ∧ k ≤ 6 then borM (sized (k - 1) (faces n xs)) (sized k (faces n xs)) else []

set_option maxRecDepth 100000 in
set_option maxHeartbeats 8000000 in
theorem implBordMx_any (n : Int) (a : Option Addr) (c : Nat) (xs : List Int) (hcap : xs.length ≤ c) (hlen : xs.length ≤ 1099511627776) (k : Int) (w : World) (h : Ints w a xs) :
    Calls Tryz.prog 44 #[cx n (.slice a xs.length c), .int .i64 k] w fun e w' => ∃ v, e = .returned v ∧ HasMx w' w.heap.size v (bordZ n xs k) ∧ Below w.heap.size w w' := by
  have hb0 : Below w.heap.size w (w.alloc (Obj.cells #[Value.int IntKind.i64 n, Value.slice a xs.length c] 26)) := (Below.refl _ _).alloc (Nat.le_refl _) _
  have htwo := Two.new w (.int .i64 n) (.slice a xs.length c) 26
  have H := Lib.hid (h.keeps hb0)
  have HB0 := Lib.hid hb0
  have HT := Lib.hid htwo
  have HNO : Hid (¬(isC n xs = true ∧ 1 ≤ k ∧ k ≤ 6) → bordZ n xs k = []) := by
    have : ¬(isC n xs = true ∧ 1 ≤ k ∧ k ≤ 6) → bordZ n xs k = [] := fun h => if_neg h
    exact this
  have HYES : Hid (isC n xs = true ∧ 1 ≤ k ∧ k ≤ 6 → bordZ n xs k = borM (sized (k - 1) (faces n xs)) (sized k (faces n xs))) := by
    have : isC n xs = true ∧ 1 ≤ k ∧ k ≤ 6 → bordZ n xs k = borM (sized (k - 1) (faces n xs)) (sized k (faces n xs)) := fun h => if_pos h
    exact this
  obtain ⟨Z, hZ⟩ : ∃ Z, bordZ n xs k = Z := ⟨_, rfl⟩
  rw [hZ] at HNO HYES ⊢
  clear h hb0 htwo hZ
  go_enter Tryz.func44, Tryz.ntmps44
  obtain ⟨t0, t1, t2, t3, t4⟩ := HT.out
  go_wp2_with fail
  refine (implIsC_any n _ _ xs hcap hlen _ H.out).mono ?_
  rintro e w1 ⟨rfl, hb1⟩
  have HB1 : Hid (Below w.heap.size w w1) := HB0.out.trans (hb1.mono HB0.out.size)
  have HT1 := Lib.hid (HT.out.keeps hb1)
  have H1 := Lib.hid (H.out.keeps hb1)
  clear hb1 t0 t1 t2 t3 t4
  cases hc : isC n xs with
  | false =>
    have E := Lib.hid (HNO.out (by rw [hc]; simp))
    clear hc
    go_wp2
    go_ret
    exact ⟨_, rfl, by rw [E.out]; exact HasMx.empty _ _, HB1.out⟩
  | true =>
    have HC := Lib.hid hc
    clear hc
    by_cases hk1 : k < 1
    · have hd : decide (k < 1) = true := decide_eq_true hk1
      have E := Lib.hid (HNO.out (by rintro ⟨_, h, _⟩; omega))
      go_wp2
      go_ret
      exact ⟨_, rfl, by rw [E.out]; exact HasMx.empty _ _, HB1.out⟩
    · have hd : decide (k < 1) = false := decide_eq_false hk1
      by_cases hk6 : 6 < k
      · have hd2 : decide (6 < k) = true := decide_eq_true hk6
        have E := Lib.hid (HNO.out (by rintro ⟨_, _, h⟩; omega))
        go_wp2
        go_ret
        exact ⟨_, rfl, by rw [E.out]; exact HasMx.empty _ _, HB1.out⟩
      · have hd2 : decide (6 < k) = false := decide_eq_false hk6
        have E := Lib.hid (HYES.out ⟨HC.out, by omega, by omega⟩)
        have hkw : IntKind.i64.wrap (k - 1) = k - 1 := IntWalk.i64_in _ (by omega)
        have hzA : w.heap.size ≤ w1.heap.size := HB1.out.size
        have HFL := Lib.hid (sized_pc n xs (k - 1))
        have HFH := Lib.hid (sized_pc n xs k)
        have hleL := sized_le n xs (k - 1)
        have hleH := sized_le n xs k
        have HCA0 := implSized_any n a c xs hcap hlen (k - 1) w1.drew H1.out
        have HCB0 := fun W (hW : Ints W a xs) => implSized_any n a c xs hcap hlen k W hW
        obtain ⟨L, hL⟩ : ∃ L, sized (k - 1) (faces n xs) = L := ⟨_, rfl⟩
        obtain ⟨G, hG⟩ : ∃ L, sized k (faces n xs) = L := ⟨_, rfl⟩
        rw [hL] at HCA0 HFL hleL E
        rw [hG] at HFH hleH E
        simp only [hG] at HCB0
        have HCA := Lib.hid HCA0
        have HCA2 : Hid (Calls Tryz.prog 63 #[cx n (.slice a xs.length c), .int .i64 (IntKind.i64.wrap (k - 1))] w1.drew fun e w' => ∃ v, e = .returned v ∧ HasInts w' w1.heap.size v L ∧ Below w1.heap.size w1.drew w') := by
          show Calls _ _ _ _ _
          rw [hkw]; exact HCA0
        have HCB := Lib.hid HCB0
        rw [borM_F] at E
        clear hL hG HCA0 HCB0 hkw HNO HYES HC
        obtain ⟨t0, t1, t2, t3, t4⟩ := HT1.out
        go_wp2_with fail
        go_region_law (first
          | (go_simp; go_at_call 63; with_reducible first | refine HCA.out.mono ?_ | refine HCA2.out.mono ?_
             rintro e w2 ⟨v2, rfl, hO2, hb2⟩; obtain ⟨aL, cL, gL, rfl, _, hgL, hiL, _⟩ := HasInts.ata hO2 hb2.size; have HB2 : Hid (Below w.heap.size w w2) := HB1.out.trans ((below_undrew hb2).mono hzA); have HIL := Lib.hid hiL; have H2 := Lib.hid (H1.out.keeps (below_undrew hb2)); have HT2 := Lib.hid (HT1.out.keeps (below_undrew hb2)); obtain ⟨s0, s1, s2, s3, s4⟩ := HT2.out; have hz12 := HB2.out.size; clear hO2 hb2 hiL)
          | (go_simp; go_at_call 63; with_reducible refine (HCB.out w2 H2.out).mono ?_
             rintro e w3 ⟨v3, rfl, hO3, hb3⟩; obtain ⟨aH, cH, gH, rfl, _, hgH, hiH, _⟩ := HasInts.ata hO3 hb3.size; have HB3 : Hid (Below w.heap.size w w3) := HB2.out.trans (hb3.mono hz12); have HIL3 := Lib.hid (HIL.out.keeps hb3); have HIH := Lib.hid hiH; have HT3 := Lib.hid (HT2.out.keeps hb3); obtain ⟨r0, r1, r2, r3, r4⟩ := HT3.out; clear hO3 hb3 hiH)
          | fail "arm")
        all_goals
          have HZM := Lib.hid (fun W => zeroMatrix_any L.length G.length (L.length : Int) (G.length : Int) rfl rfl (by omega) (by omega) W)
          obtain ⟨l, hl⟩ : ∃ l, L.length = l := ⟨_, rfl⟩
          obtain ⟨g, hg⟩ : ∃ l, G.length = l := ⟨_, rfl⟩
          have HLL := Lib.hid hl
          have HGL := Lib.hid hg
          rw [hl] at HZM HFL hleL E
          rw [hg] at HZM HFH hleH E
          simp only [hl, hg]
          clear hl hg HCA HCA2 HCB s0 s1 s2 s3 s4 r0 r1 r2 r3 r4 t0 t1 t2 t3 t4 HIL H2 HT2 HB2 H1 HT1 HB1 hgL hgH HT3
          go_wp2_with fail
          refine (HZM.out w3).mono ?_
          rintro e w4 ⟨P, v, R, rfl, hM, hb4⟩
          rw [zeroM_F] at hM
          have HX0 : Hid (MP w4 w3.heap.size P v R (matF l g (borTo L G 0 0))) := by
            have : MP w4 w3.heap.size P v R (matF l g (borTo L G 0 0)) := by
              rw [← matF_congr (f := fun _ _ => 0) fun i j _ _ => borTo_start L G i j]; exact hM
            exact this
          have HB4 := Lib.hid hb4
          clear hM hb4 HZM
          go_wp2
          go_loopw [37] (fun z wr => ∃ i : Nat, i ≤ l ∧ z = .int .i64 (i : Int) ∧ MP wr w3.heap.size P v R (matF l g (borTo L G i 0)) ∧ Below w3.heap.size w3 wr) (fun z _ => l - (intOf z).toNat)
          case atStart => exact ⟨0, Nat.zero_le _, rfl, HX0.out, HB4.out⟩
          case round =>
            clear HX0 HB4
            obtain ⟨i, hi, rfl, hX, hB⟩ := hrel
            have HX := Lib.hid hX
            have HW := Lib.hid hB
            clear hX hB
            by_cases hil : i < l
            · have hdi : decide ((i : Int) < (l : Int)) = true := by simpa using hil
              obtain ⟨t, ht, ht64, htp⟩ := HFL.out i hil
              obtain ⟨rfl, -, hci, -⟩ := (HIL3.out.keeps HW.out) i (by rw [HLL.out]; exact hil)
              rw [ht] at hci
              have HTT := Lib.hid ht
              have HTP := Lib.hid htp
              clear ht htp
              go_wp2
              clear hci
              go_loopw [44] (fun z wr => ∃ j : Nat, j ≤ g ∧ z = .int .i64 (j : Int) ∧ MP wr w3.heap.size P v R (matF l g (borTo L G i j)) ∧ Below w3.heap.size w3 wr) (fun z _ => g - (intOf z).toNat)
              case atStart => exact ⟨0, Nat.zero_le _, rfl, HX.out, HW.out⟩
              case round =>
                clear HX HW
                obtain ⟨j, hj, rfl, hX, hB⟩ := hrel
                have HX := Lib.hid hX
                have HW := Lib.hid hB
                clear hX hB
                by_cases hjg : j < g
                · have hdj : decide ((j : Int) < (g : Int)) = true := by simpa using hjg
                  obtain ⟨s, hs, hs64, hsp⟩ := HFH.out j hjg
                  obtain ⟨rfl, -, hcj, -⟩ := (HIH.out.keeps HW.out) j (by rw [HGL.out]; exact hjg)
                  rw [hs] at hcj
                  have HSG := Lib.hid (fun W => borderSign_any t s ht64 hs64 (by have := HTP.out; omega) W)
                  obtain ⟨g3, c3, hv3, hcr, hbb, hcc⟩ := HX.out.readF hil
                  obtain ⟨hcn, hfn⟩ := hcc j hjg
                  have hcP := HX.out.cell
                  have hX2 := HX.out.setF hil hjg (Hom.sgn t s) (borTo L G i (j + 1)) (by unfold borTo; rw [if_pos (by omega), HTT.out, hs]; rfl) fun i' j' _ _ hne => borTo_same L G i j i' j' hne
                  have hB2 := HW.out.setCell (p := ⟨blk R i, j, none⟩) hbb (.int .i64 (Hom.sgn t s))
                  rw [hv3] at hcP
                  obtain ⟨y, hyy⟩ : ∃ x, borTo L G i j i j = x := ⟨_, rfl⟩
                  obtain ⟨z, hzz⟩ : ∃ x, Hom.sgn t s = x := ⟨_, rfl⟩
                  obtain ⟨B3, hB3⟩ : ∃ b, blk R i = b := ⟨_, rfl⟩
                  obtain ⟨C3, hC3⟩ : ∃ b, room R i = b := ⟨_, rfl⟩
                  rw [hyy] at hcn
                  rw [hzz] at hX2 hB2
                  simp only [hzz] at HSG
                  rw [hB3] at hcn hfn hX2 hB2
                  rw [hB3, hC3] at hcr
                  have HX2 := Lib.hid hX2
                  have HW2 := Lib.hid hB2
                  clear hX2 hB2 hcc hbb hyy hzz hB3 hC3 hv3 hs hsp
                  go_wp2_with fail
                  refine wp_region_tail 12 (by kernel_rfl) (by kernel_rfl) ?_
                  simp only [List.take_succ_cons, List.take_zero, List.drop_succ_cons, List.drop_zero]
                  repeat (first | still_step | still_call ((HSG.out _).mono fun _ _ ⟨he, hw⟩ => ⟨he, hw.symm⟩))
                  refine wpStill_nil ?_
                  go_wp2
                  go_roundw
                  case rel => exact ⟨j + 1, by omega, by go_num, HX2.out.drew, HW2.out.drew⟩
                  case measure => simp [intOf]; omega
                · have hdj : decide ((j : Int) < (g : Int)) = false := by simpa using hjg
                  have HX2 : Hid (MP wr w3.heap.size P v R (matF l g (borTo L G (i + 1) 0))) := by
                    have : MP wr w3.heap.size P v R (matF l g (borTo L G (i + 1) 0)) := by
                      have h := HX.out
                      rw [show j = g by omega, matF_congr (g := borTo L G (i + 1) 0) fun i' j' _ hj' => borTo_row L G i g i' j' hj'] at h
                      exact h
                    exact this
                  go_wp2
                  go_roundw
                  case rel => exact ⟨i + 1, by omega, by go_num, HX2.out, HW.out⟩
                  case measure => simp [intOf]; omega
            · have hdi : decide ((i : Int) < (l : Int)) = false := by simpa using hil
              have hzw : w.heap.size ≤ w3.heap.size := HB3.out.size
              have HH : Hid (HasMx wr w.heap.size v Z) := by
                have : HasMx wr w.heap.size v Z := by
                  have h := HX.out
                  rw [show i = l by omega, matF_congr (g := fun i j => Hom.sgn (L.getD i 0).toNat (G.getD j 0).toNat) fun i' j' hi' _ => borTo_end L G l i' j' hi', ← E.out] at h
                  exact h.own.has.lower hzw
                exact this
              have HBE : Hid (Below w.heap.size w wr) := HB3.out.trans (HW.out.mono hzw)
              have hcP := HX.out.cell
              go_wp2
              go_ret
              exact ⟨v, rfl, HH.out, HBE.out⟩

end Go.Proofs.YtenpcjmhlnalcaaGreat
