/-
  WALKS of chapter 14 (spec): the rank of a matrix, the list of holes.
-/
import Derived.Test.YtenpcjmhlnalcaaGreatJg22
import Derived.Test.YtenpcjmhlnalcaaGreatWBor
import Derived.Test.YtenpcjmhlnalcaaGreatJg11
namespace Go.Proofs.YtenpcjmhlnalcaaGreat
open Go.RowKit
open Sets Lin

theorem rank_le_cols {p : Nat} (hp : p = 2 ∨ p = 3 ∨ p = 5) {M : Mat} {n : Nat} (hw : ∀ r ∈ M, r.length = n) : rank p M n ≤ n := by
  have HP : IsP p := by
    rcases hp with rfl | rfl | rfl
    · exact isP2
    · exact isP3
    · exact isP5
  exact (rank_card HP hw).2

theorem Two.grow2 {w w' : World} {b : Nat} {row : Option Nat} {x y : Value} (h : Two w b x y) (hg : w.grownBy w' row) (hne : row ≠ some b) : Two w' b x y := by
  obtain ⟨h1, h2, h3, h4, h5⟩ := h
  have hb := hg.block b h1 (Ne.symm hne)
  have := hg.size
  exact ⟨by omega, by rw [World.cell?_of_block (w := w) (w' := w') (a := ⟨b, 0, none⟩) hb]; exact h2, by rw [World.cell?_of_block (w := w) (w' := w') (a := ⟨b, 1, none⟩) hb]; exact h3,
    by rw [World.frozen?_of_block (w := w) (w' := w') (a := ⟨b, 0, none⟩) hb]; exact h4, by rw [World.frozen?_of_block (w := w) (w' := w') (a := ⟨b, 1, none⟩) hb]; exact h5⟩

set_option maxRecDepth 100000 in
set_option maxHeartbeats 2000000 in
theorem l13Rank_any (p : Nat) (hp : p = 2 ∨ p = 3 ∨ p = 5) (M : Mat) (n : Nat) (hw : ∀ r ∈ M, r.length = n) (hm : M.length ≤ 1000) (hn : n ≤ 1000) (gm : Nat) (am : Option Addr) (cm : Nat) (Rm : List (Nat × Nat)) (w : World) (h : Mx w gm am Rm M) :
    Calls Tryz.prog 35 #[.slice am M.length cm, .int .i64 (p : Int)] w fun e w' => e = .returned (.int .i64 (rank p M n : Nat)) ∧ Below w.heap.size w w' := by
  have HC := Lib.hid (l13Reduce_any p hp M n hw hm hn gm am cm Rm w h)
  clear h hw hp
  go_enter Tryz.func35, Tryz.ntmps35
  go_wp2_with fail
  refine HC.out.mono ?_
  rintro e w1 ⟨ao, co, go, R, u, rfl, hX, hG, hP, hB⟩
  obtain ⟨au, cu, gu, rfl, -, -, -, -⟩ := OwnInts.ata hP hB.size
  have hil : (ints (reduce p M n).2).length = (reduce p M n).2.length := by simp [ints]
  rw [hil]
  have HB := Lib.hid hB
  clear hX hG hP hB hil
  go_wp2
  go_ret
  exact ⟨rfl, HB.out⟩

def rkF (p : Nat) (F : List Int) (k : Nat) : Nat := rank p (borM (sized ((k : Int) - 1) F) (sized (k : Int) F)) (sized (k : Int) F).length
def loR (p : Nat) (F : List Int) (k : Nat) : Nat := if k = 0 then 0 else rkF p F k
def hiR (p : Nat) (F : List Int) (k : Nat) : Nat := if k + 1 < top F then rkF p F (k + 1) else 0
def holF (p : Nat) (F : List Int) (m : Nat) : List Int := (List.range m).map fun k => (cnt k F : Int) - (loR p F k : Int) - (hiR p F k : Int)
theorem holF_length (p : Nat) (F : List Int) (m : Nat) : (holF p F m).length = m := by simp [holF]
theorem holF_next (p : Nat) (F : List Int) (m : Nat) : holF p F (m + 1) = holF p F m ++ [(cnt m F : Int) - (loR p F m : Int) - (hiR p F m : Int)] := by
  unfold holF; rw [List.range_succ, List.map_append]; rfl
theorem rkF_succ (p : Nat) (F : List Int) (k : Nat) : rkF p F (k + 1) = rank p (borM (sized ((k : Int) + 1 - 1) F) (sized ((k : Int) + 1) F)) (sized ((k : Int) + 1) F).length := rfl
theorem borM_wide (L H : List Int) : ∀ r ∈ borM L H, r.length = H.length := fun r hr => by
  obtain ⟨t, _, rfl⟩ := List.mem_map.1 hr; exact borR_length t H

set_option maxRecDepth 100000 in
set_option maxHeartbeats 4000000 in
theorem holesMod_any (p : Nat) (hp : p = 2 ∨ p = 3 ∨ p = 5) (n : Int) (a : Option Addr) (c : Nat) (xs : List Int) (hlen : xs.length ≤ 1099511627776) (w : World) (h : Ints w a xs) :
    Calls Tryz.prog 11 #[cx n (.slice a xs.length c), .int .i64 (p : Int)] w fun e w' => ∃ v, e = .returned v ∧ OwnInts w' w.heap.size v (holF p (faces n xs) (top (faces n xs))) ∧ Below w.heap.size w w' := by
  obtain ⟨i0, hi, hz0, hz1, hz2⟩ := info_parts info_int
  have hb0 : Below w.heap.size w ((w.alloc (Obj.cells #[Value.int IntKind.i64 n, Value.slice a xs.length c] 26)).alloc (.cells #[] 3)) := ((Below.refl _ _).alloc (Nat.le_refl _) _).alloc (by simp) _
  have hO0 := OwnInts.lit (w.alloc (Obj.cells #[Value.int IntKind.i64 n, Value.slice a xs.length c] 26)) w.heap.size [] (by simp) (by simp)
  have htwo := (Two.new w (.int .i64 n) (.slice a xs.length c) 26).alloc (.cells #[] 3)
  have H0 := Lib.hid h
  have H := Lib.hid (h.keeps hb0)
  have HB0 := Lib.hid hb0
  have HO0 := Lib.hid hO0
  have HT := Lib.hid htwo
  have HPR : Hid (primeB (p : Int) = true) := decide_eq_true (by omega)
  have HPP := Lib.hid hp
  clear h hb0 hO0 htwo hp
  have hle := faces_le n xs
  have hlL := fun q : Int => sized_le n xs q
  have HLL := Lib.hid hlL
  have HBOR := Lib.hid (fun (q : Int) (h1 : -1000 ≤ q) (h2 : q ≤ 1000) (W : World) (hh : Ints W a xs) => l13Border_any n a c xs hlen q h1 h2 W hh)
  have HCN := Lib.hid (fun (W : World) (hh : Ints W a xs) => specCounts_any n a c xs hlen W hh)
  obtain ⟨F, hF⟩ : ∃ F, faces n xs = F := ⟨_, rfl⟩
  rw [hF] at hle HLL HBOR HCN
  rw [hF]
  clear hF hlL
  have htop := top_le F
  go_enter Tryz.func11, Tryz.ntmps11
  obtain ⟨t0, t1, t2, _, _⟩ := HT.out
  go_wp2_with fail
  refine (HCN.out _ H.out).mono ?_
  rintro e w1 ⟨v1, rfl, hO1, hb1⟩
  have hcl := counts_length F
  obtain ⟨gf, af, df, rfl, hgf, hrf, hgf2⟩ : ∃ gf af df, v1 = .slice af (top F) df ∧ gf ≠ w.heap.size + 1 ∧ IntsAt w1 gf af (counts F) ∧ gf < w1.heap.size := by
    obtain ⟨af, df, gf, hv, hgf, hrf⟩ := hO1.at
    rw [hcl] at hv
    simp only [World.size_alloc] at hgf
    have hs := hb1.size
    simp only [World.size_alloc] at hs
    by_cases h0 : 0 < (counts F).length
    · exact ⟨gf, af, df, hv, by omega, hrf, (hrf 0 h0).2.1⟩
    · exact ⟨w.heap.size, af, df, hv, by omega, fun j hj => absurd hj (by omega), by omega⟩
  have HB1 : Hid (Below w.heap.size w w1) := HB0.out.trans (hb1.mono HB0.out.size)
  have HRF1 := Lib.hid hrf
  have HO1 := Lib.hid (OwnInts.keeps HO0.out hb1)
  have HT1 := Lib.hid (HT.out.keeps hb1)
  have hz1w := HB1.out.size
  rw [World.size_alloc] at HO1
  clear hO1 hrf hb1 t0 t1 t2
  go_wp2_with fail
  refine (isPrime_any _ _).mono ?_
  rw [HPR.out]
  rintro e w' ⟨rfl, rfl⟩
  have hne1 : (Value.slice (some ⟨w.heap.size + 1, 0, none⟩) 0 0).ownBlock ≠ some gf := by simp only [Value.ownBlock, ne_eq, Option.some.injEq]; omega
  have hne2 : (Value.slice (some ⟨w.heap.size + 1, 0, none⟩) 0 0).ownBlock ≠ some w.heap.size := by simp only [Value.ownBlock, ne_eq, Option.some.injEq]; omega
  go_wp2
  go_loopw [5, 7, 8] (fun v b i wr => ∃ k : Nat, k ≤ top F ∧ i = .int .i64 (k : Int) ∧ b = .int .i64 (loR p F k : Nat) ∧ loR p F k ≤ 64 ∧ OwnInts wr w.heap.size v (holF p F k) ∧ Below w.heap.size w wr ∧ IntsAt wr gf af (counts F) ∧ Two wr w.heap.size (.int .i64 n) (.slice a xs.length c) ∧ v.ownBlock ≠ some gf ∧ v.ownBlock ≠ some w.heap.size ∧ w1.heap.size ≤ wr.heap.size) (fun _ _ i _ => top F - (intOf i).toNat)
  case atStart => exact ⟨0, Nat.zero_le _, rfl, rfl, by unfold loR; simp, HO1.out, HB1.out, HRF1.out, HT1.out, hne1, hne2, Nat.le_refl _⟩
  case round =>
    clear hne1 hne2 HO1 HB1 HRF1 HT1
    obtain ⟨k, hk, rfl, rfl, hlo, hO, hB, hR, hT, hn1, hn2, hzw⟩ := hrel
    have HO := Lib.hid hO
    have HB := Lib.hid hB
    have HR := Lib.hid hR
    have HT := Lib.hid hT
    have hbl := hT.1
    have HN1 := Lib.hid hn1
    have HN2 := Lib.hid hn2
    have hsz := hB.size
    obtain ⟨wo, rfl⟩ : ∃ wo : World, wo = wr := ⟨_, rfl⟩
    by_cases hlt : k < top F
    · obtain ⟨q, hq⟩ : ∃ q, cnt k F = q := ⟨_, rfl⟩
      have hcq := cnt_le k F
      rw [hq] at hcq
      have HCA := Lib.hid (counts_at F k hlt)
      rw [hq] at HCA
      have HHN := Lib.hid (holF_next p F k)
      rw [hq] at HHN
      have HHL := Lib.hid (holF_length p F k)
      obtain ⟨lo, hlo2⟩ : ∃ lo, loR p F k = lo := ⟨_, rfl⟩
      rw [hlo2] at hlo HHN
      rw [hlo2]
      clear hq hlo2
      by_cases hk1 : k + 1 < top F
      · have hik : decide ((k : Int) + 1 < (top F : Int)) = true := by simp; omega
        have HHI : Hid (hiR p F k = rkF p F (k + 1)) := by show hiR p F k = _; unfold hiR; rw [if_pos hk1]
        have HLO : Hid (loR p F (k + 1) = rkF p F (k + 1)) := by show loR p F (k + 1) = _; unfold loR; rw [if_neg (by omega)]
        have hrl : rkF p F (k + 1) ≤ 64 := Nat.le_trans (rank_le_cols HPP.out (borM_wide _ _)) (HLL.out _)
        obtain ⟨t0, t1, t2, _, _⟩ := hT
        have HI := Lib.hid (H0.out.keeps hB)
        have hbk := fun W hh => HBOR.out ((k : Int) + 1) (by omega) (by omega) W hh
        have hrs := rkF_succ p F k
        have hll := HLL.out ((k : Int) + 1 - 1)
        have hlh := HLL.out ((k : Int) + 1)
        obtain ⟨L, hL⟩ : ∃ L, sized ((k : Int) + 1 - 1) F = L := ⟨_, rfl⟩
        obtain ⟨G, hG⟩ : ∃ G, sized ((k : Int) + 1) F = G := ⟨_, rfl⟩
        rw [hL, hG] at hrs hbk
        rw [hL] at hll
        rw [hG] at hlh
        have HBK := Lib.hid hbk
        have HRS := Lib.hid hrs
        clear hO hB hR hn1 hn2 hL hG hbk hrs
        go_wp2_with fail
        refine (HBK.out _ HI.out).mono ?_
        rintro e w2 ⟨v2, R2, rfl, hM2, hb2⟩
        obtain ⟨gm, am, cm, rfl, -, hMX⟩ := hM2.mx
        rw [borM_length]
        have hX2 : Hid (Calls Tryz.prog 35 #[.slice am L.length cm, .int .i64 (p : Int)] w2 fun e w' => e = .returned (.int .i64 (rkF p F (k + 1) : Nat)) ∧ Below w2.heap.size w2 w') := by
          have h := l13Rank_any p HPP.out _ _ (borM_wide L G) (by rw [borM_length]; omega) (by omega) gm am cm R2 w2 hMX
          rw [borM_length, ← HRS.out] at h
          exact h
        have HB2 : Hid (Below wo.heap.size wo w2) := hb2
        obtain ⟨r, hr⟩ : ∃ r, rkF p F (k + 1) = r := ⟨_, rfl⟩
        rw [hr] at hX2 HHI HLO hrl
        clear hM2 hb2 hMX hr t0 t1 t2
        go_wp2_with fail
        refine hX2.out.mono ?_
        rintro e w3 ⟨rfl, hb3⟩
        have hB3 : Below wo.heap.size wo w3 := HB2.out.trans (hb3.mono HB2.out.size)
        have HB3 := Lib.hid hB3
        have HO3 := Lib.hid (HO.out.keeps hB3)
        unfold OwnInts at HO3
        rw [HHL.out] at HO3
        have hR3 := HR.out.keeps hB3
        obtain ⟨ea, hg1, hc1, _⟩ := hR3 k (by rw [hcl]; exact hlt)
        rw [HCA.out] at hc1
        have HR3 := Lib.hid hR3
        have HT3 := Lib.hid (HT.out.keeps hB3)
        have hz3 := hB3.size
        obtain rfl := ea
        clear hb3 hB3 hR3 hX2 HB2
        go_wp2_with (at_builtin; refine wpList_append_own_at _ rfl _ _ 24 rfl w.heap.size 3 i0 (.int .i64 0) 1 8 Tryz.underlying24 hi hz0 hz1 hz2 rfl (by decide) _ _ _ rfl (HO3.out.alloc _) ⟨w3.heap.size, 0, none⟩ 1 1 [.int .i64 ((q : Int) - (lo : Int) - (r : Int))] rfl rfl ?c1 ?c2 ?c3 ?c4 ?c5 ?_)
        case c1 => intro j u hj; exact Mem.cell_new w3 _ _ j u hj
        case c2 => intro u hu; simp at hu; subst hu; rfl
        case c3 => unfold maxLen; omega
        case c4 => omega
        case c5 => simp; omega
        intro v' w4 hown1 hgrow _ hob
        have hBA : Below w3.heap.size w3 (w3.alloc (.cells #[.int .i64 ((q : Int) - (lo : Int) - (r : Int))] 3)) := (Below.refl _ _).alloc (Nat.le_refl _) _
        have hB5 : Below w.heap.size w w4 := ((HB.out.trans (HB3.out.mono hsz)).trans (hBA.mono (by omega))).grown hgrow (by simp; omega) (fun g hg => (HO3.out.lt g hg).1)
        have hR5 := IntsAt.away (HR3.out.keeps hBA) hgrow HN1.out
        have hT5 := Two.grow2 (HT3.out.keeps hBA) hgrow HN2.out
        have hO5 : OwnInts w4 w.heap.size v' (holF p F (k + 1)) := by
          rw [HHN.out, HHI.out]
          unfold OwnInts
          rw [List.length_append, List.map_append, HHL.out]
          exact hown1
        have hn5 : ∀ g, g < wo.heap.size → u5.ownBlock ≠ some g → v'.ownBlock ≠ some g := fun g hg hne => by
          rcases hob with e | e
          · rw [e]; exact hne
          · rw [e]; simp; omega
        have hz5 := hgrow.size
        simp only [World.size_alloc] at hz5
        have HO5 := Lib.hid hO5
        have HR5 := Lib.hid hR5
        have HT5 := Lib.hid hT5
        have HN5 := Lib.hid hn5
        clear hown1 hgrow hob hO5 hR5 hT5 hn5 hc1
        go_wp2
        go_roundw
        case rel => exact ⟨k + 1, by omega, by go_num, by rw [HLO.out], by rw [HLO.out]; omega, HO5.out, hB5, HR5.out, HT5.out, HN5.out gf (by omega) HN1.out, HN5.out w.heap.size hbl HN2.out, by omega⟩
        case measure => simp [intOf]; omega
      · have hik : decide ((k : Int) + 1 < (top F : Int)) = false := by simp; omega
        have HHI : Hid (hiR p F k = 0) := by show hiR p F k = _; unfold hiR; rw [if_neg hk1]
        have HLO : Hid (loR p F (k + 1) = 0) := by
          show loR p F (k + 1) = 0
          unfold loR
          rw [if_neg (by omega)]
          have h1 := rank_le_cols HPP.out (borM_wide (sized (((k + 1 : Nat) : Int) - 1) F) (sized ((k + 1 : Nat) : Int) F))
          rw [sized_cnt, ge_top F (k + 1) (by omega)] at h1
          have h2 : rkF p F (k + 1) ≤ 0 := by
            unfold rkF
            rw [sized_cnt, ge_top F (k + 1) (by omega)]
            exact h1
          omega
        have HO3 := Lib.hid hO
        unfold OwnInts at HO3
        rw [HHL.out] at HO3
        obtain ⟨ea, hg1, hc1, _⟩ := hR k (by rw [hcl]; exact hlt)
        rw [HCA.out] at hc1
        have HR3 := Lib.hid hR
        have HT3 := Lib.hid hT
        obtain rfl := ea
        clear hO hB hR hT hn1 hn2 HO HR HT
        go_wp2_with (at_builtin; refine wpList_append_own_at _ rfl _ _ 24 rfl w.heap.size 3 i0 (.int .i64 0) 1 8 Tryz.underlying24 hi hz0 hz1 hz2 rfl (by decide) _ _ _ rfl (HO3.out.alloc _) ⟨wo.heap.size, 0, none⟩ 1 1 [.int .i64 ((q : Int) - (lo : Int))] rfl rfl ?c1 ?c2 ?c3 ?c4 ?c5 ?_)
        case c1 => intro j u hj; exact Mem.cell_new wo _ _ j u hj
        case c2 => intro u hu; simp at hu; subst hu; rfl
        case c3 => unfold maxLen; omega
        case c4 => omega
        case c5 => simp; omega
        intro v' w4 hown1 hgrow _ hob
        have hBA : Below wo.heap.size wo (wo.alloc (.cells #[.int .i64 ((q : Int) - (lo : Int))] 3)) := (Below.refl _ _).alloc (Nat.le_refl _) _
        have hB5 : Below w.heap.size w w4 := ((HB.out.trans ((Below.refl wo.heap.size wo).mono hsz)).trans (hBA.mono (by omega))).grown hgrow (by simp; omega) (fun g hg => (HO3.out.lt g hg).1)
        have hR5 := IntsAt.away (HR3.out.keeps hBA) hgrow HN1.out
        have hT5 := Two.grow2 (HT3.out.keeps hBA) hgrow HN2.out
        have hO5 : OwnInts w4 w.heap.size v' (holF p F (k + 1)) := by
          rw [HHN.out, HHI.out]
          unfold OwnInts
          rw [List.length_append, List.map_append, HHL.out]
          rw [show (q : Int) - (lo : Int) - ((0 : Nat) : Int) = (q : Int) - (lo : Int) by omega]; exact hown1
        have hn5 : ∀ g, g < wo.heap.size → u5.ownBlock ≠ some g → v'.ownBlock ≠ some g := fun g hg hne => by
          rcases hob with e | e
          · rw [e]; exact hne
          · rw [e]; simp; omega
        have hz5 := hgrow.size
        simp only [World.size_alloc] at hz5
        have HO5 := Lib.hid hO5
        have HR5 := Lib.hid hR5
        have HT5 := Lib.hid hT5
        have HN5 := Lib.hid hn5
        clear hown1 hgrow hob hO5 hR5 hT5 hn5 hc1
        go_wp2
        go_roundw
        case rel => exact ⟨k + 1, by omega, by go_num, by rw [HLO.out]; rfl, by rw [HLO.out]; omega, HO5.out, hB5, HR5.out, HT5.out, HN5.out gf (by omega) HN1.out, HN5.out w.heap.size hbl HN2.out, by omega⟩
        case measure => simp [intOf]; omega
    · have E := Lib.hid (show k = top F by omega)
      have hdk : decide ((k : Int) < (top F : Int)) = false := by simp; omega
      clear hO hB hR hT hn1 hn2
      go_wp2
      go_ret
      exact ⟨u5, rfl, by have h := HO.out; rw [E.out] at h; exact h, HB.out⟩

end Go.Proofs.YtenpcjmhlnalcaaGreat
