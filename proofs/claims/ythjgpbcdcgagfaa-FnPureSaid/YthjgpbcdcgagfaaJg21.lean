/-
  TEXTS of one claim, put together: WMat2, WBor, WDel.
-/
import Derived.Test.YthjgpbcdcgagfaaJg12
import Derived.Test.YthjgpbcdcgagfaaJg3
import Derived.Test.YthjgpbcdcgagfaaJg9
import Derived.Deep.RegionLaw
import Derived.Deep.AppendLies
import Derived.Test.YthjgpbcdcgagfaaJg6
import Derived.Lib.SliceRun
/-! WALKS of chapter 13 (spec): the number of a face in a border. -/

namespace Go.Proofs.Ythjgpbcdcgagfaa
open Go.RowKit
open Sets

theorem and_natM : ∀ a b : Nat, a < 64 → b < 64 → bits BinOp.and IntKind.i64 (a : Int) (b : Int) = ((a &&& b : Nat) : Int) := by
  refine fin64b ?_
  decide +kernel
theorem sgn_yes {t s : Nat} (h : sub t s = true) (k : pc s = pc t + 1) : Hom.sgn t s = 1 - 2 * ((pc (s &&& (s - t - 1)) % 2 : Nat) : Int) := by unfold Hom.sgn; rw [if_pos ⟨h, k⟩]

set_option maxRecDepth 100000 in
set_option maxHeartbeats 2000000 in
theorem l13Sign_any (t s : Nat) (ht : t < 64) (hs : s < 64) (w : World) : Calls Try.prog 110 #[.int .i64 (t : Int), .int .i64 (s : Int)] w fun e w' => e = .returned (.int .i64 (Hom.sgn t s)) ∧ w = w' := by
  have ha := and_natM t s ht hs
  have hpt := pc_le t
  have hps := pc_le s
  cases h : sub t s with
  | false =>
    have hne : ¬(((t &&& s : Nat) : Int) = (t : Int)) := fun e => by
      have : t &&& s = t := by omega
      unfold sub at h; rw [this] at h; simp at h
    have E := Lib.hid (Hom.sgn_zero (t := t) (s := s) (by rw [h]; simp))
    go_enter Try.func110, Try.ntmps110
    go_wp2
    go_ret
    exact ⟨ret_int E.out.symm, rfl⟩
  | true =>
    have heq : ((t &&& s : Nat) : Int) = (t : Int) := by unfold sub at h; rw [beq_iff_eq] at h; rw [h]
    rw [heq] at ha
    clear heq
    have H := Lib.hid h
    have S1 := fun W => l2Size_b s (pc s) rfl hs W
    have S2 := fun W => l2Size_b t (pc t) rfl ht W
    generalize hq : pc s = ps at *
    generalize hq2 : pc t = pt at *
    have HQ := Lib.hid hq
    have HQ2 := Lib.hid hq2
    have HS1 := Lib.hid S1
    have HS2 := Lib.hid S2
    clear hq hq2 S1 S2 h
    by_cases hk : ps = pt + 1
    · have hlt : t < s := by
        have h1 := sub_le H.out
        have : t ≠ s := fun e => by have h1 := HQ.out; have h2 := HQ2.out; rw [e] at h2; omega
        omega
      have hpm := and_natM s (s - t - 1) hs (by omega)
      rw [show (((s - t - 1 : Nat)) : Int) = (s : Int) - (t : Int) - 1 by omega] at hpm
      have hm : s &&& (s - t - 1) < 64 := Nat.lt_of_le_of_lt Nat.and_le_left hs
      have HM := Lib.hid (fun W => l2Size_b (s &&& (s - t - 1)) _ rfl hm W)
      have E := Lib.hid (sgn_yes H.out (by rw [HQ.out, HQ2.out]; exact hk))
      have hpp := pc_le (s &&& (s - t - 1))
      generalize (s &&& (s - t - 1)) = m at *
      clear hm
      have hk2 : ((ps : Nat) : Int) - (pt : Int) = 1 := by omega
      go_enter Try.func110, Try.ntmps110
      go_wp2_with fail
      refine (HS1.out _).mono ?_
      rintro e w' ⟨rfl, rfl⟩
      go_wp2_with fail
      refine (HS2.out _).mono ?_
      rintro e w' ⟨rfl, rfl⟩
      go_wp2_with fail
      refine (HM.out _).mono ?_
      rintro e w' ⟨rfl, rfl⟩
      go_wp2
      go_ret
      refine ⟨ret_int ?_, rfl⟩
      rw [E.out]
      omega
    · have hk2 : ¬(((ps : Nat) : Int) - (pt : Int) = 1) := by omega
      have E := Lib.hid (Hom.sgn_zero (t := t) (s := s) (fun hh => hk (by have h1 := hh.2; rw [HQ.out, HQ2.out] at h1; exact h1)))
      go_enter Try.func110, Try.ntmps110
      go_wp2_with fail
      refine (HS1.out _).mono ?_
      rintro e w' ⟨rfl, rfl⟩
      go_wp2_with fail
      refine (HS2.out _).mono ?_
      rintro e w' ⟨rfl, rfl⟩
      go_wp2
      go_ret
      exact ⟨ret_int E.out.symm, rfl⟩

end Go.Proofs.Ythjgpbcdcgagfaa

/-! WALK of chapter 13 (spec): the matrix of a border. -/

namespace Go.Proofs.Ythjgpbcdcgagfaa
open Go.RowKit
open Sets

/-- The numbers of the faces L in the borders of the faces H. -/
def borR (t : Int) (H : List Int) : List Int := H.map fun s => Hom.sgn t.toNat s.toNat
def borM (L H : List Int) : Lin.Mat := L.map fun t => borR t H
theorem take_snocB {α : Type} (l : List α) (k : Nat) (h : k < l.length) : l.take (k + 1) = l.take k ++ [l[k]] := by rw [List.take_append_getElem h]
theorem borR_next (t : Int) (H : List Int) (k : Nat) (h : k < H.length) : borR t (H.take (k + 1)) = borR t (H.take k) ++ [Hom.sgn t.toNat (H.getD k 0).toNat] := by
  unfold borR
  rw [take_snocB H k h, List.map_append]
  simp [List.getD, List.getElem?_eq_getElem h]
theorem borM_next (L H : List Int) (k : Nat) (h : k < L.length) : borM (L.take (k + 1)) H = borM (L.take k) H ++ [borR (L.getD k 0) H] := by
  unfold borM
  rw [take_snocB L k h, List.map_append]
  simp [List.getD, List.getElem?_eq_getElem h]
theorem borR_length (t : Int) (H : List Int) : (borR t H).length = H.length := by simp [borR]
theorem borM_length (L H : List Int) : (borM L H).length = L.length := by simp [borM]
theorem sized_at (n : Int) (xs : List Int) (q : Int) (j : Nat) (h : j < (sized q (faces n xs)).length) : ∃ s : Nat, (sized q (faces n xs)).getD j 0 = (s : Int) ∧ s < 64 := by
  have hm : (sized q (faces n xs)).getD j 0 ∈ faces n xs := by
    simp only [List.getD, List.getElem?_eq_getElem h, Option.getD_some]
    exact (List.mem_filter.1 (List.getElem_mem h)).1
  obtain ⟨i, hi, e⟩ := List.getElem_of_mem hm
  obtain ⟨s, h1, h2⟩ := faces_at n xs i hi
  exact ⟨s, by rw [← h1, ← e]; simp [List.getD, List.getElem?_eq_getElem hi], h2⟩
theorem sized_le (n : Int) (xs : List Int) (q : Int) : (sized q (faces n xs)).length ≤ 64 := Nat.le_trans (sized_length _ _) (faces_le n xs)

set_option maxRecDepth 100000 in
set_option maxHeartbeats 4000000 in
theorem l13Border_any (n : Int) (a : Option Addr) (c : Nat) (xs : List Int) (hlen : xs.length ≤ 1099511627776) (q : Int) (hq0 : -1000 ≤ q) (hq1 : q ≤ 1000) (w : World) (h : Ints w a xs) :
    Calls Try.prog 68 #[cx n (.slice a xs.length c), .int .i64 q] w fun e w' => ∃ v R, e = .returned v ∧ OwnMx w' w.heap.size v R (borM (sized (q - 1) (faces n xs)) (sized q (faces n xs))) ∧ Below w.heap.size w w' := by
  obtain ⟨i0, hi, hz0, hz1, hz2⟩ := info_parts info_int
  obtain ⟨i9, hi9, hz90, hz91, hz92⟩ := info_parts info_row
  have hb0 : Below w.heap.size w ((w.alloc (Obj.cells #[Value.int IntKind.i64 n, Value.slice a xs.length c] 26)).alloc (.cells #[] 24)) := ((Below.refl _ _).alloc (Nat.le_refl _) _).alloc (by simp) _
  have hO0 := OwnMx.lit (w.alloc (Obj.cells #[Value.int IntKind.i64 n, Value.slice a xs.length c] 26)) w.heap.size (by simp)
  have htwo := (Two.new w (.int .i64 n) (.slice a xs.length c) 26).alloc (.cells #[] 24)
  have H := Lib.hid (h.keeps hb0)
  have HB0 := Lib.hid hb0
  have HO0 := Lib.hid hO0
  have HT := Lib.hid htwo
  clear h hb0 hO0 htwo
  have hleL := sized_le n xs (q - 1)
  have hleH := sized_le n xs q
  have HFL := Lib.hid (sized_at n xs (q - 1))
  have HFH := Lib.hid (sized_at n xs q)
  obtain ⟨L, hL⟩ : ∃ L, sized (q - 1) (faces n xs) = L := ⟨_, rfl⟩
  obtain ⟨G, hG⟩ : ∃ G, sized q (faces n xs) = G := ⟨_, rfl⟩
  have HLL := Lib.hid hL
  have HGG := Lib.hid hG
  rw [hL] at hleL HFL
  rw [hG] at hleH HFH
  rw [hL, hG]
  clear hL hG
  go_enter Try.func68, Try.ntmps68
  obtain ⟨t0, t1, t2, _, _⟩ := HT.out
  go_wp2_with fail
  refine (specSized_any n _ _ xs hlen (q - 1) _ H.out).mono ?_
  rw [HLL.out]
  rintro e w1 ⟨v1, rfl, hO1, hb1⟩
  obtain ⟨al, dl, gl, rfl, hgl, hrl⟩ := hO1.at
  have HB1 : Hid (Below w.heap.size w w1) := HB0.out.trans (hb1.mono HB0.out.size)
  have HRL1 := Lib.hid hrl
  have HO1 := Lib.hid (OwnMx.keeps HO0.out hb1)
  have HT1 := Lib.hid (HT.out.keeps hb1)
  have H1 := Lib.hid (H.out.keeps hb1)
  have hz1w := HB1.out.size
  rw [World.size_alloc] at HO1
  simp only [World.size_alloc] at hgl
  clear hO1 hrl hb1 t0 t1 t2
  obtain ⟨t0, t1, t2, _, _⟩ := HT1.out
  go_wp2_with fail
  refine (specSized_any n _ _ xs hlen q _ H1.out).mono ?_
  rw [HGG.out]
  rintro e w2 ⟨v2, rfl, hO2, hb2⟩
  obtain ⟨ah, dh, gh, rfl, hgh, hrh, hgh2⟩ : ∃ ah dh gh, v2 = .slice ah G.length dh ∧ gh ≠ w.heap.size + 1 ∧ IntsAt w2 gh ah G ∧ gh < w2.heap.size := by
    obtain ⟨ah, dh, gh, hv, hgh, hrh⟩ := hO2.at
    have hw1 : w.heap.size + 1 < w1.heap.size := (World.ownsRow.lt HO1.out.own (w.heap.size + 1) rfl).2
    by_cases h0 : 0 < G.length
    · exact ⟨ah, dh, gh, hv, by omega, hrh, (hrh 0 h0).2.1⟩
    · exact ⟨ah, dh, w.heap.size, hv, by omega, fun j hj => absurd hj (by omega), by have := hb2.size; omega⟩
  have HB2 : Hid (Below w.heap.size w w2) := HB1.out.trans (hb2.mono hz1w)
  have HRL2 := Lib.hid (HRL1.out.keeps hb2)
  have HRH2 := Lib.hid hrh
  have HO2 := Lib.hid (OwnMx.keeps HO1.out hb2)
  have hz2w := HB2.out.size
  have hz12 := hb2.size
  have hm1 : w.heap.size + 1 < w1.heap.size := by
    have := HO1.out
    obtain ⟨_, h2⟩ := World.ownsRow.lt this.own (w.heap.size + 1) rfl
    exact h2
  clear hO2 hrh hb2 t0 t1 t2 HO1 HRL1 HT1 H1
  have hne1 : (Value.slice (some ⟨w.heap.size + 1, 0, none⟩) 0 0).ownBlock ≠ some gl := by simp only [Value.ownBlock, ne_eq, Option.some.injEq]; omega
  have hne2 : (Value.slice (some ⟨w.heap.size + 1, 0, none⟩) 0 0).ownBlock ≠ some gh := by simp only [Value.ownBlock, ne_eq, Option.some.injEq]; omega
  go_wp2
  go_loopw [5, 8] (fun v i wr => ∃ (k : Nat) (R : List (Nat × Nat)), k ≤ L.length ∧ i = .int .i64 (k : Int) ∧ OwnMx wr w.heap.size v R (borM (L.take k) G) ∧ Below w.heap.size w wr ∧ IntsAt wr gl al L ∧ IntsAt wr gh ah G ∧ v.ownBlock ≠ some gl ∧ v.ownBlock ≠ some gh ∧ w2.heap.size ≤ wr.heap.size) (fun _ i _ => L.length - (intOf i).toNat)
  case atStart => exact ⟨0, [], Nat.zero_le _, rfl, HO2.out, HB2.out, HRL2.out, HRH2.out, hne1, hne2, Nat.le_refl _⟩
  case round =>
    clear hne1 hne2 HO2 HB2 HRL2 HRH2
    obtain ⟨k, R, hk, rfl, hO, hB, hRL, hRH, hnl, hnh, hzw⟩ := hrel
    have hghw : gh < wr.heap.size := by omega
    have HO := Lib.hid hO
    have HBO := Lib.hid hB
    have HRL := Lib.hid hRL
    have HRH := Lib.hid hRH
    have HNL := Lib.hid hnl
    have HNH := Lib.hid hnh
    have hszo := hB.size
    obtain ⟨wo, rfl⟩ : ∃ wo : World, wo = wr := ⟨_, rfl⟩
    clear hO hRL hRH hnl hnh hB
    by_cases hlt : k < L.length
    · obtain ⟨t, ht, ht64⟩ := HFL.out k hlt
      have HTT := Lib.hid ht
      have hltk : decide ((k : Int) < (L.length : Int)) = true := by simpa using hlt
      have hstart := Lib.hid (OwnInts.lit wo wo.heap.size [] (Nat.le_refl _) (by simp))
      clear ht
      go_wp2
      go_loopw [9, 10] (fun v i wr => ∃ (k2 gg cc : Nat), k2 ≤ G.length ∧ i = .int .i64 (k2 : Int) ∧ v = .slice (some ⟨gg, 0, none⟩) k2 cc ∧ OwnInts wr wo.heap.size v (borR (t : Int) (G.take k2)) ∧ Below wo.heap.size wo wr) (fun _ i _ => G.length - (intOf i).toNat)
      case atStart => exact ⟨0, wo.heap.size, 0, Nat.zero_le _, rfl, rfl, hstart.out, (Below.refl _ _).alloc (Nat.le_refl _) _⟩
      case round =>
        clear hstart
        obtain ⟨k2, gg, cc, hk2, rfl, rfl, hO3, hB3⟩ := hrel
        have HO3 := Lib.hid hO3
        unfold OwnInts at HO3
        have hsz := hB3.size
        have hl := borR_length (t : Int) (G.take k2)
        rw [List.length_take, Nat.min_eq_left hk2] at hl
        rw [hl] at HO3
        have HL := Lib.hid hl
        clear hO3 hl
        by_cases hlk : k2 < G.length
        · obtain ⟨s, hs, hs64⟩ := HFH.out k2 hlk
          obtain ⟨ea, hg1, hc1, _⟩ := HRL.out.keeps hB3 k hlt
          obtain ⟨eb, hg2, hc2, _⟩ := HRH.out.keeps hB3 k2 hlk
          rw [HTT.out] at hc1
          rw [hs] at hc2
          have HN := Lib.hid (borR_next (t : Int) G k2 hlk)
          rw [hs] at HN
          obtain rfl := ea
          obtain rfl := eb
          obtain ⟨z, hz⟩ : ∃ z, Hom.sgn t s = z := ⟨_, rfl⟩
          have HZ := Lib.hid hz
          have HSG := Lib.hid (fun W => l13Sign_any t s ht64 hs64 W)
          rw [hz] at HSG
          rw [show Hom.sgn (t : Int).toNat (s : Int).toNat = z from hz] at HN
          clear hs hz
          have hbg : ∀ g, (Value.slice (some ⟨gg, 0, none⟩) k2 cc).ownBlock = some g → wo.heap.size ≤ g := fun g hg => (HO3.out.lt g hg).1
          have HBG := Lib.hid hbg
          clear hbg
          go_wp2_with fail
          go_region_law (first | (go_simp; go_at_call 110; refine (HSG.out _).mono ?_; rintro e w' ⟨rfl, rfl⟩) | (refine step_append_lies _ (by rfl) _ _ _ (by rfl) wo.heap.size 3 i0 (.int .i64 0) 1 8 Try.underlying24 hi hz0 hz1 hz2 rfl (by omega) (.slice (some ⟨gg, 0, none⟩) k2 cc) k2 (List.map (Value.int IntKind.i64) (borR (t : Int) (G.take k2))) (by rfl) ((HO3.out.alloc _).drew) ⟨wr.heap.size, 0, none⟩ 1 1 [.int .i64 z] (by rfl) (by rfl) (World.news_of_block (cs := #[.int .i64 z]) (t := 3) (fr := (0, 0)) (heap_alloc_new wr _)) (by simp [Value.oneCell']) (by omega) (by unfold maxLen; omega) (by omega) (by simp; omega) (wr.heap.size + 1) (by simp) ?_; intro gg2 cap w1 hown1 hgrow hat hlt3) | fail "arm")
          all_goals
            have hB4 : Below wo.heap.size wo w1 := ((hB3.alloc hsz _).drew).grown hgrow (by simp; omega) HBG.out
            have hO4 : OwnInts w1 wo.heap.size (.slice (some ⟨gg2, 0, none⟩) (k2 + 1) cap) (borR (t : Int) (G.take (k2 + 1))) := by
              unfold OwnInts
              rw [HN.out, List.length_append, List.map_append, HL.out]
              exact hown1
            have HO4 := Lib.hid hO4
            clear hown1 hgrow hat hO4
            go_wp2
            refine ⟨⟨k2 + 1, gg2, cap, by omega, by go_num, rfl, HO4.out, hB4⟩, ?_⟩
            simp [intOf]; omega
        · have hE : k2 = G.length := by omega
          have HE := Lib.hid hE
          have hOI : OwnInts wr wo.heap.size (.slice (some ⟨gg, 0, none⟩) k2 cc) (borR (t : Int) G) := by
            have h := HO3.out
            rw [hE, List.take_length] at h
            unfold OwnInts
            rw [borR_length, hE]; exact h
          obtain ⟨hg1, hg2, hIr, -⟩ := hOI.known
          have HIR := Lib.hid hIr
          have HM := Lib.hid (HO.out.keeps hB3)
          have hzl := borM_length (L.take k) G
          rw [List.length_take, Nat.min_eq_left hk] at hzl
          have HOW := Lib.hid HM.out.own
          rw [hzl] at HOW
          have HZL := Lib.hid hzl
          have hnn : u5.ownBlock ≠ some gg := fun e => by have := (HO.out.own.lt gg e).2; omega
          have HNN := Lib.hid hnn
          have hnr : Hid (gg ∉ blks R) := fun hm => by have := (HO.out.old hm).2; omega
          have HN := Lib.hid ((borM_next L G k hlt).trans (by rw [HTT.out] : _ = borM (L.take k) G ++ [borR (t : Int) G]))
          have hgl3 : gl < wo.heap.size := (HRL.out k hlt).2.1
          clear hOI hIr HO3 hzl hnn hE
          go_wp2_with (at_builtin; refine wpList_append_own_at _ rfl _ _ 29 rfl w.heap.size 24 i9 (.slice none 0 0) 1 24 Try.underlying29 hi9 hz90 hz91 hz92 rfl (by decide) _ _ _ rfl (HOW.out.alloc _) ⟨wr.heap.size, 0, none⟩ 1 1 [.slice (some ⟨gg, 0, none⟩) k2 cc] rfl rfl ?c1 ?c2 ?c3 ?c4 ?c5 ?_)
          case c1 => intro j u hj; exact Mem.cell_new wr _ _ j u hj
          case c2 => intro u hu; simp at hu; subst hu; rfl
          case c3 => unfold maxLen; omega
          case c4 => omega
          case c5 => simp; omega
          intro v' w3 hown1 hgrow _ hob
          have hBA : Below wr.heap.size wr (wr.alloc (.cells #[.slice (some ⟨gg, 0, none⟩) k2 cc] 24)) := (Below.refl _ _).alloc (Nat.le_refl _) _
          have hB5 : Below w.heap.size w w3 := ((HBO.out.trans (hB3.mono hszo)).trans (hBA.mono (by omega))).grown hgrow (by simp; omega) (fun g hg => (HO.out.own.lt g hg).1)
          have hRL5 := IntsAt.away ((HRL.out.keeps hB3).keeps hBA) hgrow HNL.out
          have hRH5 := IntsAt.away ((HRH.out.keeps hB3).keeps hBA) hgrow HNH.out
          have hO5 : OwnMx w3 w.heap.size v' (R ++ [(gg, cc)]) (borM (L.take (k + 1)) G) := by
            rw [HN.out]
            refine OwnMx.next (HM.out.keeps hBA) (by omega) (by simp; omega) (HIR.out.keeps hBA) hnr.out HNN.out ?_ hgrow ?_
            · rw [HZL.out, borR_length, ← HE.out]; exact hown1
            · rcases hob with e | e
              · exact .inl e
              · exact .inr ⟨_, e, by rw [World.size_alloc]; exact Nat.le_refl _⟩
          have hn5 : ∀ g, g < wo.heap.size → u5.ownBlock ≠ some g → v'.ownBlock ≠ some g := fun g hg hne => by
            rcases hob with e | e
            · rw [e]; exact hne
            · rw [e]; simp; omega
          have hz5 := hgrow.size
          have HO5 := Lib.hid hO5
          have H5L := Lib.hid hRL5
          have H5H := Lib.hid hRH5
          have HN5 := Lib.hid hn5
          simp only [World.size_alloc] at hz5
          clear hown1 hgrow hob hO5 hRL5 hRH5 hn5
          go_wp2
          go_roundw
          case rel => exact ⟨k + 1, R ++ [(gg, cc)], by omega, by go_num, HO5.out, hB5, H5L.out, H5H.out, HN5.out gl hgl3 HNL.out, HN5.out gh (by omega) HNH.out, by omega⟩
          case measure => simp [intOf]; omega
    · have E := Lib.hid (show k = L.length by omega)
      go_wp2
      go_ret
      refine ⟨u5, R, rfl, ?_, HBO.out⟩
      have h := HO.out
      rw [E.out, List.take_length] at h
      exact h

end Go.Proofs.Ythjgpbcdcgagfaa

/-! WALKS: slices.DeleteFunc at a row of numbers in a block of its own; impl.FacesOfSize. -/

namespace Go.Proofs.Ythjgpbcdcgagfaa
open Go.RowKit
open Sets

/-- What is asked of the predicate: at every number, in every world in which at most block B has changed, it answers q; it may draw. -/
def AsksBut (g : Nat) (lb : Array Value) (q : Int → Bool) (B : Nat) (w : World) : Prop :=
  ∀ (W : World) (x : Int), w.grownBy W (some B) → Calls Try.prog g (#[.int .i64 x] ++ lb) W fun e w' => e = .returned (.bool (q x)) ∧ ∃ m, w' = W.drewN m
theorem AsksBut.at {g : Nat} {lb : Array Value} {q : Int → Bool} {B : Nat} {w : World} (h : AsksBut g lb q B w) (W : World) (x : Int) (b : Bool) (hb : q x = b) (hB : w.grownBy W (some B)) :
    Calls Try.prog g (#[.int .i64 x] ++ lb) W fun e w' => e = .returned (.bool b) ∧ ∃ m, w' = W.drewN m := by
  subst hb; exact h W x hB

theorem but_drewN {w W : World} {b : Option Nat} (h : w.grownBy W b) (n : Nat) : w.grownBy (W.drewN n) b := ⟨h.os, h.tape, h.output, h.size, h.block⟩

set_option maxRecDepth 100000 in
set_option maxHeartbeats 2000000 in
/-- slices.IndexFunc: the first number that meets the predicate. -/
theorem indexFirst_any (g : Nat) (lb : Array Value) (q : Int → Bool) (B c : Nat) (zs : List Int) (w : World) (eg : ∀ args w, (callFunc g args).run Try.prog w = .ok (.enter g args) w)
    (hp : AsksBut g lb q B w) (hlen : zs.length ≤ 1099511627776) (h : IntsAt w B (some ⟨B, 0, none⟩) zs) :
    Calls Try.prog 129 #[.slice (some ⟨B, 0, none⟩) zs.length c, .func (.func g) #[] lb] w fun e w' => ∃ k : Int, e = .returned (.int .i64 k) ∧ (∃ m, w' = w.drewN m) ∧
      ((k = -1 ∧ ∀ j, j < zs.length → q (zs.getD j 0) = false) ∨ ∃ i : Nat, k = (i : Int) ∧ i < zs.length ∧ q (zs.getD i 0) = true ∧ ∀ j, j < i → q (zs.getD j 0) = false) := by
  have HP := Lib.hid hp
  have H := Lib.hid h
  clear hp h
  go_enter Try.func129, Try.ntmps129
  go_wp2
  go_loopw [8] (fun i wr => ∃ k n : Nat, k ≤ zs.length ∧ i = .int .i64 (k : Int) ∧ (∀ j, j < k → q (zs.getD j 0) = false) ∧ wr = w.drewN n) (fun i _ => zs.length - (intOf i).toNat)
  case atStart => exact ⟨0, 0, Nat.zero_le _, rfl, fun j hj => absurd hj (Nat.not_lt_zero _), rfl⟩
  case round =>
    obtain ⟨k, n, hk, rfl, hq, rfl⟩ := hrel
    have HQ := Lib.hid hq
    clear hq
    have hB : w.grownBy (w.drewN n) (some B) := but_drewN (Mem.but_refl _ _) n
    by_cases hlt : k < zs.length
    · obtain ⟨_, _, hc, _⟩ := H.out k hlt
      obtain ⟨x, hx⟩ : ∃ x, zs.getD k 0 = x := ⟨_, rfl⟩
      rw [hx] at hc
      have HX := Lib.hid hx
      clear hx
      cases hqx : q x with
      | true =>
        have HQX := Lib.hid hqx
        clear hqx
        go_wp2_with (go_at_fn g; refine (HP.out.at _ x true HQX.out hB).mono ?_; rintro e w' ⟨rfl, m, rfl⟩)
        go_ret
        exact ⟨(k : Int), rfl, ⟨_, rfl⟩, Or.inr ⟨k, rfl, hlt, by rw [HX.out]; exact HQX.out, HQ.out⟩⟩
      | false =>
        have HQX := Lib.hid hqx
        clear hqx
        go_wp2_with (go_at_fn g; refine (HP.out.at _ x false HQX.out hB).mono ?_; rintro e w' ⟨rfl, m, rfl⟩)
        go_roundw
        case rel =>
          refine ⟨k + 1, _, by omega, by go_num, fun j hj => ?_, rfl⟩
          by_cases e : j = k
          · subst e; rw [HX.out]; exact HQX.out
          · exact HQ.out j (by omega)
        case measure => simp [intOf]; omega
    · have E := Lib.hid (show k = zs.length by omega)
      go_wp2
      go_ret
      exact ⟨-1, rfl, ⟨_, rfl⟩, Or.inl ⟨rfl, fun j hj => HQ.out j (by rw [E.out]; exact hj)⟩⟩

/-- Those of the first j numbers that stay. -/
def stay (q : Int → Bool) (zs : List Int) (j : Nat) : List Int := (zs.take j).filter fun x => !q x
theorem stay_hit (q : Int → Bool) (zs : List Int) (j : Nat) (h : j < zs.length) (hq : q (zs.getD j 0) = false) : stay q zs (j + 1) = stay q zs j ++ [zs.getD j 0] := by
  unfold stay; rw [take_nx zs j h, List.filter_append]; generalize zs.getD j 0 = x at hq ⊢; simp [hq]
theorem stay_miss (q : Int → Bool) (zs : List Int) (j : Nat) (h : j < zs.length) (hq : q (zs.getD j 0) = true) : stay q zs (j + 1) = stay q zs j := by
  unfold stay; rw [take_nx zs j h, List.filter_append]; generalize zs.getD j 0 = x at hq ⊢; simp [hq]
theorem stay_le (q : Int → Bool) (zs : List Int) (j : Nat) : (stay q zs j).length ≤ j := by
  unfold stay
  refine Nat.le_trans (List.length_filter_le _ _) ?_
  rw [List.length_take]; omega
theorem stay_all (q : Int → Bool) (zs : List Int) : ∀ (j : Nat), j ≤ zs.length → (∀ i, i < j → q (zs.getD i 0) = false) → stay q zs j = zs.take j := by
  intro j hj h
  unfold stay
  rw [List.filter_eq_self]
  intro x hx
  obtain ⟨i, hi, rfl⟩ := List.mem_take_iff_getElem.1 hx
  have := h i (by omega)
  rw [List.getD, List.getElem?_eq_getElem (by omega)] at this
  simpa using this

theorem int_zero (w : World) : (zeroValue 3).run Try.prog w = .ok (.int .i64 0) w := by
  obtain ⟨i0, hi, hz0, _, _⟩ := info_parts info_int
  simp [zeroValue, typeInfo, hi, hz0]

theorem but_setCells {w : World} {B : Nat} : ∀ (vs : List Value) (o : Nat) (W : World), w.grownBy W (some B) → w.grownBy (W.setCells B o vs) (some B)
  | [], _, _, h => h
  | v :: r, o, W, h => but_setCells r (o + 1) _ (h.trans (Mem.but_setCell W B o v))

set_option maxRecDepth 100000 in
set_option maxHeartbeats 4000000 in
theorem deleteFunc_any (g : Nat) (lb : Array Value) (q : Int → Bool) (B c : Nat) (zs : List Int) (w : World) (eg : ∀ args w, (callFunc g args).run Try.prog w = .ok (.enter g args) w)
    (hp : AsksBut g lb q B w) (hcap : zs.length ≤ c) (hlen : zs.length ≤ 1099511627776) (h : IntsAt w B (some ⟨B, 0, none⟩) zs) :
    Calls Try.prog 98 #[.slice (some ⟨B, 0, none⟩) zs.length c, .func (.func g) #[] lb] w fun e w' =>
      e = .returned (.slice (some ⟨B, 0, none⟩) (zs.filter fun x => !q x).length c) ∧ IntsAt w' B (some ⟨B, 0, none⟩) (zs.filter fun x => !q x) ∧ w.grownBy w' (some B) := by
  have hix := indexFirst_any g lb q B c zs w eg hp hlen h
  have HIX := Lib.hid hix
  have HP := Lib.hid hp
  have H := Lib.hid h
  clear hix hp h
  have hst : stay q zs zs.length = zs.filter fun x => !q x := by unfold stay; rw [List.take_length]
  have HST := Lib.hid hst
  clear hst
  go_enter Try.func98, Try.ntmps98
  go_wp2_with fail
  refine HIX.out.mono ?_
  rintro e w1 ⟨k, rfl, ⟨m, rfl⟩, ⟨rfl, hall⟩ | ⟨i, rfl, hi, hqi, hall⟩⟩
  · have hs : (zs.filter fun x => !q x) = zs := by
      rw [← HST.out, stay_all q zs _ (Nat.le_refl _) hall, List.take_length]
    have HS := Lib.hid hs
    clear hall hs
    go_wp2
    go_ret
    rw [HS.out]
    exact ⟨rfl, H.out, but_drewN (Mem.but_refl _ _) m⟩
  · have hB := (H.out i hi).2.1
    have hst1 : stay q zs (i + 1) = zs.take i := by rw [stay_miss q zs i hi hqi, stay_all q zs i (by omega) hall]
    have HS1 := Lib.hid hst1
    have hg0 : w.grownBy (w.drewN m) (some B) := but_drewN (Mem.but_refl _ _) m
    have hlow0 : ∀ t, t < (zs.take i).length → (w.drewN m).cell? ⟨B, t, none⟩ = some (.int .i64 ((zs.take i).getD t 0)) := fun t ht => by
      rw [List.length_take] at ht
      rw [List.getD, List.getElem?_take_of_lt (by omega)]
      exact (H.out t (by omega)).2.2.1
    have hl1 : (zs.take i).length = i := by rw [List.length_take]; omega
    have HG0 := Lib.hid hg0
    have HLOW0 := Lib.hid hlow0
    have HL1 := Lib.hid hl1
    have hne : ((i : Int) == -1) = false := beq_eq_false_iff_ne.2 (by omega)
    clear hall hqi hst1 hg0 hlow0 hl1
    go_wp2
    go_loopw [5, 6] (fun iv jv wr => ∃ j : Nat, i < j ∧ j ≤ zs.length ∧ iv = .int .i64 ((stay q zs j).length : Int) ∧ jv = .int .i64 (j : Int) ∧ (stay q zs j).length < j ∧ w.grownBy wr (some B) ∧
        (∀ t, t < (stay q zs j).length → wr.cell? ⟨B, t, none⟩ = some (.int .i64 ((stay q zs j).getD t 0))) ∧ (∀ t, j ≤ t → t < zs.length → wr.cell? ⟨B, t, none⟩ = some (.int .i64 (zs.getD t 0))) ∧
        (∀ t, t < zs.length → ∃ x, wr.cell? ⟨B, t, none⟩ = some x) ∧ (∀ t, t < zs.length → wr.frozen? ⟨B, t, none⟩ = false)) (fun _ jv _ => zs.length - (intOf jv).toNat)
    case atStart =>
      exact ⟨i + 1, by omega, by omega, by rw [HS1.out, HL1.out], by go_num, by rw [HS1.out, HL1.out]; omega, HG0.out, by rw [HS1.out]; exact HLOW0.out,
        fun t _ ht => (H.out t ht).2.2.1, fun t ht => ⟨_, (H.out t ht).2.2.1⟩, fun t ht => (H.out t ht).2.2.2⟩
    case round =>
      clear HS1 HG0 HLOW0 HL1 hne
      obtain ⟨j, hij, hj, rfl, rfl, hlt1, hg, hlow, hhigh, hany, hfr⟩ := hrel
      have HG := Lib.hid hg
      have HLOW := Lib.hid hlow
      have HHIGH := Lib.hid hhigh
      have HANY := Lib.hid hany
      have HFR := Lib.hid hfr
      clear hg hlow hhigh hany hfr
      obtain ⟨s, hs⟩ : ∃ s, (stay q zs j).length = s := ⟨_, rfl⟩
      rw [hs] at hlt1 ⊢
      have HS := Lib.hid hs
      clear hs
      by_cases hlt : j < zs.length
      · have hc := HHIGH.out j (Nat.le_refl _) hlt
        obtain ⟨x, hx⟩ : ∃ x, zs.getD j 0 = x := ⟨_, rfl⟩
        rw [hx] at hc
        have HX := Lib.hid hx
        clear hx
        cases hqx : q x with
        | true =>
          have HQX := Lib.hid hqx
          have HM := Lib.hid (stay_miss q zs j hlt (by rw [HX.out]; exact hqx))
          clear hqx
          go_wp2_with (go_at_fn g; refine (HP.out.at _ x true HQX.out HG.out).mono ?_; rintro e w' ⟨rfl, m2, rfl⟩)
          go_roundw
          case rel => exact ⟨j + 1, by omega, by omega, by rw [HM.out, HS.out], by go_num, by rw [HM.out, HS.out]; omega, but_drewN HG.out m2, by rw [HM.out]; exact HLOW.out, fun t h1 h2 => HHIGH.out t (by omega) h2, HANY.out, HFR.out⟩
          case measure => simp [intOf]; omega
        | false =>
          have HQX := Lib.hid hqx
          have HM := Lib.hid (stay_hit q zs j hlt (by rw [HX.out]; exact hqx))
          obtain ⟨y, hy⟩ := HANY.out s (by omega)
          have hz := HFR.out s (by omega)
          clear hqx
          go_wp2_with (go_at_fn g; refine (HP.out.at _ x false HQX.out HG.out).mono ?_; rintro e w' ⟨rfl, m2, rfl⟩)
          go_roundw
          case rel =>
            refine ⟨j + 1, by omega, by omega, by rw [HM.out, List.length_append, HS.out]; go_num, by go_num, by rw [HM.out, List.length_append, HS.out]; simp; omega, (but_drewN HG.out m2).trans (Mem.but_setCell _ _ _ _), fun t ht => ?_, fun t h1 h2 => ?_, fun t ht => ?_, fun t ht => ?_⟩
            · rw [HM.out] at ht ⊢
              rw [List.length_append, HS.out] at ht
              simp only [List.length_cons, List.length_nil] at ht
              by_cases e : t = s
              · subst e
                rw [HX.out, World.cell?_setCell_same (wr.drewN m2) _ _ hy]
                congr 2
                rw [List.getD, List.getElem?_append_right (by rw [HS.out]; exact Nat.le_refl _), HS.out, Nat.sub_self]; rfl
              · rw [World.cell?_setCell_other _ _ _ _ (fun h => e (by injection h with _ h2; omega))]
                rw [List.getD, List.getElem?_append_left (by rw [HS.out]; omega)]
                exact HLOW.out t (by rw [HS.out]; omega)
            · rw [World.cell?_setCell_other _ _ _ _ (fun h => by injection h with _ h2; omega)]
              exact HHIGH.out t (by omega) h2
            · by_cases e : t = s
              · subst e; exact ⟨_, World.cell?_setCell_same _ _ _ hy⟩
              · rw [World.cell?_setCell_other _ _ _ _ (fun h => e (by injection h with _ h2; omega))]; exact HANY.out t ht
            · rw [World.frozen?_setCell]; exact HFR.out t ht
          case measure => simp [intOf]; omega
      · have E := Lib.hid (show j = zs.length by omega)
        have hslt : s < zs.length := by rw [← E.out]; exact hlt1
        have hsc : s ≤ c := by omega
        have hcl : ∀ ty, (Builtin.clear_ #[24] ty #[.slice (some ⟨B, s, none⟩) (zs.length - s) (c - s)]).run Try.prog wr = .ok (.tuple #[]) (wr.setCells B s (List.replicate (zs.length - s) (.int .i64 0))) := fun ty =>
          Lib.run_clear_slice wr _ 3 ty _ (by kernel_rfl) int_zero rfl rfl B s _ _ (by omega) (fun t ht => by obtain ⟨x, hx⟩ := HANY.out (s + t) (by omega); rw [hx]; rfl) (fun t ht => HFR.out (s + t) (by omega))
        have hsz : (stay q zs zs.length).length = s := by have h := HS.out; rw [E.out] at h; exact h
        have HSZ := Lib.hid hsz
        have HLE := Lib.hid hslt
        clear hsz
        go_wp2
        go_ret
        rw [← HST.out, HSZ.out]
        refine ⟨rfl, fun t ht => ?_, but_setCells _ _ _ HG.out⟩
        rw [HSZ.out] at ht
        refine ⟨rfl, by have h := (but_setCells (List.replicate (zs.length - s) (Value.int .i64 0)) s _ HG.out).size; omega, ?_, ?_⟩
        · rw [World.cell?_setCells_out B _ _ _ _ (fun _ _ => Or.inl ht)]
          have h := HLOW.out t (by rw [HS.out]; exact ht)
          rw [E.out] at h
          exact h
        · rw [World.frozen?_setCells]; exact HFR.out t (by rw [E.out] at hlt1; omega)

set_option maxRecDepth 100000 in
set_option maxHeartbeats 4000000 in
theorem deleteFunc_nil (g : Nat) (lb : Array Value) (a : Option Addr) (c : Nat) (w : World) (eg : ∀ args w, (callFunc g args).run Try.prog w = .ok (.enter g args) w) :
    Calls Try.prog 98 #[.slice a 0 c, .func (.func g) #[] lb] w fun e w' => e = .returned (.slice a 0 c) ∧ Below w.heap.size w w' := by
  have hix := indexFunc_any g lb (fun _ => false) a c [] w eg (fun W j hj => absurd hj (Nat.not_lt_zero _)) (by simp) (Ints.nil w a)
  have HIX := Lib.hid hix
  clear hix eg
  go_enter Try.func98, Try.ntmps98
  go_wp2_with fail
  refine HIX.out.mono ?_
  rintro e w1 ⟨k, rfl, h1, _, hk, m, rfl⟩
  have h2 : k = -1 := by
    have : decide (0 ≤ k) = false := hk
    rw [decide_eq_false_iff_not] at this
    omega
  subst h2
  clear hk
  go_wp2
  go_ret
  exact ⟨rfl, Mem.below_drewN w m⟩

/-! ### impl.FacesOfSize -/

theorem sized_stay (k : Int) (L : List Int) (h : allOk L = true) : (L.filter fun x => !(sizeZ x != k)) = sized k L := by
  unfold sized
  apply List.filter_congr
  intro x hx
  unfold allOk at h
  have := List.all_eq_true.1 h x hx
  obtain ⟨s, rfl, hs⟩ := okZ_cast x this
  rw [sizeZ_nat s hs]
  simp [bne]

set_option maxRecDepth 100000 in
set_option maxHeartbeats 2000000 in
theorem sized1_asks (k : Int) (b B : Nat) (w : World) (hb : b < w.heap.size) (hne : b ≠ B) (hc : w.cell? ⟨b, 0, none⟩ = some (.int .i64 k)) :
    AsksBut 100 #[.pointer (some ⟨b, 0, none⟩)] (fun x => sizeZ x != k) B w := by
  intro W x hB
  have d1 : W.cell? ⟨b, 0, none⟩ = some (.int .i64 k) := by
    rw [World.cell?_of_block (w := w) (w' := W) (a := ⟨b, 0, none⟩) (hB.block b hb (by simpa using hne))]; exact hc
  show Calls Try.prog 100 #[.int .i64 x, .pointer (some ⟨b, 0, none⟩)] W _
  clear hc hB hb hne
  go_enter Try.func100, Try.ntmps100
  go_wp2_with fail
  go_quiet ((go_at_call 101; exact Calls.quiet_of_same ((implSizeOf_any x _).mono fun _ _ ⟨he, hw⟩ => ⟨he, hw.symm⟩)))
  go_wp2
  go_ret
  exact ⟨rfl, _, rfl⟩

set_option maxRecDepth 100000 in
set_option maxHeartbeats 4000000 in
theorem implSized_any (n : Int) (a : Option Addr) (c : Nat) (xs : List Int) (hcap : xs.length ≤ c) (hlen : xs.length ≤ 1099511627776) (q : Int) (w : World) (h : Ints w a xs) :
    Calls Try.prog 55 #[cx n (.slice a xs.length c), .int .i64 q] w fun e w' => ∃ v, e = .returned v ∧ HasInts w' w.heap.size v (sized q (faces n xs)) ∧ Below w.heap.size w w' := by
  have hb0 : Below w.heap.size w ((w.alloc (Obj.cells #[Value.int IntKind.i64 n, Value.slice a xs.length c] 26)).alloc (Obj.cells #[Value.int IntKind.i64 q] 3)) := ((Below.refl _ _).alloc (Nat.le_refl _) _).alloc (by simp) _
  have htwo := (Two.new w (.int .i64 n) (.slice a xs.length c) 26).alloc (Obj.cells #[Value.int IntKind.i64 q] 3)
  have hbox : ((w.alloc (Obj.cells #[Value.int IntKind.i64 n, Value.slice a xs.length c] 26)).alloc (Obj.cells #[Value.int IntKind.i64 q] 3)).cell? ⟨w.heap.size + 1, 0, none⟩ = some (.int .i64 q) := by simp
  have H := Lib.hid (h.keeps hb0)
  have HB0 := Lib.hid hb0
  have HT := Lib.hid htwo
  have HX := Lib.hid hbox
  clear h hb0 htwo hbox
  have hle := faces_le n xs
  have HOK := Lib.hid (faces_ok n xs)
  obtain ⟨L, hL⟩ : ∃ L, faces n xs = L := ⟨_, rfl⟩
  have HLL := Lib.hid hL
  rw [hL] at hle HOK
  clear hL
  have eg : ∀ args w, (callFunc 100 args).run Try.prog w = .ok (.enter 100 args) w := enters_of Try.func100 (by kernel_rfl) rfl
  have EG := Lib.hid eg
  clear eg
  go_enter Try.func55, Try.ntmps55
  obtain ⟨t0, t1, t2, _, _⟩ := HT.out
  go_wp2_with fail
  refine (implFaces_any n _ _ xs hcap hlen _ H.out).mono ?_
  rw [HLL.out]
  rintro e w1 ⟨v1, rfl, hO1, hb1⟩
  obtain ⟨a1, d1, g1, rfl, hcd, hg1, hr1, hd⟩ := OwnInts.ata hO1 hb1.size
  have HB1 : Hid (Below w.heap.size w w1) := HB0.out.trans (hb1.mono HB0.out.size)
  have HR1 := Lib.hid hr1
  have hx1 : w1.cell? ⟨w.heap.size + 1, 0, none⟩ = some (.int .i64 q) := (hb1.cell (p := ⟨w.heap.size + 1, 0, none⟩) (by simp)).trans HX.out
  have HX1 := Lib.hid hx1
  have hz1 := hb1.size
  simp only [World.size_alloc] at hg1 hz1
  clear hO1 hr1 hb1 hx1 t0 t1 t2
  have HF : Hid ((L.filter fun x => !(sizeZ x != q)) = sized q L) := by
    have : (L.filter fun x => !(sizeZ x != q)) = sized q L := sized_stay q L HOK.out
    exact this
  by_cases h0 : L.length = 0
  · have hF : sized q L = [] := by rw [List.eq_nil_of_length_eq_zero h0]; rfl
    have HN := Lib.hid hF
    clear hF
    go_wp2_with fail
    refine (deleteFunc_nil 100 _ a1 d1 w1 EG.out).mono ?_
    rintro e w2 ⟨rfl, hb2⟩
    have HB2 : Hid (Below w.heap.size w w2) := HB1.out.trans (hb2.mono HB1.out.size)
    clear hb2
    go_wp2
    go_ret
    exact ⟨_, rfl, by rw [HLL.out, HN.out]; exact ⟨a1, d1, w2.heap.size + 5, rfl, Nat.zero_le _, by have := HB2.out.size; omega, fun j hj => absurd hj (Nat.not_lt_zero _), Or.inr (Nat.le_refl _)⟩, HB2.out⟩
  · obtain ⟨rfl, hgl, _, _⟩ := HR1.out 0 (by omega)
    go_wp2_with fail
    refine (deleteFunc_any 100 _ (fun x => sizeZ x != q) g1 d1 L _ EG.out (sized1_asks q (w.heap.size + 1) g1 w1 (by omega) (by omega) HX1.out) hcd (by omega) HR1.out).mono ?_
    rw [HF.out]
    rintro e w2 ⟨rfl, hr2, hg2⟩
    have HR2 := Lib.hid hr2
    have HG2 := Lib.hid hg2
    clear hr2 hg2
    go_wp2
    go_ret
    have hsl := sized_length q L
    exact ⟨_, rfl, by rw [HLL.out]; exact ⟨_, d1, g1, rfl, by omega, by omega, HR2.out, Or.inl (by have := HG2.out.size; omega)⟩, HB1.out.trans (Mem.below_of_but HG2.out (by omega) (by omega))⟩

end Go.Proofs.Ythjgpbcdcgagfaa
