/-
  WALK of chapter 13 (spec): the matrix of a border.
-/
import Derived.Test.YtenpcjmhlnalcaaGreatJg3
import Derived.Test.YtenpcjmhlnalcaaGreatJg22
import Derived.Test.YtenpcjmhlnalcaaGreatJg9
import Derived.Deep.RegionLaw
import Derived.Deep.AppendLies
namespace Go.Proofs.YtenpcjmhlnalcaaGreat
open Go.RowKit
open Sets

/-- The numbers of the faces L in the borders of the faces H. -/
def borR (t : Int) (H : List Int) : List Int := H.map fun s => Hom.sgn t.toNat s.toNat
def borM (L H : List Int) : Lin.Mat := L.map fun t => borR t H
theorem take_snocB {α : Type} (l : List α) (k : Nat) (h : k < l.length) : l.take (k + 1) = l.take k ++ [l[k]] := by rw [List.take_append_getElem h]
theorem borR_next (t : Int) (H : List Int) (k : Nat) (h : k < H.length) : borR t (H.take (k + 1)) = borR t (H.take k) ++ [Hom.sgn t.toNat (H.getD k 0).toNat] := by
  unfold borR
  rw [take_snocB H k h, List.map_append]
  simp [List.getD, List.getElem?_eq_getElem h]
theorem borM_next (L H : List Int) (k : Nat) (h : k < L.length) : borM (L.take (k + 1)) H = borM (L.take k) H ++ [borR (L.getD k 0) H] := by
  unfold borM
  rw [take_snocB L k h, List.map_append]
  simp [List.getD, List.getElem?_eq_getElem h]
theorem borR_length (t : Int) (H : List Int) : (borR t H).length = H.length := by simp [borR]
theorem borM_length (L H : List Int) : (borM L H).length = L.length := by simp [borM]
theorem sized_at (n : Int) (xs : List Int) (q : Int) (j : Nat) (h : j < (sized q (faces n xs)).length) : ∃ s : Nat, (sized q (faces n xs)).getD j 0 = (s : Int) ∧ s < 64 := by
  have hm : (sized q (faces n xs)).getD j 0 ∈ faces n xs := by
    simp only [List.getD, List.getElem?_eq_getElem h, Option.getD_some]
    exact (List.mem_filter.1 (List.getElem_mem h)).1
  obtain ⟨i, hi, e⟩ := List.getElem_of_mem hm
  obtain ⟨s, h1, h2⟩ := faces_at n xs i hi
  exact ⟨s, by rw [← h1, ← e]; simp [List.getD, List.getElem?_eq_getElem hi], h2⟩
theorem sized_le (n : Int) (xs : List Int) (q : Int) : (sized q (faces n xs)).length ≤ 64 := Nat.le_trans (sized_length _ _) (faces_le n xs)

set_option maxRecDepth 100000 in
set_option maxHeartbeats 4000000 in
theorem l13Border_any (n : Int) (a : Option Addr) (c : Nat) (xs : List Int) (hlen : xs.length ≤ 1099511627776) (q : Int) (hq0 : -1000 ≤ q) (hq1 : q ≤ 1000) (w : World) (h : Ints w a xs) :
    Calls Tryz.prog 36 #[cx n (.slice a xs.length c), .int .i64 q] w fun e w' => ∃ v R, e = .returned v ∧ OwnMx w' w.heap.size v R (borM (sized (q - 1) (faces n xs)) (sized q (faces n xs))) ∧ Below w.heap.size w w' := by
  obtain ⟨i0, hi, hz0, hz1, hz2⟩ := info_parts info_int
  obtain ⟨i9, hi9, hz90, hz91, hz92⟩ := info_parts info_row
  have hb0 : Below w.heap.size w ((w.alloc (Obj.cells #[Value.int IntKind.i64 n, Value.slice a xs.length c] 26)).alloc (.cells #[] 24)) := ((Below.refl _ _).alloc (Nat.le_refl _) _).alloc (by simp) _
  have hO0 := OwnMx.lit (w.alloc (Obj.cells #[Value.int IntKind.i64 n, Value.slice a xs.length c] 26)) w.heap.size (by simp)
  have htwo := (Two.new w (.int .i64 n) (.slice a xs.length c) 26).alloc (.cells #[] 24)
  have H := Lib.hid (h.keeps hb0)
  have HB0 := Lib.hid hb0
  have HO0 := Lib.hid hO0
  have HT := Lib.hid htwo
  clear h hb0 hO0 htwo
  have hleL := sized_le n xs (q - 1)
  have hleH := sized_le n xs q
  have HFL := Lib.hid (sized_at n xs (q - 1))
  have HFH := Lib.hid (sized_at n xs q)
  obtain ⟨L, hL⟩ : ∃ L, sized (q - 1) (faces n xs) = L := ⟨_, rfl⟩
  obtain ⟨G, hG⟩ : ∃ G, sized q (faces n xs) = G := ⟨_, rfl⟩
  have HLL := Lib.hid hL
  have HGG := Lib.hid hG
  rw [hL] at hleL HFL
  rw [hG] at hleH HFH
  rw [hL, hG]
  clear hL hG
  go_enter Tryz.func36, Tryz.ntmps36
  obtain ⟨t0, t1, t2, _, _⟩ := HT.out
  go_wp2_with fail
  refine (specSized_any n _ _ xs hlen (q - 1) _ H.out).mono ?_
  rw [HLL.out]
  rintro e w1 ⟨v1, rfl, hO1, hb1⟩
  obtain ⟨al, dl, gl, rfl, hgl, hrl⟩ := hO1.at
  have HB1 : Hid (Below w.heap.size w w1) := HB0.out.trans (hb1.mono HB0.out.size)
  have HRL1 := Lib.hid hrl
  have HO1 := Lib.hid (OwnMx.keeps HO0.out hb1)
  have HT1 := Lib.hid (HT.out.keeps hb1)
  have H1 := Lib.hid (H.out.keeps hb1)
  have hz1w := HB1.out.size
  rw [World.size_alloc] at HO1
  simp only [World.size_alloc] at hgl
  clear hO1 hrl hb1 t0 t1 t2
  obtain ⟨t0, t1, t2, _, _⟩ := HT1.out
  go_wp2_with fail
  refine (specSized_any n _ _ xs hlen q _ H1.out).mono ?_
  rw [HGG.out]
  rintro e w2 ⟨v2, rfl, hO2, hb2⟩
  obtain ⟨ah, dh, gh, rfl, hgh, hrh, hgh2⟩ : ∃ ah dh gh, v2 = .slice ah G.length dh ∧ gh ≠ w.heap.size + 1 ∧ IntsAt w2 gh ah G ∧ gh < w2.heap.size := by
    obtain ⟨ah, dh, gh, hv, hgh, hrh⟩ := hO2.at
    have hw1 : w.heap.size + 1 < w1.heap.size := (World.ownsRow.lt HO1.out.own (w.heap.size + 1) rfl).2
    by_cases h0 : 0 < G.length
    · exact ⟨ah, dh, gh, hv, by omega, hrh, (hrh 0 h0).2.1⟩
    · exact ⟨ah, dh, w.heap.size, hv, by omega, fun j hj => absurd hj (by omega), by have := hb2.size; omega⟩
  have HB2 : Hid (Below w.heap.size w w2) := HB1.out.trans (hb2.mono hz1w)
  have HRL2 := Lib.hid (HRL1.out.keeps hb2)
  have HRH2 := Lib.hid hrh
  have HO2 := Lib.hid (OwnMx.keeps HO1.out hb2)
  have hz2w := HB2.out.size
  have hz12 := hb2.size
  have hm1 : w.heap.size + 1 < w1.heap.size := by
    have := HO1.out
    obtain ⟨_, h2⟩ := World.ownsRow.lt this.own (w.heap.size + 1) rfl
    exact h2
  clear hO2 hrh hb2 t0 t1 t2 HO1 HRL1 HT1 H1
  have hne1 : (Value.slice (some ⟨w.heap.size + 1, 0, none⟩) 0 0).ownBlock ≠ some gl := by simp only [Value.ownBlock, ne_eq, Option.some.injEq]; omega
  have hne2 : (Value.slice (some ⟨w.heap.size + 1, 0, none⟩) 0 0).ownBlock ≠ some gh := by simp only [Value.ownBlock, ne_eq, Option.some.injEq]; omega
  go_wp2
  go_loopw [5, 8] (fun v i wr => ∃ (k : Nat) (R : List (Nat × Nat)), k ≤ L.length ∧ i = .int .i64 (k : Int) ∧ OwnMx wr w.heap.size v R (borM (L.take k) G) ∧ Below w.heap.size w wr ∧ IntsAt wr gl al L ∧ IntsAt wr gh ah G ∧ v.ownBlock ≠ some gl ∧ v.ownBlock ≠ some gh ∧ w2.heap.size ≤ wr.heap.size) (fun _ i _ => L.length - (intOf i).toNat)
  case atStart => exact ⟨0, [], Nat.zero_le _, rfl, HO2.out, HB2.out, HRL2.out, HRH2.out, hne1, hne2, Nat.le_refl _⟩
  case round =>
    clear hne1 hne2 HO2 HB2 HRL2 HRH2
    obtain ⟨k, R, hk, rfl, hO, hB, hRL, hRH, hnl, hnh, hzw⟩ := hrel
    have hghw : gh < wr.heap.size := by omega
    have HO := Lib.hid hO
    have HBO := Lib.hid hB
    have HRL := Lib.hid hRL
    have HRH := Lib.hid hRH
    have HNL := Lib.hid hnl
    have HNH := Lib.hid hnh
    have hszo := hB.size
    obtain ⟨wo, rfl⟩ : ∃ wo : World, wo = wr := ⟨_, rfl⟩
    clear hO hRL hRH hnl hnh hB
    by_cases hlt : k < L.length
    · obtain ⟨t, ht, ht64⟩ := HFL.out k hlt
      have HTT := Lib.hid ht
      have hltk : decide ((k : Int) < (L.length : Int)) = true := by simpa using hlt
      have hstart := Lib.hid (OwnInts.lit wo wo.heap.size [] (Nat.le_refl _) (by simp))
      clear ht
      go_wp2
      go_loopw [9, 10] (fun v i wr => ∃ (k2 gg cc : Nat), k2 ≤ G.length ∧ i = .int .i64 (k2 : Int) ∧ v = .slice (some ⟨gg, 0, none⟩) k2 cc ∧ OwnInts wr wo.heap.size v (borR (t : Int) (G.take k2)) ∧ Below wo.heap.size wo wr) (fun _ i _ => G.length - (intOf i).toNat)
      case atStart => exact ⟨0, wo.heap.size, 0, Nat.zero_le _, rfl, rfl, hstart.out, (Below.refl _ _).alloc (Nat.le_refl _) _⟩
      case round =>
        clear hstart
        obtain ⟨k2, gg, cc, hk2, rfl, rfl, hO3, hB3⟩ := hrel
        have HO3 := Lib.hid hO3
        unfold OwnInts at HO3
        have hsz := hB3.size
        have hl := borR_length (t : Int) (G.take k2)
        rw [List.length_take, Nat.min_eq_left hk2] at hl
        rw [hl] at HO3
        have HL := Lib.hid hl
        clear hO3 hl
        by_cases hlk : k2 < G.length
        · obtain ⟨s, hs, hs64⟩ := HFH.out k2 hlk
          obtain ⟨ea, hg1, hc1, _⟩ := HRL.out.keeps hB3 k hlt
          obtain ⟨eb, hg2, hc2, _⟩ := HRH.out.keeps hB3 k2 hlk
          rw [HTT.out] at hc1
          rw [hs] at hc2
          have HN := Lib.hid (borR_next (t : Int) G k2 hlk)
          rw [hs] at HN
          obtain rfl := ea
          obtain rfl := eb
          obtain ⟨z, hz⟩ : ∃ z, Hom.sgn t s = z := ⟨_, rfl⟩
          have HZ := Lib.hid hz
          have HSG := Lib.hid (fun W => l13Sign_any t s ht64 hs64 W)
          rw [hz] at HSG
          rw [show Hom.sgn (t : Int).toNat (s : Int).toNat = z from hz] at HN
          clear hs hz
          have hbg : ∀ g, (Value.slice (some ⟨gg, 0, none⟩) k2 cc).ownBlock = some g → wo.heap.size ≤ g := fun g hg => (HO3.out.lt g hg).1
          have HBG := Lib.hid hbg
          clear hbg
          go_wp2_with fail
          go_region_law (first | (go_simp; go_at_call 55; refine (HSG.out _).mono ?_; rintro e w' ⟨rfl, rfl⟩) | (refine step_append_lies _ (by rfl) _ _ _ (by rfl) wo.heap.size 3 i0 (.int .i64 0) 1 8 Tryz.underlying24 hi hz0 hz1 hz2 rfl (by omega) (.slice (some ⟨gg, 0, none⟩) k2 cc) k2 (List.map (Value.int IntKind.i64) (borR (t : Int) (G.take k2))) (by rfl) ((HO3.out.alloc _).drew) ⟨wr.heap.size, 0, none⟩ 1 1 [.int .i64 z] (by rfl) (by rfl) (World.news_of_block (cs := #[.int .i64 z]) (t := 3) (fr := (0, 0)) (heap_alloc_new wr _)) (by simp [Value.oneCell']) (by omega) (by unfold maxLen; omega) (by omega) (by simp; omega) (wr.heap.size + 1) (by simp) ?_; intro gg2 cap w1 hown1 hgrow hat hlt3) | fail "arm")
          all_goals
            have hB4 : Below wo.heap.size wo w1 := ((hB3.alloc hsz _).drew).grown hgrow (by simp; omega) HBG.out
            have hO4 : OwnInts w1 wo.heap.size (.slice (some ⟨gg2, 0, none⟩) (k2 + 1) cap) (borR (t : Int) (G.take (k2 + 1))) := by
              unfold OwnInts
              rw [HN.out, List.length_append, List.map_append, HL.out]
              exact hown1
            have HO4 := Lib.hid hO4
            clear hown1 hgrow hat hO4
            go_wp2
            refine ⟨⟨k2 + 1, gg2, cap, by omega, by go_num, rfl, HO4.out, hB4⟩, ?_⟩
            simp [intOf]; omega
        · have hE : k2 = G.length := by omega
          have HE := Lib.hid hE
          have hOI : OwnInts wr wo.heap.size (.slice (some ⟨gg, 0, none⟩) k2 cc) (borR (t : Int) G) := by
            have h := HO3.out
            rw [hE, List.take_length] at h
            unfold OwnInts
            rw [borR_length, hE]; exact h
          obtain ⟨hg1, hg2, hIr, -⟩ := hOI.known
          have HIR := Lib.hid hIr
          have HM := Lib.hid (HO.out.keeps hB3)
          have hzl := borM_length (L.take k) G
          rw [List.length_take, Nat.min_eq_left hk] at hzl
          have HOW := Lib.hid HM.out.own
          rw [hzl] at HOW
          have HZL := Lib.hid hzl
          have hnn : u5.ownBlock ≠ some gg := fun e => by have := (HO.out.own.lt gg e).2; omega
          have HNN := Lib.hid hnn
          have hnr : Hid (gg ∉ blks R) := fun hm => by have := (HO.out.old hm).2; omega
          have HN := Lib.hid ((borM_next L G k hlt).trans (by rw [HTT.out] : _ = borM (L.take k) G ++ [borR (t : Int) G]))
          have hgl3 : gl < wo.heap.size := (HRL.out k hlt).2.1
          clear hOI hIr HO3 hzl hnn hE
          go_wp2_with (at_builtin; refine wpList_append_own_at _ rfl _ _ 38 rfl w.heap.size 24 i9 (.slice none 0 0) 1 24 Tryz.underlying38 hi9 hz90 hz91 hz92 rfl (by decide) _ _ _ rfl (HOW.out.alloc _) ⟨wr.heap.size, 0, none⟩ 1 1 [.slice (some ⟨gg, 0, none⟩) k2 cc] rfl rfl ?c1 ?c2 ?c3 ?c4 ?c5 ?_)
          case c1 => intro j u hj; exact Mem.cell_new wr _ _ j u hj
          case c2 => intro u hu; simp at hu; subst hu; rfl
          case c3 => unfold maxLen; omega
          case c4 => omega
          case c5 => simp; omega
          intro v' w3 hown1 hgrow _ hob
          have hBA : Below wr.heap.size wr (wr.alloc (.cells #[.slice (some ⟨gg, 0, none⟩) k2 cc] 24)) := (Below.refl _ _).alloc (Nat.le_refl _) _
          have hB5 : Below w.heap.size w w3 := ((HBO.out.trans (hB3.mono hszo)).trans (hBA.mono (by omega))).grown hgrow (by simp; omega) (fun g hg => (HO.out.own.lt g hg).1)
          have hRL5 := IntsAt.away ((HRL.out.keeps hB3).keeps hBA) hgrow HNL.out
          have hRH5 := IntsAt.away ((HRH.out.keeps hB3).keeps hBA) hgrow HNH.out
          have hO5 : OwnMx w3 w.heap.size v' (R ++ [(gg, cc)]) (borM (L.take (k + 1)) G) := by
            rw [HN.out]
            refine OwnMx.next (HM.out.keeps hBA) (by omega) (by simp; omega) (HIR.out.keeps hBA) hnr.out HNN.out ?_ hgrow ?_
            · rw [HZL.out, borR_length, ← HE.out]; exact hown1
            · rcases hob with e | e
              · exact .inl e
              · exact .inr ⟨_, e, by rw [World.size_alloc]; exact Nat.le_refl _⟩
          have hn5 : ∀ g, g < wo.heap.size → u5.ownBlock ≠ some g → v'.ownBlock ≠ some g := fun g hg hne => by
            rcases hob with e | e
            · rw [e]; exact hne
            · rw [e]; simp; omega
          have hz5 := hgrow.size
          have HO5 := Lib.hid hO5
          have H5L := Lib.hid hRL5
          have H5H := Lib.hid hRH5
          have HN5 := Lib.hid hn5
          simp only [World.size_alloc] at hz5
          clear hown1 hgrow hob hO5 hRL5 hRH5 hn5
          go_wp2
          go_roundw
          case rel => exact ⟨k + 1, R ++ [(gg, cc)], by omega, by go_num, HO5.out, hB5, H5L.out, H5H.out, HN5.out gl hgl3 HNL.out, HN5.out gh (by omega) HNH.out, by omega⟩
          case measure => simp [intOf]; omega
    · have E := Lib.hid (show k = L.length by omega)
      go_wp2
      go_ret
      refine ⟨u5, R, rfl, ?_, HBO.out⟩
      have h := HO.out
      rw [E.out, List.take_length] at h
      exact h

end Go.Proofs.YtenpcjmhlnalcaaGreat
