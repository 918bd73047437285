/-
  TEXTS of one claim, put together: WBor, WHol, WHol2, WHol3.
-/
import Derived.Test.YtbkkdgmiokdbmaaGreatJg19
import Derived.Test.YtbkkdgmiokdbmaaGreatJg41
import Derived.Test.YtbkkdgmiokdbmaaGreatJg16
import Derived.Deep.RegionLaw
import Derived.Deep.AppendLies
import Derived.Test.YtbkkdgmiokdbmaaGreatJg30
/-! WALK of chapter 13 (spec): the matrix of a border. -/

namespace Go.Proofs.YtbkkdgmiokdbmaaGreat
open Go.RowKit
open Sets

/-- The numbers of the faces L in the borders of the faces H. -/
def borR (t : Int) (H : List Int) : List Int := H.map fun s => Hom.sgn t.toNat s.toNat
def borM (L H : List Int) : Lin.Mat := L.map fun t => borR t H
theorem take_snocB {α : Type} (l : List α) (k : Nat) (h : k < l.length) : l.take (k + 1) = l.take k ++ [l[k]] := by rw [List.take_append_getElem h]
theorem borR_next (t : Int) (H : List Int) (k : Nat) (h : k < H.length) : borR t (H.take (k + 1)) = borR t (H.take k) ++ [Hom.sgn t.toNat (H.getD k 0).toNat] := by
  unfold borR
  rw [take_snocB H k h, List.map_append]
  simp [List.getD, List.getElem?_eq_getElem h]
theorem borM_next (L H : List Int) (k : Nat) (h : k < L.length) : borM (L.take (k + 1)) H = borM (L.take k) H ++ [borR (L.getD k 0) H] := by
  unfold borM
  rw [take_snocB L k h, List.map_append]
  simp [List.getD, List.getElem?_eq_getElem h]
theorem borR_length (t : Int) (H : List Int) : (borR t H).length = H.length := by simp [borR]
theorem borM_length (L H : List Int) : (borM L H).length = L.length := by simp [borM]
theorem sized_at (n : Int) (xs : List Int) (q : Int) (j : Nat) (h : j < (sized q (faces n xs)).length) : ∃ s : Nat, (sized q (faces n xs)).getD j 0 = (s : Int) ∧ s < 64 := by
  have hm : (sized q (faces n xs)).getD j 0 ∈ faces n xs := by
    simp only [List.getD, List.getElem?_eq_getElem h, Option.getD_some]
    exact (List.mem_filter.1 (List.getElem_mem h)).1
  obtain ⟨i, hi, e⟩ := List.getElem_of_mem hm
  obtain ⟨s, h1, h2⟩ := faces_at n xs i hi
  exact ⟨s, by rw [← h1, ← e]; simp [List.getD, List.getElem?_eq_getElem hi], h2⟩
theorem sized_le (n : Int) (xs : List Int) (q : Int) : (sized q (faces n xs)).length ≤ 64 := Nat.le_trans (sized_length _ _) (faces_le n xs)

set_option maxRecDepth 100000 in
set_option maxHeartbeats 4000000 in
theorem l13Border_any (n : Int) (a : Option Addr) (c : Nat) (xs : List Int) (hlen : xs.length ≤ 1099511627776) (q : Int) (hq0 : -1000 ≤ q) (hq1 : q ≤ 1000) (w : World) (h : Ints w a xs) :
    Calls Tryz.prog 62 #[cx n (.slice a xs.length c), .int .i64 q] w fun e w' => ∃ v R, e = .returned v ∧ OwnMx w' w.heap.size v R (borM (sized (q - 1) (faces n xs)) (sized q (faces n xs))) ∧ Below w.heap.size w w' := by
  obtain ⟨i0, hi, hz0, hz1, hz2⟩ := info_parts info_int
  obtain ⟨i9, hi9, hz90, hz91, hz92⟩ := info_parts info_row
  have hb0 : Below w.heap.size w ((w.alloc (Obj.cells #[Value.int IntKind.i64 n, Value.slice a xs.length c] 26)).alloc (.cells #[] 24)) := ((Below.refl _ _).alloc (Nat.le_refl _) _).alloc (by simp) _
  have hO0 := OwnMx.lit (w.alloc (Obj.cells #[Value.int IntKind.i64 n, Value.slice a xs.length c] 26)) w.heap.size (by simp)
  have htwo := (Two.new w (.int .i64 n) (.slice a xs.length c) 26).alloc (.cells #[] 24)
  have H := Lib.hid (h.keeps hb0)
  have HB0 := Lib.hid hb0
  have HO0 := Lib.hid hO0
  have HT := Lib.hid htwo
  clear h hb0 hO0 htwo
  have hleL := sized_le n xs (q - 1)
  have hleH := sized_le n xs q
  have HFL := Lib.hid (sized_at n xs (q - 1))
  have HFH := Lib.hid (sized_at n xs q)
  obtain ⟨L, hL⟩ : ∃ L, sized (q - 1) (faces n xs) = L := ⟨_, rfl⟩
  obtain ⟨G, hG⟩ : ∃ G, sized q (faces n xs) = G := ⟨_, rfl⟩
  have HLL := Lib.hid hL
  have HGG := Lib.hid hG
  rw [hL] at hleL HFL
  rw [hG] at hleH HFH
  rw [hL, hG]
  clear hL hG
  go_enter Tryz.func62, Tryz.ntmps62
  obtain ⟨t0, t1, t2, _, _⟩ := HT.out
  go_wp2_with fail
  refine (specSized_any n _ _ xs hlen (q - 1) _ H.out).mono ?_
  rw [HLL.out]
  rintro e w1 ⟨v1, rfl, hO1, hb1⟩
  obtain ⟨al, dl, gl, rfl, hgl, hrl⟩ := hO1.at
  have HB1 : Hid (Below w.heap.size w w1) := HB0.out.trans (hb1.mono HB0.out.size)
  have HRL1 := Lib.hid hrl
  have HO1 := Lib.hid (OwnMx.keeps HO0.out hb1)
  have HT1 := Lib.hid (HT.out.keeps hb1)
  have H1 := Lib.hid (H.out.keeps hb1)
  have hz1w := HB1.out.size
  rw [World.size_alloc] at HO1
  simp only [World.size_alloc] at hgl
  clear hO1 hrl hb1 t0 t1 t2
  obtain ⟨t0, t1, t2, _, _⟩ := HT1.out
  go_wp2_with fail
  refine (specSized_any n _ _ xs hlen q _ H1.out).mono ?_
  rw [HGG.out]
  rintro e w2 ⟨v2, rfl, hO2, hb2⟩
  obtain ⟨ah, dh, gh, rfl, hgh, hrh, hgh2⟩ : ∃ ah dh gh, v2 = .slice ah G.length dh ∧ gh ≠ w.heap.size + 1 ∧ IntsAt w2 gh ah G ∧ gh < w2.heap.size := by
    obtain ⟨ah, dh, gh, hv, hgh, hrh⟩ := hO2.at
    have hw1 : w.heap.size + 1 < w1.heap.size := (World.ownsRow.lt HO1.out.own (w.heap.size + 1) rfl).2
    by_cases h0 : 0 < G.length
    · exact ⟨ah, dh, gh, hv, by omega, hrh, (hrh 0 h0).2.1⟩
    · exact ⟨ah, dh, w.heap.size, hv, by omega, fun j hj => absurd hj (by omega), by have := hb2.size; omega⟩
  have HB2 : Hid (Below w.heap.size w w2) := HB1.out.trans (hb2.mono hz1w)
  have HRL2 := Lib.hid (HRL1.out.keeps hb2)
  have HRH2 := Lib.hid hrh
  have HO2 := Lib.hid (OwnMx.keeps HO1.out hb2)
  have hz2w := HB2.out.size
  have hz12 := hb2.size
  have hm1 : w.heap.size + 1 < w1.heap.size := by
    have := HO1.out
    obtain ⟨_, h2⟩ := World.ownsRow.lt this.own (w.heap.size + 1) rfl
    exact h2
  clear hO2 hrh hb2 t0 t1 t2 HO1 HRL1 HT1 H1
  have hne1 : (Value.slice (some ⟨w.heap.size + 1, 0, none⟩) 0 0).ownBlock ≠ some gl := by simp only [Value.ownBlock, ne_eq, Option.some.injEq]; omega
  have hne2 : (Value.slice (some ⟨w.heap.size + 1, 0, none⟩) 0 0).ownBlock ≠ some gh := by simp only [Value.ownBlock, ne_eq, Option.some.injEq]; omega
  go_wp2
  go_loopw [5, 8] (fun v i wr => ∃ (k : Nat) (R : List (Nat × Nat)), k ≤ L.length ∧ i = .int .i64 (k : Int) ∧ OwnMx wr w.heap.size v R (borM (L.take k) G) ∧ Below w.heap.size w wr ∧ IntsAt wr gl al L ∧ IntsAt wr gh ah G ∧ v.ownBlock ≠ some gl ∧ v.ownBlock ≠ some gh ∧ w2.heap.size ≤ wr.heap.size) (fun _ i _ => L.length - (intOf i).toNat)
  case atStart => exact ⟨0, [], Nat.zero_le _, rfl, HO2.out, HB2.out, HRL2.out, HRH2.out, hne1, hne2, Nat.le_refl _⟩
  case round =>
    clear hne1 hne2 HO2 HB2 HRL2 HRH2
    obtain ⟨k, R, hk, rfl, hO, hB, hRL, hRH, hnl, hnh, hzw⟩ := hrel
    have hghw : gh < wr.heap.size := by omega
    have HO := Lib.hid hO
    have HBO := Lib.hid hB
    have HRL := Lib.hid hRL
    have HRH := Lib.hid hRH
    have HNL := Lib.hid hnl
    have HNH := Lib.hid hnh
    have hszo := hB.size
    obtain ⟨wo, rfl⟩ : ∃ wo : World, wo = wr := ⟨_, rfl⟩
    clear hO hRL hRH hnl hnh hB
    by_cases hlt : k < L.length
    · obtain ⟨t, ht, ht64⟩ := HFL.out k hlt
      have HTT := Lib.hid ht
      have hltk : decide ((k : Int) < (L.length : Int)) = true := by simpa using hlt
      have hstart := Lib.hid (OwnInts.lit wo wo.heap.size [] (Nat.le_refl _) (by simp))
      clear ht
      go_wp2
      go_loopw [9, 10] (fun v i wr => ∃ (k2 gg cc : Nat), k2 ≤ G.length ∧ i = .int .i64 (k2 : Int) ∧ v = .slice (some ⟨gg, 0, none⟩) k2 cc ∧ OwnInts wr wo.heap.size v (borR (t : Int) (G.take k2)) ∧ Below wo.heap.size wo wr) (fun _ i _ => G.length - (intOf i).toNat)
      case atStart => exact ⟨0, wo.heap.size, 0, Nat.zero_le _, rfl, rfl, hstart.out, (Below.refl _ _).alloc (Nat.le_refl _) _⟩
      case round =>
        clear hstart
        obtain ⟨k2, gg, cc, hk2, rfl, rfl, hO3, hB3⟩ := hrel
        have HO3 := Lib.hid hO3
        unfold OwnInts at HO3
        have hsz := hB3.size
        have hl := borR_length (t : Int) (G.take k2)
        rw [List.length_take, Nat.min_eq_left hk2] at hl
        rw [hl] at HO3
        have HL := Lib.hid hl
        clear hO3 hl
        by_cases hlk : k2 < G.length
        · obtain ⟨s, hs, hs64⟩ := HFH.out k2 hlk
          obtain ⟨ea, hg1, hc1, _⟩ := HRL.out.keeps hB3 k hlt
          obtain ⟨eb, hg2, hc2, _⟩ := HRH.out.keeps hB3 k2 hlk
          rw [HTT.out] at hc1
          rw [hs] at hc2
          have HN := Lib.hid (borR_next (t : Int) G k2 hlk)
          rw [hs] at HN
          obtain rfl := ea
          obtain rfl := eb
          obtain ⟨z, hz⟩ : ∃ z, Hom.sgn t s = z := ⟨_, rfl⟩
          have HZ := Lib.hid hz
          have HSG := Lib.hid (fun W => l13Sign_any t s ht64 hs64 W)
          rw [hz] at HSG
          rw [show Hom.sgn (t : Int).toNat (s : Int).toNat = z from hz] at HN
          clear hs hz
          have hbg : ∀ g, (Value.slice (some ⟨gg, 0, none⟩) k2 cc).ownBlock = some g → wo.heap.size ≤ g := fun g hg => (HO3.out.lt g hg).1
          have HBG := Lib.hid hbg
          clear hbg
          go_wp2_with fail
          go_region_law (first | (go_simp; go_at_call 84; refine (HSG.out _).mono ?_; rintro e w' ⟨rfl, rfl⟩) | (refine step_append_lies _ (by rfl) _ _ _ (by rfl) wo.heap.size 3 i0 (.int .i64 0) 1 8 Tryz.underlying24 hi hz0 hz1 hz2 rfl (by omega) (.slice (some ⟨gg, 0, none⟩) k2 cc) k2 (List.map (Value.int IntKind.i64) (borR (t : Int) (G.take k2))) (by rfl) ((HO3.out.alloc _).drew) ⟨wr.heap.size, 0, none⟩ 1 1 [.int .i64 z] (by rfl) (by rfl) (World.news_of_block (cs := #[.int .i64 z]) (t := 3) (fr := (0, 0)) (heap_alloc_new wr _)) (by simp [Value.oneCell']) (by omega) (by unfold maxLen; omega) (by omega) (by simp; omega) (wr.heap.size + 1) (by simp) ?_; intro gg2 cap w1 hown1 hgrow hat hlt3) | fail "arm")
          all_goals
            have hB4 : Below wo.heap.size wo w1 := ((hB3.alloc hsz _).drew).grown hgrow (by simp; omega) HBG.out
            have hO4 : OwnInts w1 wo.heap.size (.slice (some ⟨gg2, 0, none⟩) (k2 + 1) cap) (borR (t : Int) (G.take (k2 + 1))) := by
              unfold OwnInts
              rw [HN.out, List.length_append, List.map_append, HL.out]
              exact hown1
            have HO4 := Lib.hid hO4
            clear hown1 hgrow hat hO4
            go_wp2
            refine ⟨⟨k2 + 1, gg2, cap, by omega, by go_num, rfl, HO4.out, hB4⟩, ?_⟩
            simp [intOf]; omega
        · have hE : k2 = G.length := by omega
          have HE := Lib.hid hE
          have hOI : OwnInts wr wo.heap.size (.slice (some ⟨gg, 0, none⟩) k2 cc) (borR (t : Int) G) := by
            have h := HO3.out
            rw [hE, List.take_length] at h
            unfold OwnInts
            rw [borR_length, hE]; exact h
          obtain ⟨hg1, hg2, hIr, -⟩ := hOI.known
          have HIR := Lib.hid hIr
          have HM := Lib.hid (HO.out.keeps hB3)
          have hzl := borM_length (L.take k) G
          rw [List.length_take, Nat.min_eq_left hk] at hzl
          have HOW := Lib.hid HM.out.own
          rw [hzl] at HOW
          have HZL := Lib.hid hzl
          have hnn : u5.ownBlock ≠ some gg := fun e => by have := (HO.out.own.lt gg e).2; omega
          have HNN := Lib.hid hnn
          have hnr : Hid (gg ∉ blks R) := fun hm => by have := (HO.out.old hm).2; omega
          have HN := Lib.hid ((borM_next L G k hlt).trans (by rw [HTT.out] : _ = borM (L.take k) G ++ [borR (t : Int) G]))
          have hgl3 : gl < wo.heap.size := (HRL.out k hlt).2.1
          clear hOI hIr HO3 hzl hnn hE
          go_wp2_with (at_builtin; refine wpList_append_own_at _ rfl _ _ 69 rfl w.heap.size 24 i9 (.slice none 0 0) 1 24 Tryz.underlying69 hi9 hz90 hz91 hz92 rfl (by decide) _ _ _ rfl (HOW.out.alloc _) ⟨wr.heap.size, 0, none⟩ 1 1 [.slice (some ⟨gg, 0, none⟩) k2 cc] rfl rfl ?c1 ?c2 ?c3 ?c4 ?c5 ?_)
          case c1 => intro j u hj; exact Mem.cell_new wr _ _ j u hj
          case c2 => intro u hu; simp at hu; subst hu; rfl
          case c3 => unfold maxLen; omega
          case c4 => omega
          case c5 => simp; omega
          intro v' w3 hown1 hgrow _ hob
          have hBA : Below wr.heap.size wr (wr.alloc (.cells #[.slice (some ⟨gg, 0, none⟩) k2 cc] 24)) := (Below.refl _ _).alloc (Nat.le_refl _) _
          have hB5 : Below w.heap.size w w3 := ((HBO.out.trans (hB3.mono hszo)).trans (hBA.mono (by omega))).grown hgrow (by simp; omega) (fun g hg => (HO.out.own.lt g hg).1)
          have hRL5 := IntsAt.away ((HRL.out.keeps hB3).keeps hBA) hgrow HNL.out
          have hRH5 := IntsAt.away ((HRH.out.keeps hB3).keeps hBA) hgrow HNH.out
          have hO5 : OwnMx w3 w.heap.size v' (R ++ [(gg, cc)]) (borM (L.take (k + 1)) G) := by
            rw [HN.out]
            refine OwnMx.next (HM.out.keeps hBA) (by omega) (by simp; omega) (HIR.out.keeps hBA) hnr.out HNN.out ?_ hgrow ?_
            · rw [HZL.out, borR_length, ← HE.out]; exact hown1
            · rcases hob with e | e
              · exact .inl e
              · exact .inr ⟨_, e, by rw [World.size_alloc]; exact Nat.le_refl _⟩
          have hn5 : ∀ g, g < wo.heap.size → u5.ownBlock ≠ some g → v'.ownBlock ≠ some g := fun g hg hne => by
            rcases hob with e | e
            · rw [e]; exact hne
            · rw [e]; simp; omega
          have hz5 := hgrow.size
          have HO5 := Lib.hid hO5
          have H5L := Lib.hid hRL5
          have H5H := Lib.hid hRH5
          have HN5 := Lib.hid hn5
          simp only [World.size_alloc] at hz5
          clear hown1 hgrow hob hO5 hRL5 hRH5 hn5
          go_wp2
          go_roundw
          case rel => exact ⟨k + 1, R ++ [(gg, cc)], by omega, by go_num, HO5.out, hB5, H5L.out, H5H.out, HN5.out gl hgl3 HNL.out, HN5.out gh (by omega) HNH.out, by omega⟩
          case measure => simp [intOf]; omega
    · have E := Lib.hid (show k = L.length by omega)
      go_wp2
      go_ret
      refine ⟨u5, R, rfl, ?_, HBO.out⟩
      have h := HO.out
      rw [E.out, List.take_length] at h
      exact h

end Go.Proofs.YtbkkdgmiokdbmaaGreat

/-! WALKS of chapter 14 (spec): the rank of a matrix, the list of holes. -/

namespace Go.Proofs.YtbkkdgmiokdbmaaGreat
open Go.RowKit
open Sets Lin

theorem rank_le_cols {p : Nat} (hp : p = 2 ∨ p = 3 ∨ p = 5) {M : Mat} {n : Nat} (hw : ∀ r ∈ M, r.length = n) : rank p M n ≤ n := by
  have HP : IsP p := by
    rcases hp with rfl | rfl | rfl
    · exact isP2
    · exact isP3
    · exact isP5
  exact (rank_card HP hw).2

theorem Two.grow2 {w w' : World} {b : Nat} {row : Option Nat} {x y : Value} (h : Two w b x y) (hg : w.grownBy w' row) (hne : row ≠ some b) : Two w' b x y := by
  obtain ⟨h1, h2, h3, h4, h5⟩ := h
  have hb := hg.block b h1 (Ne.symm hne)
  have := hg.size
  exact ⟨by omega, by rw [World.cell?_of_block (w := w) (w' := w') (a := ⟨b, 0, none⟩) hb]; exact h2, by rw [World.cell?_of_block (w := w) (w' := w') (a := ⟨b, 1, none⟩) hb]; exact h3,
    by rw [World.frozen?_of_block (w := w) (w' := w') (a := ⟨b, 0, none⟩) hb]; exact h4, by rw [World.frozen?_of_block (w := w) (w' := w') (a := ⟨b, 1, none⟩) hb]; exact h5⟩

set_option maxRecDepth 100000 in
set_option maxHeartbeats 2000000 in
theorem l13Rank_any (p : Nat) (hp : p = 2 ∨ p = 3 ∨ p = 5) (M : Mat) (n : Nat) (hw : ∀ r ∈ M, r.length = n) (hm : M.length ≤ 1000) (hn : n ≤ 1000) (gm : Nat) (am : Option Addr) (cm : Nat) (Rm : List (Nat × Nat)) (w : World) (h : Mx w gm am Rm M) :
    Calls Tryz.prog 61 #[.slice am M.length cm, .int .i64 (p : Int)] w fun e w' => e = .returned (.int .i64 (rank p M n : Nat)) ∧ Below w.heap.size w w' := by
  have HC := Lib.hid (l13Reduce_any p hp M n hw hm hn gm am cm Rm w h)
  clear h hw hp
  go_enter Tryz.func61, Tryz.ntmps61
  go_wp2_with fail
  refine HC.out.mono ?_
  rintro e w1 ⟨ao, co, go, R, u, rfl, hX, hG, hP, hB⟩
  obtain ⟨au, cu, gu, rfl, -, -, -, -⟩ := OwnInts.ata hP hB.size
  have hil : (ints (reduce p M n).2).length = (reduce p M n).2.length := by simp [ints]
  rw [hil]
  have HB := Lib.hid hB
  clear hX hG hP hB hil
  go_wp2
  go_ret
  exact ⟨rfl, HB.out⟩

def rkF (p : Nat) (F : List Int) (k : Nat) : Nat := rank p (borM (sized ((k : Int) - 1) F) (sized (k : Int) F)) (sized (k : Int) F).length
def loR (p : Nat) (F : List Int) (k : Nat) : Nat := if k = 0 then 0 else rkF p F k
def hiR (p : Nat) (F : List Int) (k : Nat) : Nat := if k + 1 < top F then rkF p F (k + 1) else 0
def holF (p : Nat) (F : List Int) (m : Nat) : List Int := (List.range m).map fun k => (cnt k F : Int) - (loR p F k : Int) - (hiR p F k : Int)
theorem holF_length (p : Nat) (F : List Int) (m : Nat) : (holF p F m).length = m := by simp [holF]
theorem holF_next (p : Nat) (F : List Int) (m : Nat) : holF p F (m + 1) = holF p F m ++ [(cnt m F : Int) - (loR p F m : Int) - (hiR p F m : Int)] := by
  unfold holF; rw [List.range_succ, List.map_append]; rfl
theorem rkF_succ (p : Nat) (F : List Int) (k : Nat) : rkF p F (k + 1) = rank p (borM (sized ((k : Int) + 1 - 1) F) (sized ((k : Int) + 1) F)) (sized ((k : Int) + 1) F).length := rfl
theorem borM_wide (L H : List Int) : ∀ r ∈ borM L H, r.length = H.length := fun r hr => by
  obtain ⟨t, _, rfl⟩ := List.mem_map.1 hr; exact borR_length t H

set_option maxRecDepth 100000 in
set_option maxHeartbeats 4000000 in
theorem holesMod_any (p : Nat) (hp : p = 2 ∨ p = 3 ∨ p = 5) (n : Int) (a : Option Addr) (c : Nat) (xs : List Int) (hlen : xs.length ≤ 1099511627776) (w : World) (h : Ints w a xs) :
    Calls Tryz.prog 25 #[cx n (.slice a xs.length c), .int .i64 (p : Int)] w fun e w' => ∃ v, e = .returned v ∧ OwnInts w' w.heap.size v (holF p (faces n xs) (top (faces n xs))) ∧ Below w.heap.size w w' := by
  obtain ⟨i0, hi, hz0, hz1, hz2⟩ := info_parts info_int
  have hb0 : Below w.heap.size w ((w.alloc (Obj.cells #[Value.int IntKind.i64 n, Value.slice a xs.length c] 26)).alloc (.cells #[] 3)) := ((Below.refl _ _).alloc (Nat.le_refl _) _).alloc (by simp) _
  have hO0 := OwnInts.lit (w.alloc (Obj.cells #[Value.int IntKind.i64 n, Value.slice a xs.length c] 26)) w.heap.size [] (by simp) (by simp)
  have htwo := (Two.new w (.int .i64 n) (.slice a xs.length c) 26).alloc (.cells #[] 3)
  have H0 := Lib.hid h
  have H := Lib.hid (h.keeps hb0)
  have HB0 := Lib.hid hb0
  have HO0 := Lib.hid hO0
  have HT := Lib.hid htwo
  have HPR : Hid (primeB (p : Int) = true) := decide_eq_true (by omega)
  have HPP := Lib.hid hp
  clear h hb0 hO0 htwo hp
  have hle := faces_le n xs
  have hlL := fun q : Int => sized_le n xs q
  have HLL := Lib.hid hlL
  have HBOR := Lib.hid (fun (q : Int) (h1 : -1000 ≤ q) (h2 : q ≤ 1000) (W : World) (hh : Ints W a xs) => l13Border_any n a c xs hlen q h1 h2 W hh)
  have HCN := Lib.hid (fun (W : World) (hh : Ints W a xs) => specCounts_any n a c xs hlen W hh)
  obtain ⟨F, hF⟩ : ∃ F, faces n xs = F := ⟨_, rfl⟩
  rw [hF] at hle HLL HBOR HCN
  rw [hF]
  clear hF hlL
  have htop := top_le F
  go_enter Tryz.func25, Tryz.ntmps25
  obtain ⟨t0, t1, t2, _, _⟩ := HT.out
  go_wp2_with fail
  refine (HCN.out _ H.out).mono ?_
  rintro e w1 ⟨v1, rfl, hO1, hb1⟩
  have hcl := counts_length F
  obtain ⟨gf, af, df, rfl, hgf, hrf, hgf2⟩ : ∃ gf af df, v1 = .slice af (top F) df ∧ gf ≠ w.heap.size + 1 ∧ IntsAt w1 gf af (counts F) ∧ gf < w1.heap.size := by
    obtain ⟨af, df, gf, hv, hgf, hrf⟩ := hO1.at
    rw [hcl] at hv
    simp only [World.size_alloc] at hgf
    have hs := hb1.size
    simp only [World.size_alloc] at hs
    by_cases h0 : 0 < (counts F).length
    · exact ⟨gf, af, df, hv, by omega, hrf, (hrf 0 h0).2.1⟩
    · exact ⟨w.heap.size, af, df, hv, by omega, fun j hj => absurd hj (by omega), by omega⟩
  have HB1 : Hid (Below w.heap.size w w1) := HB0.out.trans (hb1.mono HB0.out.size)
  have HRF1 := Lib.hid hrf
  have HO1 := Lib.hid (OwnInts.keeps HO0.out hb1)
  have HT1 := Lib.hid (HT.out.keeps hb1)
  have hz1w := HB1.out.size
  rw [World.size_alloc] at HO1
  clear hO1 hrf hb1 t0 t1 t2
  go_wp2_with fail
  refine (isPrime_any _ _).mono ?_
  rw [HPR.out]
  rintro e w' ⟨rfl, rfl⟩
  have hne1 : (Value.slice (some ⟨w.heap.size + 1, 0, none⟩) 0 0).ownBlock ≠ some gf := by simp only [Value.ownBlock, ne_eq, Option.some.injEq]; omega
  have hne2 : (Value.slice (some ⟨w.heap.size + 1, 0, none⟩) 0 0).ownBlock ≠ some w.heap.size := by simp only [Value.ownBlock, ne_eq, Option.some.injEq]; omega
  go_wp2
  go_loopw [5, 7, 8] (fun v b i wr => ∃ k : Nat, k ≤ top F ∧ i = .int .i64 (k : Int) ∧ b = .int .i64 (loR p F k : Nat) ∧ loR p F k ≤ 64 ∧ OwnInts wr w.heap.size v (holF p F k) ∧ Below w.heap.size w wr ∧ IntsAt wr gf af (counts F) ∧ Two wr w.heap.size (.int .i64 n) (.slice a xs.length c) ∧ v.ownBlock ≠ some gf ∧ v.ownBlock ≠ some w.heap.size ∧ w1.heap.size ≤ wr.heap.size) (fun _ _ i _ => top F - (intOf i).toNat)
  case atStart => exact ⟨0, Nat.zero_le _, rfl, rfl, by unfold loR; simp, HO1.out, HB1.out, HRF1.out, HT1.out, hne1, hne2, Nat.le_refl _⟩
  case round =>
    clear hne1 hne2 HO1 HB1 HRF1 HT1
    obtain ⟨k, hk, rfl, rfl, hlo, hO, hB, hR, hT, hn1, hn2, hzw⟩ := hrel
    have HO := Lib.hid hO
    have HB := Lib.hid hB
    have HR := Lib.hid hR
    have HT := Lib.hid hT
    have hbl := hT.1
    have HN1 := Lib.hid hn1
    have HN2 := Lib.hid hn2
    have hsz := hB.size
    obtain ⟨wo, rfl⟩ : ∃ wo : World, wo = wr := ⟨_, rfl⟩
    by_cases hlt : k < top F
    · obtain ⟨q, hq⟩ : ∃ q, cnt k F = q := ⟨_, rfl⟩
      have hcq := cnt_le k F
      rw [hq] at hcq
      have HCA := Lib.hid (counts_at F k hlt)
      rw [hq] at HCA
      have HHN := Lib.hid (holF_next p F k)
      rw [hq] at HHN
      have HHL := Lib.hid (holF_length p F k)
      obtain ⟨lo, hlo2⟩ : ∃ lo, loR p F k = lo := ⟨_, rfl⟩
      rw [hlo2] at hlo HHN
      rw [hlo2]
      clear hq hlo2
      by_cases hk1 : k + 1 < top F
      · have hik : decide ((k : Int) + 1 < (top F : Int)) = true := by simp; omega
        have HHI : Hid (hiR p F k = rkF p F (k + 1)) := by show hiR p F k = _; unfold hiR; rw [if_pos hk1]
        have HLO : Hid (loR p F (k + 1) = rkF p F (k + 1)) := by show loR p F (k + 1) = _; unfold loR; rw [if_neg (by omega)]
        have hrl : rkF p F (k + 1) ≤ 64 := Nat.le_trans (rank_le_cols HPP.out (borM_wide _ _)) (HLL.out _)
        obtain ⟨t0, t1, t2, _, _⟩ := hT
        have HI := Lib.hid (H0.out.keeps hB)
        have hbk := fun W hh => HBOR.out ((k : Int) + 1) (by omega) (by omega) W hh
        have hrs := rkF_succ p F k
        have hll := HLL.out ((k : Int) + 1 - 1)
        have hlh := HLL.out ((k : Int) + 1)
        obtain ⟨L, hL⟩ : ∃ L, sized ((k : Int) + 1 - 1) F = L := ⟨_, rfl⟩
        obtain ⟨G, hG⟩ : ∃ G, sized ((k : Int) + 1) F = G := ⟨_, rfl⟩
        rw [hL, hG] at hrs hbk
        rw [hL] at hll
        rw [hG] at hlh
        have HBK := Lib.hid hbk
        have HRS := Lib.hid hrs
        clear hO hB hR hn1 hn2 hL hG hbk hrs
        go_wp2_with fail
        refine (HBK.out _ HI.out).mono ?_
        rintro e w2 ⟨v2, R2, rfl, hM2, hb2⟩
        obtain ⟨gm, am, cm, rfl, -, hMX⟩ := hM2.mx
        rw [borM_length]
        have hX2 : Hid (Calls Tryz.prog 61 #[.slice am L.length cm, .int .i64 (p : Int)] w2 fun e w' => e = .returned (.int .i64 (rkF p F (k + 1) : Nat)) ∧ Below w2.heap.size w2 w') := by
          have h := l13Rank_any p HPP.out _ _ (borM_wide L G) (by rw [borM_length]; omega) (by omega) gm am cm R2 w2 hMX
          rw [borM_length, ← HRS.out] at h
          exact h
        have HB2 : Hid (Below wo.heap.size wo w2) := hb2
        obtain ⟨r, hr⟩ : ∃ r, rkF p F (k + 1) = r := ⟨_, rfl⟩
        rw [hr] at hX2 HHI HLO hrl
        clear hM2 hb2 hMX hr t0 t1 t2
        go_wp2_with fail
        refine hX2.out.mono ?_
        rintro e w3 ⟨rfl, hb3⟩
        have hB3 : Below wo.heap.size wo w3 := HB2.out.trans (hb3.mono HB2.out.size)
        have HB3 := Lib.hid hB3
        have HO3 := Lib.hid (HO.out.keeps hB3)
        unfold OwnInts at HO3
        rw [HHL.out] at HO3
        have hR3 := HR.out.keeps hB3
        obtain ⟨ea, hg1, hc1, _⟩ := hR3 k (by rw [hcl]; exact hlt)
        rw [HCA.out] at hc1
        have HR3 := Lib.hid hR3
        have HT3 := Lib.hid (HT.out.keeps hB3)
        have hz3 := hB3.size
        obtain rfl := ea
        clear hb3 hB3 hR3 hX2 HB2
        go_wp2_with (at_builtin; refine wpList_append_own_at _ rfl _ _ 24 rfl w.heap.size 3 i0 (.int .i64 0) 1 8 Tryz.underlying24 hi hz0 hz1 hz2 rfl (by decide) _ _ _ rfl (HO3.out.alloc _) ⟨w3.heap.size, 0, none⟩ 1 1 [.int .i64 ((q : Int) - (lo : Int) - (r : Int))] rfl rfl ?c1 ?c2 ?c3 ?c4 ?c5 ?_)
        case c1 => intro j u hj; exact Mem.cell_new w3 _ _ j u hj
        case c2 => intro u hu; simp at hu; subst hu; rfl
        case c3 => unfold maxLen; omega
        case c4 => omega
        case c5 => simp; omega
        intro v' w4 hown1 hgrow _ hob
        have hBA : Below w3.heap.size w3 (w3.alloc (.cells #[.int .i64 ((q : Int) - (lo : Int) - (r : Int))] 3)) := (Below.refl _ _).alloc (Nat.le_refl _) _
        have hB5 : Below w.heap.size w w4 := ((HB.out.trans (HB3.out.mono hsz)).trans (hBA.mono (by omega))).grown hgrow (by simp; omega) (fun g hg => (HO3.out.lt g hg).1)
        have hR5 := IntsAt.away (HR3.out.keeps hBA) hgrow HN1.out
        have hT5 := Two.grow2 (HT3.out.keeps hBA) hgrow HN2.out
        have hO5 : OwnInts w4 w.heap.size v' (holF p F (k + 1)) := by
          rw [HHN.out, HHI.out]
          unfold OwnInts
          rw [List.length_append, List.map_append, HHL.out]
          exact hown1
        have hn5 : ∀ g, g < wo.heap.size → u5.ownBlock ≠ some g → v'.ownBlock ≠ some g := fun g hg hne => by
          rcases hob with e | e
          · rw [e]; exact hne
          · rw [e]; simp; omega
        have hz5 := hgrow.size
        simp only [World.size_alloc] at hz5
        have HO5 := Lib.hid hO5
        have HR5 := Lib.hid hR5
        have HT5 := Lib.hid hT5
        have HN5 := Lib.hid hn5
        clear hown1 hgrow hob hO5 hR5 hT5 hn5 hc1
        go_wp2
        go_roundw
        case rel => exact ⟨k + 1, by omega, by go_num, by rw [HLO.out], by rw [HLO.out]; omega, HO5.out, hB5, HR5.out, HT5.out, HN5.out gf (by omega) HN1.out, HN5.out w.heap.size hbl HN2.out, by omega⟩
        case measure => simp [intOf]; omega
      · have hik : decide ((k : Int) + 1 < (top F : Int)) = false := by simp; omega
        have HHI : Hid (hiR p F k = 0) := by show hiR p F k = _; unfold hiR; rw [if_neg hk1]
        have HLO : Hid (loR p F (k + 1) = 0) := by
          show loR p F (k + 1) = 0
          unfold loR
          rw [if_neg (by omega)]
          have h1 := rank_le_cols HPP.out (borM_wide (sized (((k + 1 : Nat) : Int) - 1) F) (sized ((k + 1 : Nat) : Int) F))
          rw [sized_cnt, ge_top F (k + 1) (by omega)] at h1
          have h2 : rkF p F (k + 1) ≤ 0 := by
            unfold rkF
            rw [sized_cnt, ge_top F (k + 1) (by omega)]
            exact h1
          omega
        have HO3 := Lib.hid hO
        unfold OwnInts at HO3
        rw [HHL.out] at HO3
        obtain ⟨ea, hg1, hc1, _⟩ := hR k (by rw [hcl]; exact hlt)
        rw [HCA.out] at hc1
        have HR3 := Lib.hid hR
        have HT3 := Lib.hid hT
        obtain rfl := ea
        clear hO hB hR hT hn1 hn2 HO HR HT
        go_wp2_with (at_builtin; refine wpList_append_own_at _ rfl _ _ 24 rfl w.heap.size 3 i0 (.int .i64 0) 1 8 Tryz.underlying24 hi hz0 hz1 hz2 rfl (by decide) _ _ _ rfl (HO3.out.alloc _) ⟨wo.heap.size, 0, none⟩ 1 1 [.int .i64 ((q : Int) - (lo : Int))] rfl rfl ?c1 ?c2 ?c3 ?c4 ?c5 ?_)
        case c1 => intro j u hj; exact Mem.cell_new wo _ _ j u hj
        case c2 => intro u hu; simp at hu; subst hu; rfl
        case c3 => unfold maxLen; omega
        case c4 => omega
        case c5 => simp; omega
        intro v' w4 hown1 hgrow _ hob
        have hBA : Below wo.heap.size wo (wo.alloc (.cells #[.int .i64 ((q : Int) - (lo : Int))] 3)) := (Below.refl _ _).alloc (Nat.le_refl _) _
        have hB5 : Below w.heap.size w w4 := ((HB.out.trans ((Below.refl wo.heap.size wo).mono hsz)).trans (hBA.mono (by omega))).grown hgrow (by simp; omega) (fun g hg => (HO3.out.lt g hg).1)
        have hR5 := IntsAt.away (HR3.out.keeps hBA) hgrow HN1.out
        have hT5 := Two.grow2 (HT3.out.keeps hBA) hgrow HN2.out
        have hO5 : OwnInts w4 w.heap.size v' (holF p F (k + 1)) := by
          rw [HHN.out, HHI.out]
          unfold OwnInts
          rw [List.length_append, List.map_append, HHL.out]
          rw [show (q : Int) - (lo : Int) - ((0 : Nat) : Int) = (q : Int) - (lo : Int) by omega]; exact hown1
        have hn5 : ∀ g, g < wo.heap.size → u5.ownBlock ≠ some g → v'.ownBlock ≠ some g := fun g hg hne => by
          rcases hob with e | e
          · rw [e]; exact hne
          · rw [e]; simp; omega
        have hz5 := hgrow.size
        simp only [World.size_alloc] at hz5
        have HO5 := Lib.hid hO5
        have HR5 := Lib.hid hR5
        have HT5 := Lib.hid hT5
        have HN5 := Lib.hid hn5
        clear hown1 hgrow hob hO5 hR5 hT5 hn5 hc1
        go_wp2
        go_roundw
        case rel => exact ⟨k + 1, by omega, by go_num, by rw [HLO.out]; rfl, by rw [HLO.out]; omega, HO5.out, hB5, HR5.out, HT5.out, HN5.out gf (by omega) HN1.out, HN5.out w.heap.size hbl HN2.out, by omega⟩
        case measure => simp [intOf]; omega
    · have E := Lib.hid (show k = top F by omega)
      have hdk : decide ((k : Int) < (top F : Int)) = false := by simp; omega
      clear hO hB hR hT hn1 hn2
      go_wp2
      go_ret
      exact ⟨u5, rfl, by have h := HO.out; rw [E.out] at h; exact h, HB.out⟩

end Go.Proofs.YtbkkdgmiokdbmaaGreat

/-! WALKS of chapter 14 (spec): holes counted; no holes; like a sphere. -/

namespace Go.Proofs.YtbkkdgmiokdbmaaGreat
open Go.RowKit
open Sets Lin

def tot (L : List Int) : Int := L.foldl (fun a x => a + x) 0
theorem tot_take (L : List Int) (k : Nat) (h : k < L.length) : tot (L.take (k + 1)) = tot (L.take k) + L.getD k 0 := by
  unfold tot
  rw [List.take_add_one, List.foldl_append]
  simp [List.getD, List.getElem?_eq_getElem h]
theorem tot_bound (L : List Int) (h : ∀ j, j < L.length → -200 ≤ L.getD j 0 ∧ L.getD j 0 ≤ 200) : ∀ k, k ≤ L.length → -(200 * (k : Int)) ≤ tot (L.take k) ∧ tot (L.take k) ≤ 200 * (k : Int)
  | 0, _ => by simp [tot]
  | k + 1, hk => by
    have ih := tot_bound L h k (by omega)
    have hb := h k (by omega)
    rw [tot_take L k (by omega)]
    omega
theorem tot_zero (L : List Int) (h : ∀ x, x ∈ L → x = 0) : tot L = 0 := by
  unfold tot
  have : ∀ (l : List Int) (a : Int), (∀ x, x ∈ l → x = 0) → l.foldl (fun a x => a + x) a = a := by
    intro l
    induction l with
    | nil => intro a _; rfl
    | cons x l ih => intro a hh; rw [List.foldl_cons, hh x (List.mem_cons_self ..), ih _ fun y hy => hh y (List.mem_cons_of_mem _ hy)]; omega
  exact this L 0 h
theorem holF_bound {p : Nat} (hp : p = 2 ∨ p = 3 ∨ p = 5) (n : Int) (xs : List Int) (m j : Nat) (h : j < (holF p (faces n xs) m).length) : -200 ≤ (holF p (faces n xs) m).getD j 0 ∧ (holF p (faces n xs) m).getD j 0 ≤ 200 := by
  rw [holF_length] at h
  have hr : ∀ k, rkF p (faces n xs) k ≤ 64 := fun k => Nat.le_trans (rank_le_cols hp (borM_wide _ _)) (sized_le n xs _)
  have h1 := hr j
  have h2 := hr (j + 1)
  have h3 := Nat.le_trans (cnt_le j (faces n xs)) (faces_le n xs)
  unfold holF
  simp only [List.getD, List.getElem?_map, List.getElem?_range h, Option.map_some, Option.getD_some]
  unfold loR hiR
  split <;> split <;> omega

end Go.Proofs.YtbkkdgmiokdbmaaGreat

/-! WALK of chapter 14 (spec): like a sphere, where it is so. -/

namespace Go.Proofs.YtbkkdgmiokdbmaaGreat
open Go.RowKit
open Sets Lin

end Go.Proofs.YtbkkdgmiokdbmaaGreat
