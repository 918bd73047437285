/-
  TEXTS of one claim, put together: WMat2, WBor, WCur, StrRow.
-/
import Derived.Test.YtenpcjmhlnalcaaJg9
import Derived.Test.YtenpcjmhlnalcaaJg4
import Derived.Test.YtenpcjmhlnalcaaJg10
import Derived.Deep.RegionLaw
import Derived.Deep.AppendLies
import Derived.Test.YtenpcjmhlnalcaaJg0
import Derived.Test.YtenpcjmhlnalcaaProg
import Derived.WalkKit
import Derived.WalkLawsBesides
import Derived.Outline
import Derived.Lib.Hide
import Derived.Deep.QuietTactic
import Derived.BigQuiet
import Derived.WalkSmall
import Derived.IntWalk
import Derived.Laws.Bits64
import Derived.Deep.DeepCutAuto
/-! WALKS of chapter 13 (spec): the number of a face in a border. -/

namespace Go.Proofs.Ytenpcjmhlnalcaa
open Go.RowKit
open Sets

theorem and_natM : ∀ a b : Nat, a < 64 → b < 64 → bits BinOp.and IntKind.i64 (a : Int) (b : Int) = ((a &&& b : Nat) : Int) := by
  refine fin64b ?_
  decide +kernel
theorem sgn_yes {t s : Nat} (h : sub t s = true) (k : pc s = pc t + 1) : Hom.sgn t s = 1 - 2 * ((pc (s &&& (s - t - 1)) % 2 : Nat) : Int) := by unfold Hom.sgn; rw [if_pos ⟨h, k⟩]

set_option maxRecDepth 100000 in
set_option maxHeartbeats 2000000 in
theorem l13Sign_any (t s : Nat) (ht : t < 64) (hs : s < 64) (w : World) : Calls Try.prog 42 #[.int .i64 (t : Int), .int .i64 (s : Int)] w fun e w' => e = .returned (.int .i64 (Hom.sgn t s)) ∧ w = w' := by
  have ha := and_natM t s ht hs
  have hpt := pc_le t
  have hps := pc_le s
  cases h : sub t s with
  | false =>
    have hne : ¬(((t &&& s : Nat) : Int) = (t : Int)) := fun e => by
      have : t &&& s = t := by omega
      unfold sub at h; rw [this] at h; simp at h
    have E := Lib.hid (Hom.sgn_zero (t := t) (s := s) (by rw [h]; simp))
    go_enter Try.func42, Try.ntmps42
    go_wp2
    go_ret
    exact ⟨ret_int E.out.symm, rfl⟩
  | true =>
    have heq : ((t &&& s : Nat) : Int) = (t : Int) := by unfold sub at h; rw [beq_iff_eq] at h; rw [h]
    rw [heq] at ha
    clear heq
    have H := Lib.hid h
    have S1 := fun W => l2Size_b s (pc s) rfl hs W
    have S2 := fun W => l2Size_b t (pc t) rfl ht W
    generalize hq : pc s = ps at *
    generalize hq2 : pc t = pt at *
    have HQ := Lib.hid hq
    have HQ2 := Lib.hid hq2
    have HS1 := Lib.hid S1
    have HS2 := Lib.hid S2
    clear hq hq2 S1 S2 h
    by_cases hk : ps = pt + 1
    · have hlt : t < s := by
        have h1 := sub_le H.out
        have : t ≠ s := fun e => by have h1 := HQ.out; have h2 := HQ2.out; rw [e] at h2; omega
        omega
      have hpm := and_natM s (s - t - 1) hs (by omega)
      rw [show (((s - t - 1 : Nat)) : Int) = (s : Int) - (t : Int) - 1 by omega] at hpm
      have hm : s &&& (s - t - 1) < 64 := Nat.lt_of_le_of_lt Nat.and_le_left hs
      have HM := Lib.hid (fun W => l2Size_b (s &&& (s - t - 1)) _ rfl hm W)
      have E := Lib.hid (sgn_yes H.out (by rw [HQ.out, HQ2.out]; exact hk))
      have hpp := pc_le (s &&& (s - t - 1))
      generalize (s &&& (s - t - 1)) = m at *
      clear hm
      have hk2 : ((ps : Nat) : Int) - (pt : Int) = 1 := by omega
      go_enter Try.func42, Try.ntmps42
      go_wp2_with fail
      refine (HS1.out _).mono ?_
      rintro e w' ⟨rfl, rfl⟩
      go_wp2_with fail
      refine (HS2.out _).mono ?_
      rintro e w' ⟨rfl, rfl⟩
      go_wp2_with fail
      refine (HM.out _).mono ?_
      rintro e w' ⟨rfl, rfl⟩
      go_wp2
      go_ret
      refine ⟨ret_int ?_, rfl⟩
      rw [E.out]
      omega
    · have hk2 : ¬(((ps : Nat) : Int) - (pt : Int) = 1) := by omega
      have E := Lib.hid (Hom.sgn_zero (t := t) (s := s) (fun hh => hk (by have h1 := hh.2; rw [HQ.out, HQ2.out] at h1; exact h1)))
      go_enter Try.func42, Try.ntmps42
      go_wp2_with fail
      refine (HS1.out _).mono ?_
      rintro e w' ⟨rfl, rfl⟩
      go_wp2_with fail
      refine (HS2.out _).mono ?_
      rintro e w' ⟨rfl, rfl⟩
      go_wp2
      go_ret
      exact ⟨ret_int E.out.symm, rfl⟩

end Go.Proofs.Ytenpcjmhlnalcaa

/-! WALK of chapter 13 (spec): the matrix of a border. -/

namespace Go.Proofs.Ytenpcjmhlnalcaa
open Go.RowKit
open Sets

/-- The numbers of the faces L in the borders of the faces H. -/
def borR (t : Int) (H : List Int) : List Int := H.map fun s => Hom.sgn t.toNat s.toNat
def borM (L H : List Int) : Lin.Mat := L.map fun t => borR t H
theorem take_snocB {α : Type} (l : List α) (k : Nat) (h : k < l.length) : l.take (k + 1) = l.take k ++ [l[k]] := by rw [List.take_append_getElem h]
theorem borR_next (t : Int) (H : List Int) (k : Nat) (h : k < H.length) : borR t (H.take (k + 1)) = borR t (H.take k) ++ [Hom.sgn t.toNat (H.getD k 0).toNat] := by
  unfold borR
  rw [take_snocB H k h, List.map_append]
  simp [List.getD, List.getElem?_eq_getElem h]
theorem borM_next (L H : List Int) (k : Nat) (h : k < L.length) : borM (L.take (k + 1)) H = borM (L.take k) H ++ [borR (L.getD k 0) H] := by
  unfold borM
  rw [take_snocB L k h, List.map_append]
  simp [List.getD, List.getElem?_eq_getElem h]
theorem borR_length (t : Int) (H : List Int) : (borR t H).length = H.length := by simp [borR]
theorem borM_length (L H : List Int) : (borM L H).length = L.length := by simp [borM]
theorem sized_at (n : Int) (xs : List Int) (q : Int) (j : Nat) (h : j < (sized q (faces n xs)).length) : ∃ s : Nat, (sized q (faces n xs)).getD j 0 = (s : Int) ∧ s < 64 := by
  have hm : (sized q (faces n xs)).getD j 0 ∈ faces n xs := by
    simp only [List.getD, List.getElem?_eq_getElem h, Option.getD_some]
    exact (List.mem_filter.1 (List.getElem_mem h)).1
  obtain ⟨i, hi, e⟩ := List.getElem_of_mem hm
  obtain ⟨s, h1, h2⟩ := faces_at n xs i hi
  exact ⟨s, by rw [← h1, ← e]; simp [List.getD, List.getElem?_eq_getElem hi], h2⟩
theorem sized_le (n : Int) (xs : List Int) (q : Int) : (sized q (faces n xs)).length ≤ 64 := Nat.le_trans (sized_length _ _) (faces_le n xs)

set_option maxRecDepth 100000 in
set_option maxHeartbeats 4000000 in
theorem l13Border_any (n : Int) (a : Option Addr) (c : Nat) (xs : List Int) (hlen : xs.length ≤ 1099511627776) (q : Int) (hq0 : -1000 ≤ q) (hq1 : q ≤ 1000) (w : World) (h : Ints w a xs) :
    Calls Try.prog 29 #[cx n (.slice a xs.length c), .int .i64 q] w fun e w' => ∃ v R, e = .returned v ∧ OwnMx w' w.heap.size v R (borM (sized (q - 1) (faces n xs)) (sized q (faces n xs))) ∧ Below w.heap.size w w' := by
  obtain ⟨i0, hi, hz0, hz1, hz2⟩ := info_parts info_int
  obtain ⟨i9, hi9, hz90, hz91, hz92⟩ := info_parts info_row
  have hb0 : Below w.heap.size w ((w.alloc (Obj.cells #[Value.int IntKind.i64 n, Value.slice a xs.length c] 27)).alloc (.cells #[] 22)) := ((Below.refl _ _).alloc (Nat.le_refl _) _).alloc (by simp) _
  have hO0 := OwnMx.lit (w.alloc (Obj.cells #[Value.int IntKind.i64 n, Value.slice a xs.length c] 27)) w.heap.size (by simp)
  have htwo := (Two.new w (.int .i64 n) (.slice a xs.length c) 27).alloc (.cells #[] 22)
  have H := Lib.hid (h.keeps hb0)
  have HB0 := Lib.hid hb0
  have HO0 := Lib.hid hO0
  have HT := Lib.hid htwo
  clear h hb0 hO0 htwo
  have hleL := sized_le n xs (q - 1)
  have hleH := sized_le n xs q
  have HFL := Lib.hid (sized_at n xs (q - 1))
  have HFH := Lib.hid (sized_at n xs q)
  obtain ⟨L, hL⟩ : ∃ L, sized (q - 1) (faces n xs) = L := ⟨_, rfl⟩
  obtain ⟨G, hG⟩ : ∃ G, sized q (faces n xs) = G := ⟨_, rfl⟩
  have HLL := Lib.hid hL
  have HGG := Lib.hid hG
  rw [hL] at hleL HFL
  rw [hG] at hleH HFH
  rw [hL, hG]
  clear hL hG
  go_enter Try.func29, Try.ntmps29
  obtain ⟨t0, t1, t2, _, _⟩ := HT.out
  go_wp2_with fail
  refine (specSized_any n _ _ xs hlen (q - 1) _ H.out).mono ?_
  rw [HLL.out]
  rintro e w1 ⟨v1, rfl, hO1, hb1⟩
  obtain ⟨al, dl, gl, rfl, hgl, hrl⟩ := hO1.at
  have HB1 : Hid (Below w.heap.size w w1) := HB0.out.trans (hb1.mono HB0.out.size)
  have HRL1 := Lib.hid hrl
  have HO1 := Lib.hid (OwnMx.keeps HO0.out hb1)
  have HT1 := Lib.hid (HT.out.keeps hb1)
  have H1 := Lib.hid (H.out.keeps hb1)
  have hz1w := HB1.out.size
  rw [World.size_alloc] at HO1
  simp only [World.size_alloc] at hgl
  clear hO1 hrl hb1 t0 t1 t2
  obtain ⟨t0, t1, t2, _, _⟩ := HT1.out
  go_wp2_with fail
  refine (specSized_any n _ _ xs hlen q _ H1.out).mono ?_
  rw [HGG.out]
  rintro e w2 ⟨v2, rfl, hO2, hb2⟩
  obtain ⟨ah, dh, gh, rfl, hgh, hrh, hgh2⟩ : ∃ ah dh gh, v2 = .slice ah G.length dh ∧ gh ≠ w.heap.size + 1 ∧ IntsAt w2 gh ah G ∧ gh < w2.heap.size := by
    obtain ⟨ah, dh, gh, hv, hgh, hrh⟩ := hO2.at
    have hw1 : w.heap.size + 1 < w1.heap.size := (World.ownsRow.lt HO1.out.own (w.heap.size + 1) rfl).2
    by_cases h0 : 0 < G.length
    · exact ⟨ah, dh, gh, hv, by omega, hrh, (hrh 0 h0).2.1⟩
    · exact ⟨ah, dh, w.heap.size, hv, by omega, fun j hj => absurd hj (by omega), by have := hb2.size; omega⟩
  have HB2 : Hid (Below w.heap.size w w2) := HB1.out.trans (hb2.mono hz1w)
  have HRL2 := Lib.hid (HRL1.out.keeps hb2)
  have HRH2 := Lib.hid hrh
  have HO2 := Lib.hid (OwnMx.keeps HO1.out hb2)
  have hz2w := HB2.out.size
  have hz12 := hb2.size
  have hm1 : w.heap.size + 1 < w1.heap.size := by
    have := HO1.out
    obtain ⟨_, h2⟩ := World.ownsRow.lt this.own (w.heap.size + 1) rfl
    exact h2
  clear hO2 hrh hb2 t0 t1 t2 HO1 HRL1 HT1 H1
  have hne1 : (Value.slice (some ⟨w.heap.size + 1, 0, none⟩) 0 0).ownBlock ≠ some gl := by simp only [Value.ownBlock, ne_eq, Option.some.injEq]; omega
  have hne2 : (Value.slice (some ⟨w.heap.size + 1, 0, none⟩) 0 0).ownBlock ≠ some gh := by simp only [Value.ownBlock, ne_eq, Option.some.injEq]; omega
  go_wp2
  go_loopw [5, 8] (fun v i wr => ∃ (k : Nat) (R : List (Nat × Nat)), k ≤ L.length ∧ i = .int .i64 (k : Int) ∧ OwnMx wr w.heap.size v R (borM (L.take k) G) ∧ Below w.heap.size w wr ∧ IntsAt wr gl al L ∧ IntsAt wr gh ah G ∧ v.ownBlock ≠ some gl ∧ v.ownBlock ≠ some gh ∧ w2.heap.size ≤ wr.heap.size) (fun _ i _ => L.length - (intOf i).toNat)
  case atStart => exact ⟨0, [], Nat.zero_le _, rfl, HO2.out, HB2.out, HRL2.out, HRH2.out, hne1, hne2, Nat.le_refl _⟩
  case round =>
    clear hne1 hne2 HO2 HB2 HRL2 HRH2
    obtain ⟨k, R, hk, rfl, hO, hB, hRL, hRH, hnl, hnh, hzw⟩ := hrel
    have hghw : gh < wr.heap.size := by omega
    have HO := Lib.hid hO
    have HBO := Lib.hid hB
    have HRL := Lib.hid hRL
    have HRH := Lib.hid hRH
    have HNL := Lib.hid hnl
    have HNH := Lib.hid hnh
    have hszo := hB.size
    obtain ⟨wo, rfl⟩ : ∃ wo : World, wo = wr := ⟨_, rfl⟩
    clear hO hRL hRH hnl hnh hB
    by_cases hlt : k < L.length
    · obtain ⟨t, ht, ht64⟩ := HFL.out k hlt
      have HTT := Lib.hid ht
      have hltk : decide ((k : Int) < (L.length : Int)) = true := by simpa using hlt
      have hstart := Lib.hid (OwnInts.lit wo wo.heap.size [] (Nat.le_refl _) (by simp))
      clear ht
      go_wp2
      go_loopw [9, 10] (fun v i wr => ∃ (k2 gg cc : Nat), k2 ≤ G.length ∧ i = .int .i64 (k2 : Int) ∧ v = .slice (some ⟨gg, 0, none⟩) k2 cc ∧ OwnInts wr wo.heap.size v (borR (t : Int) (G.take k2)) ∧ Below wo.heap.size wo wr) (fun _ i _ => G.length - (intOf i).toNat)
      case atStart => exact ⟨0, wo.heap.size, 0, Nat.zero_le _, rfl, rfl, hstart.out, (Below.refl _ _).alloc (Nat.le_refl _) _⟩
      case round =>
        clear hstart
        obtain ⟨k2, gg, cc, hk2, rfl, rfl, hO3, hB3⟩ := hrel
        have HO3 := Lib.hid hO3
        unfold OwnInts at HO3
        have hsz := hB3.size
        have hl := borR_length (t : Int) (G.take k2)
        rw [List.length_take, Nat.min_eq_left hk2] at hl
        rw [hl] at HO3
        have HL := Lib.hid hl
        clear hO3 hl
        by_cases hlk : k2 < G.length
        · obtain ⟨s, hs, hs64⟩ := HFH.out k2 hlk
          obtain ⟨ea, hg1, hc1, _⟩ := HRL.out.keeps hB3 k hlt
          obtain ⟨eb, hg2, hc2, _⟩ := HRH.out.keeps hB3 k2 hlk
          rw [HTT.out] at hc1
          rw [hs] at hc2
          have HN := Lib.hid (borR_next (t : Int) G k2 hlk)
          rw [hs] at HN
          obtain rfl := ea
          obtain rfl := eb
          obtain ⟨z, hz⟩ : ∃ z, Hom.sgn t s = z := ⟨_, rfl⟩
          have HZ := Lib.hid hz
          have HSG := Lib.hid (fun W => l13Sign_any t s ht64 hs64 W)
          rw [hz] at HSG
          rw [show Hom.sgn (t : Int).toNat (s : Int).toNat = z from hz] at HN
          clear hs hz
          have hbg : ∀ g, (Value.slice (some ⟨gg, 0, none⟩) k2 cc).ownBlock = some g → wo.heap.size ≤ g := fun g hg => (HO3.out.lt g hg).1
          have HBG := Lib.hid hbg
          clear hbg
          go_wp2_with fail
          go_region_law (first | (go_simp; go_at_call 42; refine (HSG.out _).mono ?_; rintro e w' ⟨rfl, rfl⟩) | (refine step_append_lies _ (by rfl) _ _ _ (by rfl) wo.heap.size 3 i0 (.int .i64 0) 1 8 Try.underlying22 hi hz0 hz1 hz2 rfl (by omega) (.slice (some ⟨gg, 0, none⟩) k2 cc) k2 (List.map (Value.int IntKind.i64) (borR (t : Int) (G.take k2))) (by rfl) ((HO3.out.alloc _).drew) ⟨wr.heap.size, 0, none⟩ 1 1 [.int .i64 z] (by rfl) (by rfl) (World.news_of_block (cs := #[.int .i64 z]) (t := 3) (fr := (0, 0)) (heap_alloc_new wr _)) (by simp [Value.oneCell']) (by omega) (by unfold maxLen; omega) (by omega) (by simp; omega) (wr.heap.size + 1) (by simp) ?_; intro gg2 cap w1 hown1 hgrow hat hlt3) | fail "arm")
          all_goals
            have hB4 : Below wo.heap.size wo w1 := ((hB3.alloc hsz _).drew).grown hgrow (by simp; omega) HBG.out
            have hO4 : OwnInts w1 wo.heap.size (.slice (some ⟨gg2, 0, none⟩) (k2 + 1) cap) (borR (t : Int) (G.take (k2 + 1))) := by
              unfold OwnInts
              rw [HN.out, List.length_append, List.map_append, HL.out]
              exact hown1
            have HO4 := Lib.hid hO4
            clear hown1 hgrow hat hO4
            go_wp2
            refine ⟨⟨k2 + 1, gg2, cap, by omega, by go_num, rfl, HO4.out, hB4⟩, ?_⟩
            simp [intOf]; omega
        · have hE : k2 = G.length := by omega
          have HE := Lib.hid hE
          have hOI : OwnInts wr wo.heap.size (.slice (some ⟨gg, 0, none⟩) k2 cc) (borR (t : Int) G) := by
            have h := HO3.out
            rw [hE, List.take_length] at h
            unfold OwnInts
            rw [borR_length, hE]; exact h
          obtain ⟨hg1, hg2, hIr, -⟩ := hOI.known
          have HIR := Lib.hid hIr
          have HM := Lib.hid (HO.out.keeps hB3)
          have hzl := borM_length (L.take k) G
          rw [List.length_take, Nat.min_eq_left hk] at hzl
          have HOW := Lib.hid HM.out.own
          rw [hzl] at HOW
          have HZL := Lib.hid hzl
          have hnn : u5.ownBlock ≠ some gg := fun e => by have := (HO.out.own.lt gg e).2; omega
          have HNN := Lib.hid hnn
          have hnr : Hid (gg ∉ blks R) := fun hm => by have := (HO.out.old hm).2; omega
          have HN := Lib.hid ((borM_next L G k hlt).trans (by rw [HTT.out] : _ = borM (L.take k) G ++ [borR (t : Int) G]))
          have hgl3 : gl < wo.heap.size := (HRL.out k hlt).2.1
          clear hOI hIr HO3 hzl hnn hE
          go_wp2_with (at_builtin; refine wpList_append_own_at _ rfl _ _ 40 rfl w.heap.size 22 i9 (.slice none 0 0) 1 24 Try.underlying40 hi9 hz90 hz91 hz92 rfl (by decide) _ _ _ rfl (HOW.out.alloc _) ⟨wr.heap.size, 0, none⟩ 1 1 [.slice (some ⟨gg, 0, none⟩) k2 cc] rfl rfl ?c1 ?c2 ?c3 ?c4 ?c5 ?_)
          case c1 => intro j u hj; exact Mem.cell_new wr _ _ j u hj
          case c2 => intro u hu; simp at hu; subst hu; rfl
          case c3 => unfold maxLen; omega
          case c4 => omega
          case c5 => simp; omega
          intro v' w3 hown1 hgrow _ hob
          have hBA : Below wr.heap.size wr (wr.alloc (.cells #[.slice (some ⟨gg, 0, none⟩) k2 cc] 22)) := (Below.refl _ _).alloc (Nat.le_refl _) _
          have hB5 : Below w.heap.size w w3 := ((HBO.out.trans (hB3.mono hszo)).trans (hBA.mono (by omega))).grown hgrow (by simp; omega) (fun g hg => (HO.out.own.lt g hg).1)
          have hRL5 := IntsAt.away ((HRL.out.keeps hB3).keeps hBA) hgrow HNL.out
          have hRH5 := IntsAt.away ((HRH.out.keeps hB3).keeps hBA) hgrow HNH.out
          have hO5 : OwnMx w3 w.heap.size v' (R ++ [(gg, cc)]) (borM (L.take (k + 1)) G) := by
            rw [HN.out]
            refine OwnMx.next (HM.out.keeps hBA) (by omega) (by simp; omega) (HIR.out.keeps hBA) hnr.out HNN.out ?_ hgrow ?_
            · rw [HZL.out, borR_length, ← HE.out]; exact hown1
            · rcases hob with e | e
              · exact .inl e
              · exact .inr ⟨_, e, by rw [World.size_alloc]; exact Nat.le_refl _⟩
          have hn5 : ∀ g, g < wo.heap.size → u5.ownBlock ≠ some g → v'.ownBlock ≠ some g := fun g hg hne => by
            rcases hob with e | e
            · rw [e]; exact hne
            · rw [e]; simp; omega
          have hz5 := hgrow.size
          have HO5 := Lib.hid hO5
          have H5L := Lib.hid hRL5
          have H5H := Lib.hid hRH5
          have HN5 := Lib.hid hn5
          simp only [World.size_alloc] at hz5
          clear hown1 hgrow hob hO5 hRL5 hRH5 hn5
          go_wp2
          go_roundw
          case rel => exact ⟨k + 1, R ++ [(gg, cc)], by omega, by go_num, HO5.out, hB5, H5L.out, H5H.out, HN5.out gl hgl3 HNL.out, HN5.out gh (by omega) HNH.out, by omega⟩
          case measure => simp [intOf]; omega
    · have E := Lib.hid (show k = L.length by omega)
      go_wp2
      go_ret
      refine ⟨u5, R, rfl, ?_, HBO.out⟩
      have h := HO.out
      rw [E.out, List.take_length] at h
      exact h

end Go.Proofs.Ytenpcjmhlnalcaa

/-! WALKS: the cursor over the bytes of a draw: what it hands back is in range; it changes its own block alone. -/

namespace Go.Proofs.Ytenpcjmhlnalcaa
open Go.RowKit

/-- A slice of n bytes, none of them in block B. -/
def Bytes (w : World) (a : Option Addr) (n : Nat) (B : Nat) : Prop := ∀ j, j < n → ∃ b o x : Nat, a = some ⟨b, o, none⟩ ∧ b ≠ B ∧ x ≤ 255 ∧ w.cell? ⟨b, o + j, none⟩ = some (.int .u8 (x : Int))

/-- A cursor in block B over n bytes. -/
structure Cur (w : World) (B : Nat) (a : Option Addr) (n c : Nat) : Prop where
  c0 : w.cell? ⟨B, 0, none⟩ = some (.slice a n c)
  c1 : ∃ i : Nat, i ≤ n ∧ w.cell? ⟨B, 1, none⟩ = some (.int .i64 (i : Int))
  c2 : ∃ h : Int, w.cell? ⟨B, 2, none⟩ = some (.int .i64 h)
  fr : ∀ j, w.frozen? ⟨B, j, none⟩ = false
  bs : Bytes w a n B

theorem Bytes.of_but {w w' : World} {a : Option Addr} {n B : Nat} (h : Bytes w a n B) (hg : w.grownBy w' (some B)) : Bytes w' a n B := fun j hj => by
  obtain ⟨b, o, x, e, hb, hx, hc⟩ := h j hj
  exact ⟨b, o, x, e, hb, hx, by rw [hg.cell_far ⟨b, o + j, none⟩ (World.block_lt_of_cell? w _ hc) (by simpa using hb)]; exact hc⟩

theorem Cur.set1 {w : World} {B : Nat} {a : Option Addr} {n c : Nat} (h : Cur w B a n c) (i : Nat) (hi : i ≤ n) : Cur (w.setCell ⟨B, 1, none⟩ (.int .i64 (i : Int))) B a n c := by
  obtain ⟨c0, ⟨i0, _, c1⟩, ⟨h2, c2⟩, fr, bs⟩ := h
  refine ⟨?_, ⟨i, hi, World.cell?_setCell_same _ _ _ c1⟩, ⟨h2, ?_⟩, fun j => ?_, bs.of_but (Mem.but_setCell _ _ _ _)⟩
  · rw [World.cell?_setCell_other _ _ _ _ (by simp)]; exact c0
  · rw [World.cell?_setCell_other _ _ _ _ (by simp)]; exact c2
  · rw [World.frozen?_setCell]; exact fr j
theorem Cur.set2 {w : World} {B : Nat} {a : Option Addr} {n c : Nat} (h : Cur w B a n c) (v : Int) : Cur (w.setCell ⟨B, 2, none⟩ (.int .i64 v)) B a n c := by
  obtain ⟨c0, ⟨i0, hi, c1⟩, ⟨h2, c2⟩, fr, bs⟩ := h
  refine ⟨?_, ⟨i0, hi, ?_⟩, ⟨v, World.cell?_setCell_same _ _ _ c2⟩, fun j => ?_, bs.of_but (Mem.but_setCell _ _ _ _)⟩
  · rw [World.cell?_setCell_other _ _ _ _ (by simp)]; exact c0
  · rw [World.cell?_setCell_other _ _ _ _ (by simp)]; exact c1
  · rw [World.frozen?_setCell]; exact fr j
theorem Cur.drewN {w : World} {B : Nat} {a : Option Addr} {n c : Nat} (h : Cur w B a n c) (m : Nat) : Cur (w.drewN m) B a n c := ⟨h.c0, h.c1, h.c2, h.fr, h.bs⟩

theorem wrap_small (y : Nat) (h : y ≤ 4294967295) : IntKind.i64.wrap (y : Int) = (y : Int) := by
  rw [IntWalk.i64_in _ (by omega)]
theorem and255 (z : Int) : ∃ x : Nat, x ≤ 255 ∧ bits BinOp.and IntKind.i64 z 255 = (x : Int) := by
  have h : (BitVec.ofInt 64 z &&& BitVec.ofInt 64 255).toNat ≤ 255 := by
    rw [BitVec.toNat_and]; exact Nat.le_trans Nat.and_le_right (by decide)
  refine ⟨_, h, ?_⟩
  show IntKind.i64.wrap ((BitVec.ofInt 64 z &&& BitVec.ofInt 64 255).toNat : Int) = _
  exact wrap_small _ (Nat.le_trans h (by decide))

/-- What a draw hands back: the cursor is as good as before; only its block has changed. -/
def Drew (w w' : World) (B : Nat) (a : Option Addr) (n c : Nat) : Prop := Cur w' B a n c ∧ w.grownBy w' (some B)
theorem Drew.trans {w w1 w2 : World} {B : Nat} {a : Option Addr} {n c : Nat} (h : Drew w w1 B a n c) (k : Drew w1 w2 B a n c) : Drew w w2 B a n c := ⟨k.1, h.2.trans k.2⟩

theorem mod_nat (x n : Nat) (hn : 0 < n) : ∃ r : Nat, r < n ∧ ((x : Int) % (n : Int)) = (r : Int) := ⟨x % n, Nat.mod_lt _ hn, by omega⟩

/-- A slice of n bytes. -/
def Code (w : World) (a : Option Addr) (n : Nat) : Prop := ∀ j, j < n → ∃ b o x : Nat, a = some ⟨b, o, none⟩ ∧ x ≤ 255 ∧ w.cell? ⟨b, o + j, none⟩ = some (.int .u8 (x : Int))
theorem Code.keeps {w w' : World} {a : Option Addr} {n : Nat} (h : Code w a n) (hb : Below w.heap.size w w') : Code w' a n := fun j hj => by
  obtain ⟨b, o, x, e, hx, hc⟩ := h j hj
  exact ⟨b, o, x, e, hx, by rw [hb.cell (p := ⟨b, o + j, none⟩) (World.block_lt_of_cell? w _ hc)]; exact hc⟩

end Go.Proofs.Ytenpcjmhlnalcaa

/-! WALKS: slices of strings: what they read as; the laws' own equality. -/

namespace Go.Proofs.Ytenpcjmhlnalcaa
open Go.RowKit

/-- A slice's address and length read as the strings xs (whatever the address where there are none). -/
def Strs (w : World) (a : Option Addr) (xs : List ByteArray) : Prop := ∀ j, j < xs.length → ∃ b o, a = some ⟨b, o, none⟩ ∧ w.cell? ⟨b, o + j, none⟩ = some (.string (xs.getD j ByteArray.empty))

/-- A slice reads as the strings xs. -/
def StrRow (w : World) (b o : Nat) (xs : List ByteArray) : Prop := ∀ j, j < xs.length → w.cell? ⟨b, o + j, none⟩ = some (.string (xs.getD j ByteArray.empty))

theorem StrRow.strs {w : World} {b o : Nat} {xs : List ByteArray} (h : StrRow w b o xs) : Strs w (some ⟨b, o, none⟩) xs := fun j hj => ⟨b, o, rfl, h j hj⟩
theorem StrRow.of_block {w w' : World} {b o : Nat} {xs : List ByteArray} (h : StrRow w b o xs) (hb : w'.heap[b]? = w.heap[b]?) : StrRow w' b o xs := fun j hj => by
  rw [World.cell?_of_block (w := w) (w' := w') (a := ⟨b, o + j, none⟩) hb]; exact h j hj
theorem Strs.keeps {w w' : World} {a : Option Addr} {xs : List ByteArray} (h : Strs w a xs) (hb : Below w.heap.size w w') : Strs w' a xs := fun j hj => by
  obtain ⟨b, o, e, hc⟩ := h j hj
  exact ⟨b, o, e, by rw [hb.cell (p := ⟨b, o + j, none⟩) (World.block_lt_of_cell? w _ hc)]; exact hc⟩

end Go.Proofs.Ytenpcjmhlnalcaa
