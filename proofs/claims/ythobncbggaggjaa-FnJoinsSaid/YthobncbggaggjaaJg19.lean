/-
  TEXTS of one claim, put together: WBor, WCur, StrRow, WPick.
-/
import Derived.Test.YthobncbggaggjaaJg13
import Derived.Test.YthobncbggaggjaaJg18
import Derived.Test.YthobncbggaggjaaJg16
import Derived.Deep.RegionLaw
import Derived.Deep.AppendLies
import Derived.Test.YthobncbggaggjaaJg0
import Derived.Test.YthobncbggaggjaaProg
import Derived.WalkKit
import Derived.WalkLawsBesides
import Derived.Outline
import Derived.Lib.Hide
import Derived.Deep.QuietTactic
import Derived.BigQuiet
import Derived.WalkSmall
import Derived.IntWalk
import Derived.Laws.Bits64
import Derived.Deep.DeepCutAuto
/-! WALK of chapter 13 (spec): the matrix of a border. -/

namespace Go.Proofs.Ythobncbggaggjaa
open Go.RowKit
open Sets

/-- The numbers of the faces L in the borders of the faces H. -/
def borR (t : Int) (H : List Int) : List Int := H.map fun s => Hom.sgn t.toNat s.toNat
def borM (L H : List Int) : Lin.Mat := L.map fun t => borR t H
theorem take_snocB {α : Type} (l : List α) (k : Nat) (h : k < l.length) : l.take (k + 1) = l.take k ++ [l[k]] := by rw [List.take_append_getElem h]
theorem borR_next (t : Int) (H : List Int) (k : Nat) (h : k < H.length) : borR t (H.take (k + 1)) = borR t (H.take k) ++ [Hom.sgn t.toNat (H.getD k 0).toNat] := by
  unfold borR
  rw [take_snocB H k h, List.map_append]
  simp [List.getD, List.getElem?_eq_getElem h]
theorem borM_next (L H : List Int) (k : Nat) (h : k < L.length) : borM (L.take (k + 1)) H = borM (L.take k) H ++ [borR (L.getD k 0) H] := by
  unfold borM
  rw [take_snocB L k h, List.map_append]
  simp [List.getD, List.getElem?_eq_getElem h]
theorem borR_length (t : Int) (H : List Int) : (borR t H).length = H.length := by simp [borR]
theorem borM_length (L H : List Int) : (borM L H).length = L.length := by simp [borM]
theorem sized_at (n : Int) (xs : List Int) (q : Int) (j : Nat) (h : j < (sized q (faces n xs)).length) : ∃ s : Nat, (sized q (faces n xs)).getD j 0 = (s : Int) ∧ s < 64 := by
  have hm : (sized q (faces n xs)).getD j 0 ∈ faces n xs := by
    simp only [List.getD, List.getElem?_eq_getElem h, Option.getD_some]
    exact (List.mem_filter.1 (List.getElem_mem h)).1
  obtain ⟨i, hi, e⟩ := List.getElem_of_mem hm
  obtain ⟨s, h1, h2⟩ := faces_at n xs i hi
  exact ⟨s, by rw [← h1, ← e]; simp [List.getD, List.getElem?_eq_getElem hi], h2⟩
theorem sized_le (n : Int) (xs : List Int) (q : Int) : (sized q (faces n xs)).length ≤ 64 := Nat.le_trans (sized_length _ _) (faces_le n xs)

set_option maxRecDepth 100000 in
set_option maxHeartbeats 4000000 in
theorem l13Border_any (n : Int) (a : Option Addr) (c : Nat) (xs : List Int) (hlen : xs.length ≤ 1099511627776) (q : Int) (hq0 : -1000 ≤ q) (hq1 : q ≤ 1000) (w : World) (h : Ints w a xs) :
    Calls Try.prog 63 #[cx n (.slice a xs.length c), .int .i64 q] w fun e w' => ∃ v R, e = .returned v ∧ OwnMx w' w.heap.size v R (borM (sized (q - 1) (faces n xs)) (sized q (faces n xs))) ∧ Below w.heap.size w w' := by
  obtain ⟨i0, hi, hz0, hz1, hz2⟩ := info_parts info_int
  obtain ⟨i9, hi9, hz90, hz91, hz92⟩ := info_parts info_row
  have hb0 : Below w.heap.size w ((w.alloc (Obj.cells #[Value.int IntKind.i64 n, Value.slice a xs.length c] 26)).alloc (.cells #[] 24)) := ((Below.refl _ _).alloc (Nat.le_refl _) _).alloc (by simp) _
  have hO0 := OwnMx.lit (w.alloc (Obj.cells #[Value.int IntKind.i64 n, Value.slice a xs.length c] 26)) w.heap.size (by simp)
  have htwo := (Two.new w (.int .i64 n) (.slice a xs.length c) 26).alloc (.cells #[] 24)
  have H := Lib.hid (h.keeps hb0)
  have HB0 := Lib.hid hb0
  have HO0 := Lib.hid hO0
  have HT := Lib.hid htwo
  clear h hb0 hO0 htwo
  have hleL := sized_le n xs (q - 1)
  have hleH := sized_le n xs q
  have HFL := Lib.hid (sized_at n xs (q - 1))
  have HFH := Lib.hid (sized_at n xs q)
  obtain ⟨L, hL⟩ : ∃ L, sized (q - 1) (faces n xs) = L := ⟨_, rfl⟩
  obtain ⟨G, hG⟩ : ∃ G, sized q (faces n xs) = G := ⟨_, rfl⟩
  have HLL := Lib.hid hL
  have HGG := Lib.hid hG
  rw [hL] at hleL HFL
  rw [hG] at hleH HFH
  rw [hL, hG]
  clear hL hG
  go_enter Try.func63, Try.ntmps63
  obtain ⟨t0, t1, t2, _, _⟩ := HT.out
  go_wp2_with fail
  refine (specSized_any n _ _ xs hlen (q - 1) _ H.out).mono ?_
  rw [HLL.out]
  rintro e w1 ⟨v1, rfl, hO1, hb1⟩
  obtain ⟨al, dl, gl, rfl, hgl, hrl⟩ := hO1.at
  have HB1 : Hid (Below w.heap.size w w1) := HB0.out.trans (hb1.mono HB0.out.size)
  have HRL1 := Lib.hid hrl
  have HO1 := Lib.hid (OwnMx.keeps HO0.out hb1)
  have HT1 := Lib.hid (HT.out.keeps hb1)
  have H1 := Lib.hid (H.out.keeps hb1)
  have hz1w := HB1.out.size
  rw [World.size_alloc] at HO1
  simp only [World.size_alloc] at hgl
  clear hO1 hrl hb1 t0 t1 t2
  obtain ⟨t0, t1, t2, _, _⟩ := HT1.out
  go_wp2_with fail
  refine (specSized_any n _ _ xs hlen q _ H1.out).mono ?_
  rw [HGG.out]
  rintro e w2 ⟨v2, rfl, hO2, hb2⟩
  obtain ⟨ah, dh, gh, rfl, hgh, hrh, hgh2⟩ : ∃ ah dh gh, v2 = .slice ah G.length dh ∧ gh ≠ w.heap.size + 1 ∧ IntsAt w2 gh ah G ∧ gh < w2.heap.size := by
    obtain ⟨ah, dh, gh, hv, hgh, hrh⟩ := hO2.at
    have hw1 : w.heap.size + 1 < w1.heap.size := (World.ownsRow.lt HO1.out.own (w.heap.size + 1) rfl).2
    by_cases h0 : 0 < G.length
    · exact ⟨ah, dh, gh, hv, by omega, hrh, (hrh 0 h0).2.1⟩
    · exact ⟨ah, dh, w.heap.size, hv, by omega, fun j hj => absurd hj (by omega), by have := hb2.size; omega⟩
  have HB2 : Hid (Below w.heap.size w w2) := HB1.out.trans (hb2.mono hz1w)
  have HRL2 := Lib.hid (HRL1.out.keeps hb2)
  have HRH2 := Lib.hid hrh
  have HO2 := Lib.hid (OwnMx.keeps HO1.out hb2)
  have hz2w := HB2.out.size
  have hz12 := hb2.size
  have hm1 : w.heap.size + 1 < w1.heap.size := by
    have := HO1.out
    obtain ⟨_, h2⟩ := World.ownsRow.lt this.own (w.heap.size + 1) rfl
    exact h2
  clear hO2 hrh hb2 t0 t1 t2 HO1 HRL1 HT1 H1
  have hne1 : (Value.slice (some ⟨w.heap.size + 1, 0, none⟩) 0 0).ownBlock ≠ some gl := by simp only [Value.ownBlock, ne_eq, Option.some.injEq]; omega
  have hne2 : (Value.slice (some ⟨w.heap.size + 1, 0, none⟩) 0 0).ownBlock ≠ some gh := by simp only [Value.ownBlock, ne_eq, Option.some.injEq]; omega
  go_wp2
  go_loopw [5, 8] (fun v i wr => ∃ (k : Nat) (R : List (Nat × Nat)), k ≤ L.length ∧ i = .int .i64 (k : Int) ∧ OwnMx wr w.heap.size v R (borM (L.take k) G) ∧ Below w.heap.size w wr ∧ IntsAt wr gl al L ∧ IntsAt wr gh ah G ∧ v.ownBlock ≠ some gl ∧ v.ownBlock ≠ some gh ∧ w2.heap.size ≤ wr.heap.size) (fun _ i _ => L.length - (intOf i).toNat)
  case atStart => exact ⟨0, [], Nat.zero_le _, rfl, HO2.out, HB2.out, HRL2.out, HRH2.out, hne1, hne2, Nat.le_refl _⟩
  case round =>
    clear hne1 hne2 HO2 HB2 HRL2 HRH2
    obtain ⟨k, R, hk, rfl, hO, hB, hRL, hRH, hnl, hnh, hzw⟩ := hrel
    have hghw : gh < wr.heap.size := by omega
    have HO := Lib.hid hO
    have HBO := Lib.hid hB
    have HRL := Lib.hid hRL
    have HRH := Lib.hid hRH
    have HNL := Lib.hid hnl
    have HNH := Lib.hid hnh
    have hszo := hB.size
    obtain ⟨wo, rfl⟩ : ∃ wo : World, wo = wr := ⟨_, rfl⟩
    clear hO hRL hRH hnl hnh hB
    by_cases hlt : k < L.length
    · obtain ⟨t, ht, ht64⟩ := HFL.out k hlt
      have HTT := Lib.hid ht
      have hltk : decide ((k : Int) < (L.length : Int)) = true := by simpa using hlt
      have hstart := Lib.hid (OwnInts.lit wo wo.heap.size [] (Nat.le_refl _) (by simp))
      clear ht
      go_wp2
      go_loopw [9, 10] (fun v i wr => ∃ (k2 gg cc : Nat), k2 ≤ G.length ∧ i = .int .i64 (k2 : Int) ∧ v = .slice (some ⟨gg, 0, none⟩) k2 cc ∧ OwnInts wr wo.heap.size v (borR (t : Int) (G.take k2)) ∧ Below wo.heap.size wo wr) (fun _ i _ => G.length - (intOf i).toNat)
      case atStart => exact ⟨0, wo.heap.size, 0, Nat.zero_le _, rfl, rfl, hstart.out, (Below.refl _ _).alloc (Nat.le_refl _) _⟩
      case round =>
        clear hstart
        obtain ⟨k2, gg, cc, hk2, rfl, rfl, hO3, hB3⟩ := hrel
        have HO3 := Lib.hid hO3
        unfold OwnInts at HO3
        have hsz := hB3.size
        have hl := borR_length (t : Int) (G.take k2)
        rw [List.length_take, Nat.min_eq_left hk2] at hl
        rw [hl] at HO3
        have HL := Lib.hid hl
        clear hO3 hl
        by_cases hlk : k2 < G.length
        · obtain ⟨s, hs, hs64⟩ := HFH.out k2 hlk
          obtain ⟨ea, hg1, hc1, _⟩ := HRL.out.keeps hB3 k hlt
          obtain ⟨eb, hg2, hc2, _⟩ := HRH.out.keeps hB3 k2 hlk
          rw [HTT.out] at hc1
          rw [hs] at hc2
          have HN := Lib.hid (borR_next (t : Int) G k2 hlk)
          rw [hs] at HN
          obtain rfl := ea
          obtain rfl := eb
          obtain ⟨z, hz⟩ : ∃ z, Hom.sgn t s = z := ⟨_, rfl⟩
          have HZ := Lib.hid hz
          have HSG := Lib.hid (fun W => l13Sign_any t s ht64 hs64 W)
          rw [hz] at HSG
          rw [show Hom.sgn (t : Int).toNat (s : Int).toNat = z from hz] at HN
          clear hs hz
          have hbg : ∀ g, (Value.slice (some ⟨gg, 0, none⟩) k2 cc).ownBlock = some g → wo.heap.size ≤ g := fun g hg => (HO3.out.lt g hg).1
          have HBG := Lib.hid hbg
          clear hbg
          go_wp2_with fail
          go_region_law (first | (go_simp; go_at_call 87; refine (HSG.out _).mono ?_; rintro e w' ⟨rfl, rfl⟩) | (refine step_append_lies _ (by rfl) _ _ _ (by rfl) wo.heap.size 3 i0 (.int .i64 0) 1 8 Try.underlying24 hi hz0 hz1 hz2 rfl (by omega) (.slice (some ⟨gg, 0, none⟩) k2 cc) k2 (List.map (Value.int IntKind.i64) (borR (t : Int) (G.take k2))) (by rfl) ((HO3.out.alloc _).drew) ⟨wr.heap.size, 0, none⟩ 1 1 [.int .i64 z] (by rfl) (by rfl) (World.news_of_block (cs := #[.int .i64 z]) (t := 3) (fr := (0, 0)) (heap_alloc_new wr _)) (by simp [Value.oneCell']) (by omega) (by unfold maxLen; omega) (by omega) (by simp; omega) (wr.heap.size + 1) (by simp) ?_; intro gg2 cap w1 hown1 hgrow hat hlt3) | fail "arm")
          all_goals
            have hB4 : Below wo.heap.size wo w1 := ((hB3.alloc hsz _).drew).grown hgrow (by simp; omega) HBG.out
            have hO4 : OwnInts w1 wo.heap.size (.slice (some ⟨gg2, 0, none⟩) (k2 + 1) cap) (borR (t : Int) (G.take (k2 + 1))) := by
              unfold OwnInts
              rw [HN.out, List.length_append, List.map_append, HL.out]
              exact hown1
            have HO4 := Lib.hid hO4
            clear hown1 hgrow hat hO4
            go_wp2
            refine ⟨⟨k2 + 1, gg2, cap, by omega, by go_num, rfl, HO4.out, hB4⟩, ?_⟩
            simp [intOf]; omega
        · have hE : k2 = G.length := by omega
          have HE := Lib.hid hE
          have hOI : OwnInts wr wo.heap.size (.slice (some ⟨gg, 0, none⟩) k2 cc) (borR (t : Int) G) := by
            have h := HO3.out
            rw [hE, List.take_length] at h
            unfold OwnInts
            rw [borR_length, hE]; exact h
          obtain ⟨hg1, hg2, hIr, -⟩ := hOI.known
          have HIR := Lib.hid hIr
          have HM := Lib.hid (HO.out.keeps hB3)
          have hzl := borM_length (L.take k) G
          rw [List.length_take, Nat.min_eq_left hk] at hzl
          have HOW := Lib.hid HM.out.own
          rw [hzl] at HOW
          have HZL := Lib.hid hzl
          have hnn : u5.ownBlock ≠ some gg := fun e => by have := (HO.out.own.lt gg e).2; omega
          have HNN := Lib.hid hnn
          have hnr : Hid (gg ∉ blks R) := fun hm => by have := (HO.out.old hm).2; omega
          have HN := Lib.hid ((borM_next L G k hlt).trans (by rw [HTT.out] : _ = borM (L.take k) G ++ [borR (t : Int) G]))
          have hgl3 : gl < wo.heap.size := (HRL.out k hlt).2.1
          clear hOI hIr HO3 hzl hnn hE
          go_wp2_with (at_builtin; refine wpList_append_own_at _ rfl _ _ 67 rfl w.heap.size 24 i9 (.slice none 0 0) 1 24 Try.underlying67 hi9 hz90 hz91 hz92 rfl (by decide) _ _ _ rfl (HOW.out.alloc _) ⟨wr.heap.size, 0, none⟩ 1 1 [.slice (some ⟨gg, 0, none⟩) k2 cc] rfl rfl ?c1 ?c2 ?c3 ?c4 ?c5 ?_)
          case c1 => intro j u hj; exact Mem.cell_new wr _ _ j u hj
          case c2 => intro u hu; simp at hu; subst hu; rfl
          case c3 => unfold maxLen; omega
          case c4 => omega
          case c5 => simp; omega
          intro v' w3 hown1 hgrow _ hob
          have hBA : Below wr.heap.size wr (wr.alloc (.cells #[.slice (some ⟨gg, 0, none⟩) k2 cc] 24)) := (Below.refl _ _).alloc (Nat.le_refl _) _
          have hB5 : Below w.heap.size w w3 := ((HBO.out.trans (hB3.mono hszo)).trans (hBA.mono (by omega))).grown hgrow (by simp; omega) (fun g hg => (HO.out.own.lt g hg).1)
          have hRL5 := IntsAt.away ((HRL.out.keeps hB3).keeps hBA) hgrow HNL.out
          have hRH5 := IntsAt.away ((HRH.out.keeps hB3).keeps hBA) hgrow HNH.out
          have hO5 : OwnMx w3 w.heap.size v' (R ++ [(gg, cc)]) (borM (L.take (k + 1)) G) := by
            rw [HN.out]
            refine OwnMx.next (HM.out.keeps hBA) (by omega) (by simp; omega) (HIR.out.keeps hBA) hnr.out HNN.out ?_ hgrow ?_
            · rw [HZL.out, borR_length, ← HE.out]; exact hown1
            · rcases hob with e | e
              · exact .inl e
              · exact .inr ⟨_, e, by rw [World.size_alloc]; exact Nat.le_refl _⟩
          have hn5 : ∀ g, g < wo.heap.size → u5.ownBlock ≠ some g → v'.ownBlock ≠ some g := fun g hg hne => by
            rcases hob with e | e
            · rw [e]; exact hne
            · rw [e]; simp; omega
          have hz5 := hgrow.size
          have HO5 := Lib.hid hO5
          have H5L := Lib.hid hRL5
          have H5H := Lib.hid hRH5
          have HN5 := Lib.hid hn5
          simp only [World.size_alloc] at hz5
          clear hown1 hgrow hob hO5 hRL5 hRH5 hn5
          go_wp2
          go_roundw
          case rel => exact ⟨k + 1, R ++ [(gg, cc)], by omega, by go_num, HO5.out, hB5, H5L.out, H5H.out, HN5.out gl hgl3 HNL.out, HN5.out gh (by omega) HNH.out, by omega⟩
          case measure => simp [intOf]; omega
    · have E := Lib.hid (show k = L.length by omega)
      go_wp2
      go_ret
      refine ⟨u5, R, rfl, ?_, HBO.out⟩
      have h := HO.out
      rw [E.out, List.take_length] at h
      exact h

end Go.Proofs.Ythobncbggaggjaa

/-! WALKS: the cursor over the bytes of a draw: what it hands back is in range; it changes its own block alone. -/

namespace Go.Proofs.Ythobncbggaggjaa
open Go.RowKit

/-- A slice of n bytes, none of them in block B. -/
def Bytes (w : World) (a : Option Addr) (n : Nat) (B : Nat) : Prop := ∀ j, j < n → ∃ b o x : Nat, a = some ⟨b, o, none⟩ ∧ b ≠ B ∧ x ≤ 255 ∧ w.cell? ⟨b, o + j, none⟩ = some (.int .u8 (x : Int))

/-- A cursor in block B over n bytes. -/
structure Cur (w : World) (B : Nat) (a : Option Addr) (n c : Nat) : Prop where
  c0 : w.cell? ⟨B, 0, none⟩ = some (.slice a n c)
  c1 : ∃ i : Nat, i ≤ n ∧ w.cell? ⟨B, 1, none⟩ = some (.int .i64 (i : Int))
  c2 : ∃ h : Int, w.cell? ⟨B, 2, none⟩ = some (.int .i64 h)
  fr : ∀ j, w.frozen? ⟨B, j, none⟩ = false
  bs : Bytes w a n B

theorem Bytes.of_but {w w' : World} {a : Option Addr} {n B : Nat} (h : Bytes w a n B) (hg : w.grownBy w' (some B)) : Bytes w' a n B := fun j hj => by
  obtain ⟨b, o, x, e, hb, hx, hc⟩ := h j hj
  exact ⟨b, o, x, e, hb, hx, by rw [hg.cell_far ⟨b, o + j, none⟩ (World.block_lt_of_cell? w _ hc) (by simpa using hb)]; exact hc⟩

theorem Cur.set1 {w : World} {B : Nat} {a : Option Addr} {n c : Nat} (h : Cur w B a n c) (i : Nat) (hi : i ≤ n) : Cur (w.setCell ⟨B, 1, none⟩ (.int .i64 (i : Int))) B a n c := by
  obtain ⟨c0, ⟨i0, _, c1⟩, ⟨h2, c2⟩, fr, bs⟩ := h
  refine ⟨?_, ⟨i, hi, World.cell?_setCell_same _ _ _ c1⟩, ⟨h2, ?_⟩, fun j => ?_, bs.of_but (Mem.but_setCell _ _ _ _)⟩
  · rw [World.cell?_setCell_other _ _ _ _ (by simp)]; exact c0
  · rw [World.cell?_setCell_other _ _ _ _ (by simp)]; exact c2
  · rw [World.frozen?_setCell]; exact fr j
theorem Cur.set2 {w : World} {B : Nat} {a : Option Addr} {n c : Nat} (h : Cur w B a n c) (v : Int) : Cur (w.setCell ⟨B, 2, none⟩ (.int .i64 v)) B a n c := by
  obtain ⟨c0, ⟨i0, hi, c1⟩, ⟨h2, c2⟩, fr, bs⟩ := h
  refine ⟨?_, ⟨i0, hi, ?_⟩, ⟨v, World.cell?_setCell_same _ _ _ c2⟩, fun j => ?_, bs.of_but (Mem.but_setCell _ _ _ _)⟩
  · rw [World.cell?_setCell_other _ _ _ _ (by simp)]; exact c0
  · rw [World.cell?_setCell_other _ _ _ _ (by simp)]; exact c1
  · rw [World.frozen?_setCell]; exact fr j
theorem Cur.drewN {w : World} {B : Nat} {a : Option Addr} {n c : Nat} (h : Cur w B a n c) (m : Nat) : Cur (w.drewN m) B a n c := ⟨h.c0, h.c1, h.c2, h.fr, h.bs⟩

theorem wrap_small (y : Nat) (h : y ≤ 4294967295) : IntKind.i64.wrap (y : Int) = (y : Int) := by
  rw [IntWalk.i64_in _ (by omega)]
theorem and255 (z : Int) : ∃ x : Nat, x ≤ 255 ∧ bits BinOp.and IntKind.i64 z 255 = (x : Int) := by
  have h : (BitVec.ofInt 64 z &&& BitVec.ofInt 64 255).toNat ≤ 255 := by
    rw [BitVec.toNat_and]; exact Nat.le_trans Nat.and_le_right (by decide)
  refine ⟨_, h, ?_⟩
  show IntKind.i64.wrap ((BitVec.ofInt 64 z &&& BitVec.ofInt 64 255).toNat : Int) = _
  exact wrap_small _ (Nat.le_trans h (by decide))

set_option maxRecDepth 100000 in
set_option maxHeartbeats 2000000 in
theorem byte_any (B : Nat) (a : Option Addr) (n c : Nat) (hn : n ≤ 140737488355328) (w : World) (hc : Cur w B a n c) :
    Calls Try.prog 77 #[.pointer (some ⟨B, 0, none⟩)] w fun e w' => ∃ x : Nat, x ≤ 255 ∧ e = .returned (.int .i64 (x : Int)) ∧ Cur w' B a n c ∧ w.grownBy w' (some B) := by
  have HC := Lib.hid hc
  obtain ⟨c0, ⟨i, hi, c1⟩, ⟨h, c2⟩, fr, bs⟩ := hc
  have f2 := fr 2
  clear bs fr c0 c1 hi i
  go_enter Try.func77, Try.ntmps77
  go_wp2_with fail
  generalize wrap64 (wrap64 (h * 6364136223846793005) + 1442695040888963407) = v
  generalize wrap64 (h * 6364136223846793005) = v'
  have HC1 := Lib.hid (HC.out.set2 v)
  have HG1 := Lib.hid (Mem.but_setCell w B 2 (.int .i64 v))
  clear c2 f2 HC
  generalize w.setCell ⟨B, 2, none⟩ (.int .i64 v) = w1 at *
  obtain ⟨c0, ⟨i, hi, c1⟩, ⟨h2, c2⟩, fr, bs⟩ := HC1.out
  have f1 := fr 1
  have BS := Lib.hid bs
  clear fr bs
  go_quiet (fail)
  obtain ⟨x, hx, ex⟩ := and255 (bits BinOp.xor IntKind.i64 (h2 / 8589934592) (h2 / 35184372088832))
  rw [ex]
  clear ex
  generalize bits BinOp.xor IntKind.i64 (h2 / 8589934592) (h2 / 35184372088832) = z1
  generalize h2 / 8589934592 = z2
  generalize h2 / 35184372088832 = z3
  have c0 : (w1.drewN nq).cell? ⟨B, 0, none⟩ = some (.slice a n c) := c0
  have c1 : (w1.drewN nq).cell? ⟨B, 1, none⟩ = some (.int .i64 (i : Int)) := c1
  have f1 : (w1.drewN nq).frozen? ⟨B, 1, none⟩ = false := f1
  have HC2 := Lib.hid (HC1.out.drewN nq)
  have HG2 := Lib.hid (HG1.out.trans (Mem.but_of_below (Mem.below_drewN w1 nq) _))
  clear HC1 HG1 BS c2
  generalize w1.drewN nq = w2 at *
  by_cases hlt : i < n
  · obtain ⟨b, o, y, rfl, hb, hy, g⟩ := HC2.out.bs i hlt
    go_wp2_with fail
    go_quiet (fail)
    have c0 : (w2.drewN nq).cell? ⟨B, 0, none⟩ = some (.slice (some ⟨b, o, none⟩) n c) := c0
    have c1 : (w2.drewN nq).cell? ⟨B, 1, none⟩ = some (.int .i64 (i : Int)) := c1
    have f1 : (w2.drewN nq).frozen? ⟨B, 1, none⟩ = false := f1
    have g : (w2.drewN nq).cell? ⟨b, o + i, none⟩ = some (.int .u8 (y : Int)) := g
    have HC3 := Lib.hid (HC2.out.drewN nq)
    have HG3 := Lib.hid (HG2.out.trans (Mem.but_of_below (Mem.below_drewN w2 nq) _))
    clear HC2 HG2
    generalize w2.drewN nq = w3 at *
    go_wp2_with fail
    go_quiet (fail)
    obtain ⟨x2, hx2, ex2⟩ := and255 ((x : Int) + (y : Int))
    rw [ex2]
    clear ex2
    have c0 : (w3.drewN nq).cell? ⟨B, 0, none⟩ = some (.slice (some ⟨b, o, none⟩) n c) := c0
    have c1 : (w3.drewN nq).cell? ⟨B, 1, none⟩ = some (.int .i64 (i : Int)) := c1
    have f1 : (w3.drewN nq).frozen? ⟨B, 1, none⟩ = false := f1
    have HC4 := Lib.hid (HC3.out.drewN nq)
    have HG4 := Lib.hid (HG3.out.trans (Mem.but_of_below (Mem.below_drewN w3 nq) _))
    clear HC3 HG3 g
    generalize w3.drewN nq = w4 at *
    go_wp2
    go_ret
    have hs := HC4.out.set1 (i + 1) (by omega)
    have hg := HG4.out.trans (Mem.but_setCell w4 B 1 (.int .i64 ((i + 1 : Nat) : Int)))
    rw [show ((i + 1 : Nat) : Int) = (i : Int) + 1 from by omega] at hs hg
    exact ⟨x2, hx2, rfl, hs, hg⟩
  · go_wp2_with fail
    go_quiet (fail)
    go_wp2
    go_ret
    exact ⟨x, hx, rfl, HC2.out.drewN _, HG2.out.trans (Mem.but_of_below (Mem.below_drewN w2 nq) _)⟩

/-- What a draw hands back: the cursor is as good as before; only its block has changed. -/
def Drew (w w' : World) (B : Nat) (a : Option Addr) (n c : Nat) : Prop := Cur w' B a n c ∧ w.grownBy w' (some B)
theorem Drew.trans {w w1 w2 : World} {B : Nat} {a : Option Addr} {n c : Nat} (h : Drew w w1 B a n c) (k : Drew w1 w2 B a n c) : Drew w w2 B a n c := ⟨k.1, h.2.trans k.2⟩

theorem mod_nat (x n : Nat) (hn : 0 < n) : ∃ r : Nat, r < n ∧ ((x : Int) % (n : Int)) = (r : Int) := ⟨x % n, Nat.mod_lt _ hn, by omega⟩

set_option maxRecDepth 100000 in
set_option maxHeartbeats 2000000 in
theorem below_any (B : Nat) (a : Option Addr) (n c : Nat) (hn : n ≤ 140737488355328) (m : Nat) (hm : 0 < m) (hm2 : m ≤ 4294967296) (w : World) (hc : Cur w B a n c) :
    Calls Try.prog 52 #[.pointer (some ⟨B, 0, none⟩), .int .i64 (m : Int)] w fun e w' => ∃ r : Nat, r < m ∧ e = .returned (.int .i64 (r : Int)) ∧ Drew w w' B a n c := by
  have HC := Lib.hid hc
  clear hc
  by_cases hs : m ≤ 256
  · go_enter Try.func52, Try.ntmps52
    go_wp2_with fail
    refine (byte_any B a n c hn _ HC.out).mono ?_
    rintro e w1 ⟨x, hx, rfl, hc1, hg1⟩
    have HC1 := Lib.hid hc1
    have HG1 := Lib.hid hg1
    clear hc1 hg1
    go_wp2
    go_ret
    obtain ⟨r, hr, er⟩ := mod_nat x m hm
    exact ⟨r, hr, by rw [← er]; rfl, HC1.out, HG1.out⟩
  · go_enter Try.func52, Try.ntmps52
    go_wp2_with fail
    refine (byte_any B a n c hn _ HC.out).mono ?_
    rintro e w1 ⟨x, hx, rfl, hc1, hg1⟩
    have D1 : Hid (Drew w w1 B a n c) := ⟨hc1, hg1⟩
    clear hc1 hg1
    go_wp2_with fail
    refine (byte_any B a n c hn _ D1.out.1).mono ?_
    rintro e w2 ⟨y, hy, rfl, hc1, hg1⟩
    have D2 : Hid (Drew w w2 B a n c) := D1.out.trans ⟨hc1, hg1⟩
    clear hc1 hg1 D1
    go_wp2_with fail
    refine (byte_any B a n c hn _ D2.out.1).mono ?_
    rintro e w3 ⟨z, hz, rfl, hc1, hg1⟩
    have D3 : Hid (Drew w w3 B a n c) := D2.out.trans ⟨hc1, hg1⟩
    clear hc1 hg1 D2
    go_wp2_with fail
    refine (byte_any B a n c hn _ D3.out.1).mono ?_
    rintro e w4 ⟨t, ht, rfl, hc1, hg1⟩
    have D4 : Hid (Drew w w4 B a n c) := D3.out.trans ⟨hc1, hg1⟩
    clear hc1 hg1 D3
    go_wp2
    go_ret
    obtain ⟨r, hr, er⟩ := mod_nat (x * 16777216 + y * 65536 + z * 256 + t) m hm
    have er' : (((x : Int) * 16777216 + (y : Int) * 65536 + (z : Int) * 256 + (t : Int)) % (m : Int)) = (r : Int) := by rw [← er]; simp
    exact ⟨r, hr, by rw [← er']; rfl, D4.out⟩

/-- A slice of n bytes. -/
def Code (w : World) (a : Option Addr) (n : Nat) : Prop := ∀ j, j < n → ∃ b o x : Nat, a = some ⟨b, o, none⟩ ∧ x ≤ 255 ∧ w.cell? ⟨b, o + j, none⟩ = some (.int .u8 (x : Int))
theorem Code.keeps {w w' : World} {a : Option Addr} {n : Nat} (h : Code w a n) (hb : Below w.heap.size w w') : Code w' a n := fun j hj => by
  obtain ⟨b, o, x, e, hx, hc⟩ := h j hj
  exact ⟨b, o, x, e, hx, by rw [hb.cell (p := ⟨b, o + j, none⟩) (World.block_lt_of_cell? w _ hc)]; exact hc⟩

theorem cur_new (w : World) (a : Option Addr) (n c : Nat) (h : Int) (hc : Code w a n) : Cur (w.alloc (.cells #[.slice a n c, .int .i64 0, .int .i64 h] 76)) w.heap.size a n c := by
  refine ⟨World.cell?_alloc_new w _ _ 0, ⟨0, Nat.zero_le _, World.cell?_alloc_new w _ _ 1⟩, ⟨h, World.cell?_alloc_new w _ _ 2⟩, fun j => World.frozen?_alloc_at _ _ _ _ rfl, fun j hj => ?_⟩
  obtain ⟨b, o, x, e, hx, hcell⟩ := hc j hj
  have hlt := World.block_lt_of_cell? w _ hcell
  exact ⟨b, o, x, e, by simp at hlt; omega, hx, by rw [World.cell?_alloc_lt _ _ _ hlt]; exact hcell⟩

set_option maxRecDepth 100000 in
set_option maxHeartbeats 2000000 in
/-- l1New: a cursor in a new block. -/
theorem new_any (a : Option Addr) (n c : Nat) (hn : n ≤ 140737488355328) (w : World) (hc : Code w a n) :
    Calls Try.prog 48 #[.slice a n c] w fun e w' => e = .returned (.pointer (some ⟨w.heap.size, 0, none⟩)) ∧ Cur w' w.heap.size a n c ∧ w.heap.size < w'.heap.size ∧ Below w.heap.size w w' := by
  have HC := Lib.hid hc
  clear hc
  go_enter Try.func48, Try.ntmps48
  go_wp2
  go_loop [3, 4] (fun h i => ∃ (k : Nat) (v : Int), k ≤ n ∧ i = .int .i64 (k : Int) ∧ h = .int .i64 v) (fun _ i => n - (intOf i).toNat)
  case atStart => exact ⟨0, _, Nat.zero_le _, rfl, rfl⟩
  case round =>
    obtain ⟨k, v, hk, rfl, rfl⟩ := hrel
    by_cases hlt : k < n
    · by_cases h4 : k < 4000
      · obtain ⟨b, o, x, rfl, hx, g⟩ := HC.out k hlt
        go_wp2
        go_round
        case rel => exact ⟨k + 1, _, by omega, by go_num, rfl⟩
        case measure => simp [intOf]; omega
      · go_wp2
        go_ret
        exact ⟨rfl, cur_new _ _ _ _ _ HC.out, by simp, (Below.refl _ _).alloc (Nat.le_refl _) _⟩
    · go_wp2
      go_ret
      exact ⟨rfl, cur_new _ _ _ _ _ HC.out, by simp, (Below.refl _ _).alloc (Nat.le_refl _) _⟩

end Go.Proofs.Ythobncbggaggjaa

/-! WALKS: slices of strings: what they read as; the laws' own equality. -/

namespace Go.Proofs.Ythobncbggaggjaa
open Go.RowKit

/-- A slice's address and length read as the strings xs (whatever the address where there are none). -/
def Strs (w : World) (a : Option Addr) (xs : List ByteArray) : Prop := ∀ j, j < xs.length → ∃ b o, a = some ⟨b, o, none⟩ ∧ w.cell? ⟨b, o + j, none⟩ = some (.string (xs.getD j ByteArray.empty))

/-- A slice reads as the strings xs. -/
def StrRow (w : World) (b o : Nat) (xs : List ByteArray) : Prop := ∀ j, j < xs.length → w.cell? ⟨b, o + j, none⟩ = some (.string (xs.getD j ByteArray.empty))

theorem StrRow.strs {w : World} {b o : Nat} {xs : List ByteArray} (h : StrRow w b o xs) : Strs w (some ⟨b, o, none⟩) xs := fun j hj => ⟨b, o, rfl, h j hj⟩
theorem StrRow.of_block {w w' : World} {b o : Nat} {xs : List ByteArray} (h : StrRow w b o xs) (hb : w'.heap[b]? = w.heap[b]?) : StrRow w' b o xs := fun j hj => by
  rw [World.cell?_of_block (w := w) (w' := w') (a := ⟨b, o + j, none⟩) hb]; exact h j hj
theorem Strs.keeps {w w' : World} {a : Option Addr} {xs : List ByteArray} (h : Strs w a xs) (hb : Below w.heap.size w w') : Strs w' a xs := fun j hj => by
  obtain ⟨b, o, e, hc⟩ := h j hj
  exact ⟨b, o, e, by rw [hb.cell (p := ⟨b, o + j, none⟩) (World.block_lt_of_cell? w _ hc)]; exact hc⟩

end Go.Proofs.Ythobncbggaggjaa

/-! WALKS: picking one of a list of strings, one of a list of numbers. -/

namespace Go.Proofs.Ythobncbggaggjaa
open Go.RowKit

/-- A slice reads as the numbers zs. -/
def IntRow (w : World) (b o : Nat) (zs : List Int) : Prop := ∀ j, j < zs.length → w.cell? ⟨b, o + j, none⟩ = some (.int .i64 (zs.getD j 0))

set_option maxRecDepth 100000 in
theorem pick_any (B : Nat) (a : Option Addr) (n c : Nat) (hn : n ≤ 140737488355328) (b o cc : Nat) (xs : List ByteArray) (h0 : 0 < xs.length) (h1 : xs.length ≤ 4294967296) (w : World) (hc : Cur w B a n c) (hbB : b ≠ B) (hr : StrRow w b o xs) :
    Calls Try.prog 94 #[.pointer (some ⟨B, 0, none⟩), .slice (some ⟨b, o, none⟩) xs.length cc] w fun e w' => ∃ r : Nat, r < xs.length ∧ e = .returned (.string (xs.getD r ByteArray.empty)) ∧ Drew w w' B a n c := by
  have HC := Lib.hid hc
  have HR := Lib.hid hr
  clear hc hr
  go_enter Try.func94, Try.ntmps94
  go_wp2_with fail
  refine (below_any B a n c hn xs.length h0 h1 _ HC.out).mono ?_
  rintro e w1 ⟨r, hr, rfl, hd⟩
  have HD := Lib.hid hd
  have g0 := HR.out r hr
  have g : w1.cell? ⟨b, o + r, none⟩ = some (.string (xs.getD r ByteArray.empty)) := by rw [hd.2.cell_far ⟨b, o + r, none⟩ (World.block_lt_of_cell? w _ g0) (by simpa using hbB)]; exact g0
  clear hd g0
  generalize hx : xs.getD r ByteArray.empty = x at g
  have HX := Lib.hid hx
  clear hx
  go_wp2
  go_ret
  exact ⟨r, hr, by rw [HX.out]; rfl, HD.out⟩

set_option maxRecDepth 100000 in
theorem pickInt_any (B : Nat) (a : Option Addr) (n c : Nat) (hn : n ≤ 140737488355328) (b o cc : Nat) (zs : List Int) (h0 : 0 < zs.length) (h1 : zs.length ≤ 4294967296) (w : World) (hc : Cur w B a n c) (hbB : b ≠ B) (hr : IntRow w b o zs) :
    Calls Try.prog 76 #[.pointer (some ⟨B, 0, none⟩), .slice (some ⟨b, o, none⟩) zs.length cc] w fun e w' => ∃ r : Nat, r < zs.length ∧ e = .returned (.int .i64 (zs.getD r 0)) ∧ Drew w w' B a n c := by
  have HC := Lib.hid hc
  have HR := Lib.hid hr
  clear hc hr
  go_enter Try.func76, Try.ntmps76
  go_wp2_with fail
  refine (below_any B a n c hn zs.length h0 h1 _ HC.out).mono ?_
  rintro e w1 ⟨r, hr, rfl, hd⟩
  have HD := Lib.hid hd
  have g0 := HR.out r hr
  have g : w1.cell? ⟨b, o + r, none⟩ = some (.int .i64 (zs.getD r 0)) := by rw [hd.2.cell_far ⟨b, o + r, none⟩ (World.block_lt_of_cell? w _ g0) (by simpa using hbB)]; exact g0
  clear hd g0
  generalize hx : zs.getD r 0 = x at g
  have HX := Lib.hid hx
  clear hx
  go_wp2
  go_ret
  exact ⟨r, hr, by rw [HX.out]; rfl, HD.out⟩

theorem row_lit (w : World) (xs : List ByteArray) (t : TypeId) : StrRow (w.alloc (.cells (xs.map Value.string).toArray t)) w.heap.size 0 xs := fun j hj => by
  rw [Nat.zero_add, World.cell?_alloc_new, List.getElem?_toArray, List.getElem?_map, List.getD, List.getElem?_eq_getElem hj]; rfl
theorem row_ints (w : World) (zs : List Int) (t : TypeId) : IntRow (w.alloc (.cells (zs.map (Value.int .i64)).toArray t)) w.heap.size 0 zs := fun j hj => by
  rw [Nat.zero_add, World.cell?_alloc_new, List.getElem?_toArray, List.getElem?_map, List.getD, List.getElem?_eq_getElem hj]; rfl
theorem Cur.alloc {w : World} {B : Nat} {a : Option Addr} {n c : Nat} (h : Cur w B a n c) (hB : B < w.heap.size) (o : Obj) : Cur (w.alloc o) B a n c := by
  have hb := (Below.refl w.heap.size w).alloc (Nat.le_refl _) o
  have e := hb.block B hB
  refine ⟨(World.cell?_of_block (w := w) (a := ⟨B, 0, none⟩) e).trans h.c0, ?_, ?_, fun j => (World.frozen?_of_block (w := w) (a := ⟨B, j, none⟩) e).trans (h.fr j), h.bs.of_but (Mem.but_of_below hb _)⟩
  · obtain ⟨i, hi, hc⟩ := h.c1
    exact ⟨i, hi, (World.cell?_of_block (w := w) (a := ⟨B, 1, none⟩) e).trans hc⟩
  · obtain ⟨x, hc⟩ := h.c2
    exact ⟨x, (World.cell?_of_block (w := w) (a := ⟨B, 2, none⟩) e).trans hc⟩

theorem below_lit (B : Nat) (a : Option Addr) (n c : Nat) (hn : n ≤ 140737488355328) (k : Int) (m : Nat) (hk : k = (m : Int)) (hm : 0 < m) (hm2 : m ≤ 4294967296) (w : World) (hc : Cur w B a n c) :
    Calls Try.prog 52 #[.pointer (some ⟨B, 0, none⟩), .int .i64 k] w fun e w' => ∃ r : Nat, r < m ∧ e = .returned (.int .i64 (r : Int)) ∧ Drew w w' B a n c := by
  subst hk; exact below_any B a n c hn m hm hm2 w hc

end Go.Proofs.Ythobncbggaggjaa
