/-
  WALKS: spec.l3Pure: a complex of so many points, all of whose facets have one size, is drawn.
-/
import Derived.Test.YtenpcjmhlnalcaaGreatWDrawCx1
import Derived.Test.YtenpcjmhlnalcaaGreatJg7
namespace Go.Proofs.YtenpcjmhlnalcaaGreat
open Go.RowKit
open Sets

theorem firsts_at (q : Nat → Bool) (k j : Nat) (h : j < (firsts q k).length) : ∃ t : Nat, (firsts q k).getD j 0 = (t : Int) ∧ t < k := by
  have hm : (firsts q k).getD j 0 ∈ firsts q k := by rw [List.getD, List.getElem?_eq_getElem h]; exact List.getElem_mem h
  obtain ⟨t, e, ht, _⟩ := (mem_firsts q k _).1 hm
  exact ⟨t, e, ht⟩
theorem pure_pos (nn r : Nat) (h6 : nn ≤ 6) (hr : r < nn) : 0 < (firsts (fun s => pc s == r + 1) (2 ^ nn)).length := by
  have H : ∀ (x : Fin 7) (y : Fin 6), y.val < x.val → 0 < (firsts (fun s => pc s == y.val + 1) (2 ^ x.val)).length := by decide +kernel
  exact H ⟨nn, by omega⟩ ⟨r, by omega⟩ hr
theorem IntsAt.under {b : Nat} {w w' : World} {g : Nat} {a : Option Addr} {xs : List Int} (h : IntsAt w g a xs) (hb : Below b w w') (hlt : g < b) : IntsAt w' g a xs := fun j hj => by
  obtain ⟨e, hl, hc, hf⟩ := h j hj
  have := hb.size
  exact ⟨e, by omega, by rw [hb.cell (p := ⟨g, j, none⟩) hlt]; exact hc, by rw [hb.frozen (p := ⟨g, j, none⟩) hlt]; exact hf⟩

set_option maxRecDepth 100000 in
set_option maxHeartbeats 8000000 in
theorem l3Pure_any (a : Option Addr) (n c : Nat) (hn : n ≤ 140737488355328) (nn : Nat) (h1 : 1 ≤ nn) (h6 : nn ≤ 6) (B : Nat) (w : World) (hBw : B < w.heap.size) (hc : Cur w B a n c) :
    Calls Tryz.prog 81 #[.pointer (some ⟨B, 0, none⟩), .int .i64 (nn : Int)] w fun e w' =>
      ∃ v xs, e = .returned (cx (nn : Int) v) ∧ xs.length ≤ 448 ∧ OwnInts w' w.heap.size v xs ∧ Cur w' B a n c ∧ w.grownBy w' (some B) := by
  obtain ⟨i0, hi, hz0, hz1, hz2⟩ := info_parts info_int
  have hb1 : Below w.heap.size w (w.alloc (.cells #[.int .i64 0, .slice none 0 0] 26)) := (Below.refl _ _).alloc (Nat.le_refl _) _
  have htwo := Two.new w (.int .i64 0) (.slice none 0 0) 26
  have HC1 := Lib.hid (hc.keeps hBw hb1)
  have HOLD := Lib.hid hc.old
  have HG1 := Lib.hid (Mem.but_of_below hb1 (some B))
  have HT1 := Lib.hid htwo
  have HPOS := Lib.hid (fun r => pure_pos nn r h6)
  clear hc hb1 htwo
  rcases (by omega : nn = 1 ∨ nn = 2 ∨ nn = 3 ∨ nn = 4 ∨ nn = 5 ∨ nn = 6) with rfl | rfl | rfl | rfl | rfl | rfl
  · go_enter Tryz.func81, Tryz.ntmps81
    go_wp2_with fail
    refine (below_lit B a n c hn _ 1 (by decide) (by decide) (by decide) _ HC1.out).mono ?_
    rintro e w1 ⟨r, hr, rfl, hd⟩
    have K1 := Lib.hid hd.1
    have T1 := Lib.hid (Two.far HT1.out hd.2 (by omega))
    have G1 := Lib.hid (HG1.out.trans hd.2)
    have hs1 : w.heap.size + 1 ≤ w1.heap.size := T1.out.1
    clear hd HC1 HG1 HT1
    go_wp2
    obtain ⟨qf, hqf⟩ : ∃ qf : Nat → Bool, (fun s => pc s == r + 1) = qf := ⟨_, rfl⟩
    have HQF := Lib.hid hqf
    clear hqf
    go_loopw [6, 7] (fun v i wr => ∃ k : Nat, k ≤ 2 ∧ i = .int .i64 (k : Int) ∧ OwnInts wr w1.heap.size v (firsts qf k) ∧ Below w1.heap.size w1 wr) (fun _ i _ => 2 - (intOf i).toNat)
    case atStart => exact ⟨0, Nat.zero_le _, rfl, OwnInts.lit w1 w1.heap.size [] (Nat.le_refl _) (by simp), (Below.refl _ _).alloc (Nat.le_refl _) _⟩
    case round =>
      obtain ⟨k, hk, rfl, hO, hB⟩ := hrel
      have HO := Lib.hid hO
      have hsz := hB.size
      have hl := firsts_length qf k
      clear hO
      by_cases hlt : k < 2
      · obtain ⟨p, hp⟩ : ∃ p, pc k = p := ⟨_, rfl⟩
        have HP := Lib.hid hp
        have hqk : qf k = (p == r + 1) := by rw [← HQF.out, ← hp]
        have HQK := Lib.hid hqk
        clear hp hqk
        by_cases e : p = r + 1
        · have hq : ((p : Int) == 1 + (r : Int)) = true := by simp; omega
          have HN := Lib.hid (firsts_hit qf k (by rw [HQK.out]; simp [e]))
          clear e
          have O4 := HO
          unfold OwnInts at O4
          go_wp2_with fail
          refine (l2Size_b k p HP.out (by omega) _).mono ?_
          rintro e w' ⟨rfl, rfl⟩
          go_wp2_with (at_builtin; refine wpList_append_own _ rfl _ _ 24 rfl w1.heap.size 3 i0 (.int .i64 0) 1 8 Tryz.underlying24 hi hz0 hz1 hz2 rfl (by decide) _ _ _ rfl (O4.out.alloc _) ⟨wr.heap.size, 0, none⟩ 1 1 [.int .i64 (k : Int)] rfl rfl ?c1 ?c2 ?c3 ?c4 ?c5 ?_)
          case c1 => intro j u hj; exact Mem.cell_new wr _ _ j u hj
          case c2 => intro u hu; simp at hu; subst hu; rfl
          case c3 => unfold maxLen; omega
          case c4 => omega
          case c5 => simp; omega
          intro v' w5 hown1 hgrow _
          have hB5 : Below w1.heap.size w1 w5 := (hB.alloc hsz _).grown hgrow (by simp; omega) (fun g hg => (O4.out.lt g hg).1)
          have H1 := Lib.hid hown1
          clear hown1 hgrow
          go_wp2
          go_roundw
          case rel => exact ⟨k + 1, by omega, by go_num, by rw [HN.out]; exact OwnInts.next H1.out, hB5⟩
          case measure => simp [intOf]; omega
        · have hq : ((p : Int) == 1 + (r : Int)) = false := by simp; omega
          have HN := Lib.hid (firsts_miss qf k (by rw [HQK.out]; simp [e]))
          clear e
          go_wp2_with fail
          refine (l2Size_b k p HP.out (by omega) _).mono ?_
          rintro e w' ⟨rfl, rfl⟩
          go_wp2
          go_roundw
          case rel => exact ⟨k + 1, by omega, by go_num, by rw [HN.out]; exact HO.out, hB⟩
          case measure => simp [intOf]; omega
      · have E : k = 2 := by omega
        subst E
        have hL0 : 0 < (firsts qf 2).length := by rw [← HQF.out]; exact HPOS.out r hr
        have HFA := Lib.hid (firsts_at qf 2)
        obtain ⟨aA, cA, gA, rfl, _, hgA, hrA, _⟩ := OwnInts.ata HO.out hsz
        have hgl : gA < wr.heap.size := (hrA 0 hL0).2.1
        have K2 := Lib.hid (K1.out.keeps (by omega) hB)
        have T2 := Lib.hid (Two.keeps T1.out hB)
        have G2 := Lib.hid (G1.out.trans (Mem.but_of_below hB _))
        have R2 := Lib.hid hrA
        clear hrA HO K1 T1 G1 HQF HPOS hlt hk
        generalize firsts qf 2 = L at *
        obtain ⟨wA, rfl⟩ : ∃ wA : World, wA = wr := ⟨_, rfl⟩
        have hb3 : Below wA.heap.size wA (wA.alloc (.cells #[] 3)) := (Below.refl _ _).alloc (Nat.le_refl _) _
        have K3 := Lib.hid (K2.out.keeps (by omega) hb3)
        have O3 := Lib.hid (OwnInts.lit wA wA.heap.size [] (Nat.le_refl _) (by simp))
        have T3 := Lib.hid (Two.keeps T2.out hb3)
        have G3 := Lib.hid (G2.out.trans (Mem.but_of_below hb3 _))
        have R3 := Lib.hid (R2.out.keeps hb3)
        clear hb3 K2 T2 G2 R2
        go_wp2_with fail
        refine (below_lit B a n c hn _ 7 (by decide) (by decide) (by decide) _ K3.out).mono ?_
        rintro e w4 ⟨m0, hm0, rfl, hd⟩
        have K4 := Lib.hid hd.1
        have O4 := Lib.hid (OwnInts.away O3.out hd.2 (by omega))
        have T4 := Lib.hid (Two.far T3.out hd.2 (by omega))
        have G4 := Lib.hid (G3.out.trans hd.2)
        have R4 := Lib.hid (R3.out.far hd.2 (by omega))
        have hs4 := hd.2.size
        simp only [World.size_alloc] at hs4
        obtain ⟨m, hm⟩ : ∃ m, m0 + 1 = m := ⟨_, rfl⟩
        have em : 1 + (m0 : Int) = (m : Int) := by omega
        have hm7 : m ≤ 7 := by omega
        clear hd K3 O3 T3 G3 R3
        go_wp2
        go_loopw [8, 10] (fun v i wr => ∃ (k : Nat) (xs : List Int), k ≤ m ∧ i = .int .i64 (k : Int) ∧ OwnInts wr wA.heap.size v xs ∧ Cur wr B a n c ∧ w.grownBy wr (some B) ∧ Two wr w.heap.size (.int .i64 0) (.slice none 0 0) ∧ xs.length = k ∧ allOk xs = true ∧ IntsAt wr gA aA L ∧ wA.heap.size ≤ wr.heap.size) (fun _ i _ => m - (intOf i).toNat)
        case atStart => exact ⟨0, [], Nat.zero_le _, rfl, O4.out, K4.out, G4.out, T4.out, rfl, rfl, R4.out, by omega⟩
        case round =>
          clear K4 O4 T4 G4 R4 hs4
          obtain ⟨k, xs, hk, rfl, hO, hK, hG, hT, hxl, hok, hR, hsw⟩ := hrel
          have HO := Lib.hid hO
          have HK := Lib.hid hK
          have HG := Lib.hid hG
          have HT := Lib.hid hT
          have HXL := Lib.hid hxl
          have HOK := Lib.hid hok
          have HR := Lib.hid hR
          have hxl1 : xs.length ≤ 7 := by omega
          clear hO hK hG hT hxl hok hR
          by_cases hlt : k < m
          · go_wp2_with fail
            refine (below_lit B a n c hn _ L.length rfl hL0 (by omega) _ HK.out).mono ?_
            rintro e w5 ⟨q, hq, rfl, hd⟩
            obtain ⟨t, ht, htp⟩ := HFA.out q hq
            have hs : t < 64 := by omega
            have K5 := Lib.hid hd.1
            have O5 := Lib.hid (OwnInts.away HO.out hd.2 (by omega))
            unfold OwnInts at O5
            have T5 := Lib.hid (Two.far HT.out hd.2 (by omega))
            have G5 := Lib.hid (HG.out.trans hd.2)
            have R5 := Lib.hid (HR.out.far hd.2 (by omega))
            have hs5 := hd.2.size
            obtain ⟨ea, _, hcell, _⟩ := R5.out q hq
            rw [ht] at hcell
            obtain rfl := ea
            clear hd HK HO HT HG HR ht
            go_wp2_with (at_builtin; refine wpList_append_own _ rfl _ _ 24 rfl wA.heap.size 3 i0 (.int .i64 0) 1 8 Tryz.underlying24 hi hz0 hz1 hz2 rfl (by decide) _ _ _ rfl (O5.out.alloc _) ⟨w5.heap.size, 0, none⟩ 1 1 [.int .i64 (t : Int)] rfl rfl ?c1 ?c2 ?c3 ?c4 ?c5 ?_)
            case c1 => intro j u hj; exact Mem.cell_new w5 _ _ j u hj
            case c2 => intro u hu; simp at hu; subst hu; rfl
            case c3 => unfold maxLen; omega
            case c4 => omega
            case c5 => simp; omega
            intro v' w6 hown1 hgrow _
            have hbs : Below wA.heap.size w5 w6 := ((Below.refl _ _).alloc (by omega) _).grown hgrow (by simp; omega) (fun g hg => (O5.out.lt g hg).1)
            have K6 := Lib.hid (K5.out.below (by omega) hbs (fun j hj g o e => by have := HOLD.out j hj g o e; omega))
            have G6 := Lib.hid (but_below G5.out hbs (by omega))
            have T6 := Lib.hid (Two.under T5.out hbs (by omega))
            have R6 := Lib.hid (R5.out.under hbs hgl)
            have hs6 := hbs.size
            have H1 := Lib.hid hown1
            clear hown1 hgrow hbs K5 G5 T5 R5
            go_wp2
            go_roundw
            case rel => exact ⟨k + 1, xs ++ [(t : Int)], by omega, by go_num, OwnInts.next H1.out, K6.out, G6.out, T6.out, by rw [List.length_append, HXL.out]; rfl, allOk_snoc HOK.out hs, R6.out, by omega⟩
            case measure => simp [intOf]; omega
          · obtain ⟨a1, c1, g1, rfl, hg1, hr1⟩ := HO.out.at
            have R1 := Lib.hid hr1
            clear hr1
            go_wp2_with fail
            refine (l3Make_any 1 _ _ xs HOK.out (by omega) _ R1.out.ints).mono ?_
            rintro e w2 ⟨v, rfl, hO, hb2⟩
            have hml := maximal_length xs
            have B2 := Lib.hid hb2
            have K2 := Lib.hid (HK.out.keeps (by omega) hb2)
            have G2 := Lib.hid (HG.out.trans (Mem.but_of_below hb2 _))
            obtain ⟨t0, t1, t2, t3, t4⟩ := HT.out.keeps hb2
            obtain ⟨a2, c2, g2, rfl, hc2, hg2, hr2, _⟩ := OwnInts.ata hO hb2.size
            have O2 := Lib.hid (OwnInts.lower hO (show w.heap.size + 1 ≤ wr.heap.size by omega))
            clear hb2 hO hr2
            go_wp2
            refine ret_cx w.heap.size rfl rfl (x := .int .i64 1) (y := .slice a2 (maximal xs).length c2) (by go_simp) (by go_simp) rfl ?_
            refine ⟨_, _, rfl, hml, (OwnInts.set (OwnInts.set O2.out _ _ _ (by omega)) _ _ _ (by omega)).lower (by omega), ?_, ?_⟩
            · exact (K2.out.below (b := w.heap.size) hBw (((Below.refl w.heap.size w2).setCell (by simp) _).setCell (by simp) _) HOLD.out)
            · exact but_below G2.out (b := w.heap.size) (((Below.refl w.heap.size w2).setCell (by simp) _).setCell (by simp) _) (Nat.le_refl _)
  · go_enter Tryz.func81, Tryz.ntmps81
    go_wp2_with fail
    refine (below_lit B a n c hn _ 2 (by decide) (by decide) (by decide) _ HC1.out).mono ?_
    rintro e w1 ⟨r, hr, rfl, hd⟩
    have K1 := Lib.hid hd.1
    have T1 := Lib.hid (Two.far HT1.out hd.2 (by omega))
    have G1 := Lib.hid (HG1.out.trans hd.2)
    have hs1 : w.heap.size + 1 ≤ w1.heap.size := T1.out.1
    clear hd HC1 HG1 HT1
    go_wp2
    obtain ⟨qf, hqf⟩ : ∃ qf : Nat → Bool, (fun s => pc s == r + 1) = qf := ⟨_, rfl⟩
    have HQF := Lib.hid hqf
    clear hqf
    go_loopw [6, 7] (fun v i wr => ∃ k : Nat, k ≤ 4 ∧ i = .int .i64 (k : Int) ∧ OwnInts wr w1.heap.size v (firsts qf k) ∧ Below w1.heap.size w1 wr) (fun _ i _ => 4 - (intOf i).toNat)
    case atStart => exact ⟨0, Nat.zero_le _, rfl, OwnInts.lit w1 w1.heap.size [] (Nat.le_refl _) (by simp), (Below.refl _ _).alloc (Nat.le_refl _) _⟩
    case round =>
      obtain ⟨k, hk, rfl, hO, hB⟩ := hrel
      have HO := Lib.hid hO
      have hsz := hB.size
      have hl := firsts_length qf k
      clear hO
      by_cases hlt : k < 4
      · obtain ⟨p, hp⟩ : ∃ p, pc k = p := ⟨_, rfl⟩
        have HP := Lib.hid hp
        have hqk : qf k = (p == r + 1) := by rw [← HQF.out, ← hp]
        have HQK := Lib.hid hqk
        clear hp hqk
        by_cases e : p = r + 1
        · have hq : ((p : Int) == 1 + (r : Int)) = true := by simp; omega
          have HN := Lib.hid (firsts_hit qf k (by rw [HQK.out]; simp [e]))
          clear e
          have O4 := HO
          unfold OwnInts at O4
          go_wp2_with fail
          refine (l2Size_b k p HP.out (by omega) _).mono ?_
          rintro e w' ⟨rfl, rfl⟩
          go_wp2_with (at_builtin; refine wpList_append_own _ rfl _ _ 24 rfl w1.heap.size 3 i0 (.int .i64 0) 1 8 Tryz.underlying24 hi hz0 hz1 hz2 rfl (by decide) _ _ _ rfl (O4.out.alloc _) ⟨wr.heap.size, 0, none⟩ 1 1 [.int .i64 (k : Int)] rfl rfl ?c1 ?c2 ?c3 ?c4 ?c5 ?_)
          case c1 => intro j u hj; exact Mem.cell_new wr _ _ j u hj
          case c2 => intro u hu; simp at hu; subst hu; rfl
          case c3 => unfold maxLen; omega
          case c4 => omega
          case c5 => simp; omega
          intro v' w5 hown1 hgrow _
          have hB5 : Below w1.heap.size w1 w5 := (hB.alloc hsz _).grown hgrow (by simp; omega) (fun g hg => (O4.out.lt g hg).1)
          have H1 := Lib.hid hown1
          clear hown1 hgrow
          go_wp2
          go_roundw
          case rel => exact ⟨k + 1, by omega, by go_num, by rw [HN.out]; exact OwnInts.next H1.out, hB5⟩
          case measure => simp [intOf]; omega
        · have hq : ((p : Int) == 1 + (r : Int)) = false := by simp; omega
          have HN := Lib.hid (firsts_miss qf k (by rw [HQK.out]; simp [e]))
          clear e
          go_wp2_with fail
          refine (l2Size_b k p HP.out (by omega) _).mono ?_
          rintro e w' ⟨rfl, rfl⟩
          go_wp2
          go_roundw
          case rel => exact ⟨k + 1, by omega, by go_num, by rw [HN.out]; exact HO.out, hB⟩
          case measure => simp [intOf]; omega
      · have E : k = 4 := by omega
        subst E
        have hL0 : 0 < (firsts qf 4).length := by rw [← HQF.out]; exact HPOS.out r hr
        have HFA := Lib.hid (firsts_at qf 4)
        obtain ⟨aA, cA, gA, rfl, _, hgA, hrA, _⟩ := OwnInts.ata HO.out hsz
        have hgl : gA < wr.heap.size := (hrA 0 hL0).2.1
        have K2 := Lib.hid (K1.out.keeps (by omega) hB)
        have T2 := Lib.hid (Two.keeps T1.out hB)
        have G2 := Lib.hid (G1.out.trans (Mem.but_of_below hB _))
        have R2 := Lib.hid hrA
        clear hrA HO K1 T1 G1 HQF HPOS hlt hk
        generalize firsts qf 4 = L at *
        obtain ⟨wA, rfl⟩ : ∃ wA : World, wA = wr := ⟨_, rfl⟩
        have hb3 : Below wA.heap.size wA (wA.alloc (.cells #[] 3)) := (Below.refl _ _).alloc (Nat.le_refl _) _
        have K3 := Lib.hid (K2.out.keeps (by omega) hb3)
        have O3 := Lib.hid (OwnInts.lit wA wA.heap.size [] (Nat.le_refl _) (by simp))
        have T3 := Lib.hid (Two.keeps T2.out hb3)
        have G3 := Lib.hid (G2.out.trans (Mem.but_of_below hb3 _))
        have R3 := Lib.hid (R2.out.keeps hb3)
        clear hb3 K2 T2 G2 R2
        go_wp2_with fail
        refine (below_lit B a n c hn _ 7 (by decide) (by decide) (by decide) _ K3.out).mono ?_
        rintro e w4 ⟨m0, hm0, rfl, hd⟩
        have K4 := Lib.hid hd.1
        have O4 := Lib.hid (OwnInts.away O3.out hd.2 (by omega))
        have T4 := Lib.hid (Two.far T3.out hd.2 (by omega))
        have G4 := Lib.hid (G3.out.trans hd.2)
        have R4 := Lib.hid (R3.out.far hd.2 (by omega))
        have hs4 := hd.2.size
        simp only [World.size_alloc] at hs4
        obtain ⟨m, hm⟩ : ∃ m, m0 + 1 = m := ⟨_, rfl⟩
        have em : 1 + (m0 : Int) = (m : Int) := by omega
        have hm7 : m ≤ 7 := by omega
        clear hd K3 O3 T3 G3 R3
        go_wp2
        go_loopw [8, 10] (fun v i wr => ∃ (k : Nat) (xs : List Int), k ≤ m ∧ i = .int .i64 (k : Int) ∧ OwnInts wr wA.heap.size v xs ∧ Cur wr B a n c ∧ w.grownBy wr (some B) ∧ Two wr w.heap.size (.int .i64 0) (.slice none 0 0) ∧ xs.length = k ∧ allOk xs = true ∧ IntsAt wr gA aA L ∧ wA.heap.size ≤ wr.heap.size) (fun _ i _ => m - (intOf i).toNat)
        case atStart => exact ⟨0, [], Nat.zero_le _, rfl, O4.out, K4.out, G4.out, T4.out, rfl, rfl, R4.out, by omega⟩
        case round =>
          clear K4 O4 T4 G4 R4 hs4
          obtain ⟨k, xs, hk, rfl, hO, hK, hG, hT, hxl, hok, hR, hsw⟩ := hrel
          have HO := Lib.hid hO
          have HK := Lib.hid hK
          have HG := Lib.hid hG
          have HT := Lib.hid hT
          have HXL := Lib.hid hxl
          have HOK := Lib.hid hok
          have HR := Lib.hid hR
          have hxl1 : xs.length ≤ 7 := by omega
          clear hO hK hG hT hxl hok hR
          by_cases hlt : k < m
          · go_wp2_with fail
            refine (below_lit B a n c hn _ L.length rfl hL0 (by omega) _ HK.out).mono ?_
            rintro e w5 ⟨q, hq, rfl, hd⟩
            obtain ⟨t, ht, htp⟩ := HFA.out q hq
            have hs : t < 64 := by omega
            have K5 := Lib.hid hd.1
            have O5 := Lib.hid (OwnInts.away HO.out hd.2 (by omega))
            unfold OwnInts at O5
            have T5 := Lib.hid (Two.far HT.out hd.2 (by omega))
            have G5 := Lib.hid (HG.out.trans hd.2)
            have R5 := Lib.hid (HR.out.far hd.2 (by omega))
            have hs5 := hd.2.size
            obtain ⟨ea, _, hcell, _⟩ := R5.out q hq
            rw [ht] at hcell
            obtain rfl := ea
            clear hd HK HO HT HG HR ht
            go_wp2_with (at_builtin; refine wpList_append_own _ rfl _ _ 24 rfl wA.heap.size 3 i0 (.int .i64 0) 1 8 Tryz.underlying24 hi hz0 hz1 hz2 rfl (by decide) _ _ _ rfl (O5.out.alloc _) ⟨w5.heap.size, 0, none⟩ 1 1 [.int .i64 (t : Int)] rfl rfl ?c1 ?c2 ?c3 ?c4 ?c5 ?_)
            case c1 => intro j u hj; exact Mem.cell_new w5 _ _ j u hj
            case c2 => intro u hu; simp at hu; subst hu; rfl
            case c3 => unfold maxLen; omega
            case c4 => omega
            case c5 => simp; omega
            intro v' w6 hown1 hgrow _
            have hbs : Below wA.heap.size w5 w6 := ((Below.refl _ _).alloc (by omega) _).grown hgrow (by simp; omega) (fun g hg => (O5.out.lt g hg).1)
            have K6 := Lib.hid (K5.out.below (by omega) hbs (fun j hj g o e => by have := HOLD.out j hj g o e; omega))
            have G6 := Lib.hid (but_below G5.out hbs (by omega))
            have T6 := Lib.hid (Two.under T5.out hbs (by omega))
            have R6 := Lib.hid (R5.out.under hbs hgl)
            have hs6 := hbs.size
            have H1 := Lib.hid hown1
            clear hown1 hgrow hbs K5 G5 T5 R5
            go_wp2
            go_roundw
            case rel => exact ⟨k + 1, xs ++ [(t : Int)], by omega, by go_num, OwnInts.next H1.out, K6.out, G6.out, T6.out, by rw [List.length_append, HXL.out]; rfl, allOk_snoc HOK.out hs, R6.out, by omega⟩
            case measure => simp [intOf]; omega
          · obtain ⟨a1, c1, g1, rfl, hg1, hr1⟩ := HO.out.at
            have R1 := Lib.hid hr1
            clear hr1
            go_wp2_with fail
            refine (l3Make_any 2 _ _ xs HOK.out (by omega) _ R1.out.ints).mono ?_
            rintro e w2 ⟨v, rfl, hO, hb2⟩
            have hml := maximal_length xs
            have B2 := Lib.hid hb2
            have K2 := Lib.hid (HK.out.keeps (by omega) hb2)
            have G2 := Lib.hid (HG.out.trans (Mem.but_of_below hb2 _))
            obtain ⟨t0, t1, t2, t3, t4⟩ := HT.out.keeps hb2
            obtain ⟨a2, c2, g2, rfl, hc2, hg2, hr2, _⟩ := OwnInts.ata hO hb2.size
            have O2 := Lib.hid (OwnInts.lower hO (show w.heap.size + 1 ≤ wr.heap.size by omega))
            clear hb2 hO hr2
            go_wp2
            refine ret_cx w.heap.size rfl rfl (x := .int .i64 2) (y := .slice a2 (maximal xs).length c2) (by go_simp) (by go_simp) rfl ?_
            refine ⟨_, _, rfl, hml, (OwnInts.set (OwnInts.set O2.out _ _ _ (by omega)) _ _ _ (by omega)).lower (by omega), ?_, ?_⟩
            · exact (K2.out.below (b := w.heap.size) hBw (((Below.refl w.heap.size w2).setCell (by simp) _).setCell (by simp) _) HOLD.out)
            · exact but_below G2.out (b := w.heap.size) (((Below.refl w.heap.size w2).setCell (by simp) _).setCell (by simp) _) (Nat.le_refl _)
  · go_enter Tryz.func81, Tryz.ntmps81
    go_wp2_with fail
    refine (below_lit B a n c hn _ 3 (by decide) (by decide) (by decide) _ HC1.out).mono ?_
    rintro e w1 ⟨r, hr, rfl, hd⟩
    have K1 := Lib.hid hd.1
    have T1 := Lib.hid (Two.far HT1.out hd.2 (by omega))
    have G1 := Lib.hid (HG1.out.trans hd.2)
    have hs1 : w.heap.size + 1 ≤ w1.heap.size := T1.out.1
    clear hd HC1 HG1 HT1
    go_wp2
    obtain ⟨qf, hqf⟩ : ∃ qf : Nat → Bool, (fun s => pc s == r + 1) = qf := ⟨_, rfl⟩
    have HQF := Lib.hid hqf
    clear hqf
    go_loopw [6, 7] (fun v i wr => ∃ k : Nat, k ≤ 8 ∧ i = .int .i64 (k : Int) ∧ OwnInts wr w1.heap.size v (firsts qf k) ∧ Below w1.heap.size w1 wr) (fun _ i _ => 8 - (intOf i).toNat)
    case atStart => exact ⟨0, Nat.zero_le _, rfl, OwnInts.lit w1 w1.heap.size [] (Nat.le_refl _) (by simp), (Below.refl _ _).alloc (Nat.le_refl _) _⟩
    case round =>
      obtain ⟨k, hk, rfl, hO, hB⟩ := hrel
      have HO := Lib.hid hO
      have hsz := hB.size
      have hl := firsts_length qf k
      clear hO
      by_cases hlt : k < 8
      · obtain ⟨p, hp⟩ : ∃ p, pc k = p := ⟨_, rfl⟩
        have HP := Lib.hid hp
        have hqk : qf k = (p == r + 1) := by rw [← HQF.out, ← hp]
        have HQK := Lib.hid hqk
        clear hp hqk
        by_cases e : p = r + 1
        · have hq : ((p : Int) == 1 + (r : Int)) = true := by simp; omega
          have HN := Lib.hid (firsts_hit qf k (by rw [HQK.out]; simp [e]))
          clear e
          have O4 := HO
          unfold OwnInts at O4
          go_wp2_with fail
          refine (l2Size_b k p HP.out (by omega) _).mono ?_
          rintro e w' ⟨rfl, rfl⟩
          go_wp2_with (at_builtin; refine wpList_append_own _ rfl _ _ 24 rfl w1.heap.size 3 i0 (.int .i64 0) 1 8 Tryz.underlying24 hi hz0 hz1 hz2 rfl (by decide) _ _ _ rfl (O4.out.alloc _) ⟨wr.heap.size, 0, none⟩ 1 1 [.int .i64 (k : Int)] rfl rfl ?c1 ?c2 ?c3 ?c4 ?c5 ?_)
          case c1 => intro j u hj; exact Mem.cell_new wr _ _ j u hj
          case c2 => intro u hu; simp at hu; subst hu; rfl
          case c3 => unfold maxLen; omega
          case c4 => omega
          case c5 => simp; omega
          intro v' w5 hown1 hgrow _
          have hB5 : Below w1.heap.size w1 w5 := (hB.alloc hsz _).grown hgrow (by simp; omega) (fun g hg => (O4.out.lt g hg).1)
          have H1 := Lib.hid hown1
          clear hown1 hgrow
          go_wp2
          go_roundw
          case rel => exact ⟨k + 1, by omega, by go_num, by rw [HN.out]; exact OwnInts.next H1.out, hB5⟩
          case measure => simp [intOf]; omega
        · have hq : ((p : Int) == 1 + (r : Int)) = false := by simp; omega
          have HN := Lib.hid (firsts_miss qf k (by rw [HQK.out]; simp [e]))
          clear e
          go_wp2_with fail
          refine (l2Size_b k p HP.out (by omega) _).mono ?_
          rintro e w' ⟨rfl, rfl⟩
          go_wp2
          go_roundw
          case rel => exact ⟨k + 1, by omega, by go_num, by rw [HN.out]; exact HO.out, hB⟩
          case measure => simp [intOf]; omega
      · have E : k = 8 := by omega
        subst E
        have hL0 : 0 < (firsts qf 8).length := by rw [← HQF.out]; exact HPOS.out r hr
        have HFA := Lib.hid (firsts_at qf 8)
        obtain ⟨aA, cA, gA, rfl, _, hgA, hrA, _⟩ := OwnInts.ata HO.out hsz
        have hgl : gA < wr.heap.size := (hrA 0 hL0).2.1
        have K2 := Lib.hid (K1.out.keeps (by omega) hB)
        have T2 := Lib.hid (Two.keeps T1.out hB)
        have G2 := Lib.hid (G1.out.trans (Mem.but_of_below hB _))
        have R2 := Lib.hid hrA
        clear hrA HO K1 T1 G1 HQF HPOS hlt hk
        generalize firsts qf 8 = L at *
        obtain ⟨wA, rfl⟩ : ∃ wA : World, wA = wr := ⟨_, rfl⟩
        have hb3 : Below wA.heap.size wA (wA.alloc (.cells #[] 3)) := (Below.refl _ _).alloc (Nat.le_refl _) _
        have K3 := Lib.hid (K2.out.keeps (by omega) hb3)
        have O3 := Lib.hid (OwnInts.lit wA wA.heap.size [] (Nat.le_refl _) (by simp))
        have T3 := Lib.hid (Two.keeps T2.out hb3)
        have G3 := Lib.hid (G2.out.trans (Mem.but_of_below hb3 _))
        have R3 := Lib.hid (R2.out.keeps hb3)
        clear hb3 K2 T2 G2 R2
        go_wp2_with fail
        refine (below_lit B a n c hn _ 7 (by decide) (by decide) (by decide) _ K3.out).mono ?_
        rintro e w4 ⟨m0, hm0, rfl, hd⟩
        have K4 := Lib.hid hd.1
        have O4 := Lib.hid (OwnInts.away O3.out hd.2 (by omega))
        have T4 := Lib.hid (Two.far T3.out hd.2 (by omega))
        have G4 := Lib.hid (G3.out.trans hd.2)
        have R4 := Lib.hid (R3.out.far hd.2 (by omega))
        have hs4 := hd.2.size
        simp only [World.size_alloc] at hs4
        obtain ⟨m, hm⟩ : ∃ m, m0 + 1 = m := ⟨_, rfl⟩
        have em : 1 + (m0 : Int) = (m : Int) := by omega
        have hm7 : m ≤ 7 := by omega
        clear hd K3 O3 T3 G3 R3
        go_wp2
        go_loopw [8, 10] (fun v i wr => ∃ (k : Nat) (xs : List Int), k ≤ m ∧ i = .int .i64 (k : Int) ∧ OwnInts wr wA.heap.size v xs ∧ Cur wr B a n c ∧ w.grownBy wr (some B) ∧ Two wr w.heap.size (.int .i64 0) (.slice none 0 0) ∧ xs.length = k ∧ allOk xs = true ∧ IntsAt wr gA aA L ∧ wA.heap.size ≤ wr.heap.size) (fun _ i _ => m - (intOf i).toNat)
        case atStart => exact ⟨0, [], Nat.zero_le _, rfl, O4.out, K4.out, G4.out, T4.out, rfl, rfl, R4.out, by omega⟩
        case round =>
          clear K4 O4 T4 G4 R4 hs4
          obtain ⟨k, xs, hk, rfl, hO, hK, hG, hT, hxl, hok, hR, hsw⟩ := hrel
          have HO := Lib.hid hO
          have HK := Lib.hid hK
          have HG := Lib.hid hG
          have HT := Lib.hid hT
          have HXL := Lib.hid hxl
          have HOK := Lib.hid hok
          have HR := Lib.hid hR
          have hxl1 : xs.length ≤ 7 := by omega
          clear hO hK hG hT hxl hok hR
          by_cases hlt : k < m
          · go_wp2_with fail
            refine (below_lit B a n c hn _ L.length rfl hL0 (by omega) _ HK.out).mono ?_
            rintro e w5 ⟨q, hq, rfl, hd⟩
            obtain ⟨t, ht, htp⟩ := HFA.out q hq
            have hs : t < 64 := by omega
            have K5 := Lib.hid hd.1
            have O5 := Lib.hid (OwnInts.away HO.out hd.2 (by omega))
            unfold OwnInts at O5
            have T5 := Lib.hid (Two.far HT.out hd.2 (by omega))
            have G5 := Lib.hid (HG.out.trans hd.2)
            have R5 := Lib.hid (HR.out.far hd.2 (by omega))
            have hs5 := hd.2.size
            obtain ⟨ea, _, hcell, _⟩ := R5.out q hq
            rw [ht] at hcell
            obtain rfl := ea
            clear hd HK HO HT HG HR ht
            go_wp2_with (at_builtin; refine wpList_append_own _ rfl _ _ 24 rfl wA.heap.size 3 i0 (.int .i64 0) 1 8 Tryz.underlying24 hi hz0 hz1 hz2 rfl (by decide) _ _ _ rfl (O5.out.alloc _) ⟨w5.heap.size, 0, none⟩ 1 1 [.int .i64 (t : Int)] rfl rfl ?c1 ?c2 ?c3 ?c4 ?c5 ?_)
            case c1 => intro j u hj; exact Mem.cell_new w5 _ _ j u hj
            case c2 => intro u hu; simp at hu; subst hu; rfl
            case c3 => unfold maxLen; omega
            case c4 => omega
            case c5 => simp; omega
            intro v' w6 hown1 hgrow _
            have hbs : Below wA.heap.size w5 w6 := ((Below.refl _ _).alloc (by omega) _).grown hgrow (by simp; omega) (fun g hg => (O5.out.lt g hg).1)
            have K6 := Lib.hid (K5.out.below (by omega) hbs (fun j hj g o e => by have := HOLD.out j hj g o e; omega))
            have G6 := Lib.hid (but_below G5.out hbs (by omega))
            have T6 := Lib.hid (Two.under T5.out hbs (by omega))
            have R6 := Lib.hid (R5.out.under hbs hgl)
            have hs6 := hbs.size
            have H1 := Lib.hid hown1
            clear hown1 hgrow hbs K5 G5 T5 R5
            go_wp2
            go_roundw
            case rel => exact ⟨k + 1, xs ++ [(t : Int)], by omega, by go_num, OwnInts.next H1.out, K6.out, G6.out, T6.out, by rw [List.length_append, HXL.out]; rfl, allOk_snoc HOK.out hs, R6.out, by omega⟩
            case measure => simp [intOf]; omega
          · obtain ⟨a1, c1, g1, rfl, hg1, hr1⟩ := HO.out.at
            have R1 := Lib.hid hr1
            clear hr1
            go_wp2_with fail
            refine (l3Make_any 3 _ _ xs HOK.out (by omega) _ R1.out.ints).mono ?_
            rintro e w2 ⟨v, rfl, hO, hb2⟩
            have hml := maximal_length xs
            have B2 := Lib.hid hb2
            have K2 := Lib.hid (HK.out.keeps (by omega) hb2)
            have G2 := Lib.hid (HG.out.trans (Mem.but_of_below hb2 _))
            obtain ⟨t0, t1, t2, t3, t4⟩ := HT.out.keeps hb2
            obtain ⟨a2, c2, g2, rfl, hc2, hg2, hr2, _⟩ := OwnInts.ata hO hb2.size
            have O2 := Lib.hid (OwnInts.lower hO (show w.heap.size + 1 ≤ wr.heap.size by omega))
            clear hb2 hO hr2
            go_wp2
            refine ret_cx w.heap.size rfl rfl (x := .int .i64 3) (y := .slice a2 (maximal xs).length c2) (by go_simp) (by go_simp) rfl ?_
            refine ⟨_, _, rfl, hml, (OwnInts.set (OwnInts.set O2.out _ _ _ (by omega)) _ _ _ (by omega)).lower (by omega), ?_, ?_⟩
            · exact (K2.out.below (b := w.heap.size) hBw (((Below.refl w.heap.size w2).setCell (by simp) _).setCell (by simp) _) HOLD.out)
            · exact but_below G2.out (b := w.heap.size) (((Below.refl w.heap.size w2).setCell (by simp) _).setCell (by simp) _) (Nat.le_refl _)
  · go_enter Tryz.func81, Tryz.ntmps81
    go_wp2_with fail
    refine (below_lit B a n c hn _ 4 (by decide) (by decide) (by decide) _ HC1.out).mono ?_
    rintro e w1 ⟨r, hr, rfl, hd⟩
    have K1 := Lib.hid hd.1
    have T1 := Lib.hid (Two.far HT1.out hd.2 (by omega))
    have G1 := Lib.hid (HG1.out.trans hd.2)
    have hs1 : w.heap.size + 1 ≤ w1.heap.size := T1.out.1
    clear hd HC1 HG1 HT1
    go_wp2
    obtain ⟨qf, hqf⟩ : ∃ qf : Nat → Bool, (fun s => pc s == r + 1) = qf := ⟨_, rfl⟩
    have HQF := Lib.hid hqf
    clear hqf
    go_loopw [6, 7] (fun v i wr => ∃ k : Nat, k ≤ 16 ∧ i = .int .i64 (k : Int) ∧ OwnInts wr w1.heap.size v (firsts qf k) ∧ Below w1.heap.size w1 wr) (fun _ i _ => 16 - (intOf i).toNat)
    case atStart => exact ⟨0, Nat.zero_le _, rfl, OwnInts.lit w1 w1.heap.size [] (Nat.le_refl _) (by simp), (Below.refl _ _).alloc (Nat.le_refl _) _⟩
    case round =>
      obtain ⟨k, hk, rfl, hO, hB⟩ := hrel
      have HO := Lib.hid hO
      have hsz := hB.size
      have hl := firsts_length qf k
      clear hO
      by_cases hlt : k < 16
      · obtain ⟨p, hp⟩ : ∃ p, pc k = p := ⟨_, rfl⟩
        have HP := Lib.hid hp
        have hqk : qf k = (p == r + 1) := by rw [← HQF.out, ← hp]
        have HQK := Lib.hid hqk
        clear hp hqk
        by_cases e : p = r + 1
        · have hq : ((p : Int) == 1 + (r : Int)) = true := by simp; omega
          have HN := Lib.hid (firsts_hit qf k (by rw [HQK.out]; simp [e]))
          clear e
          have O4 := HO
          unfold OwnInts at O4
          go_wp2_with fail
          refine (l2Size_b k p HP.out (by omega) _).mono ?_
          rintro e w' ⟨rfl, rfl⟩
          go_wp2_with (at_builtin; refine wpList_append_own _ rfl _ _ 24 rfl w1.heap.size 3 i0 (.int .i64 0) 1 8 Tryz.underlying24 hi hz0 hz1 hz2 rfl (by decide) _ _ _ rfl (O4.out.alloc _) ⟨wr.heap.size, 0, none⟩ 1 1 [.int .i64 (k : Int)] rfl rfl ?c1 ?c2 ?c3 ?c4 ?c5 ?_)
          case c1 => intro j u hj; exact Mem.cell_new wr _ _ j u hj
          case c2 => intro u hu; simp at hu; subst hu; rfl
          case c3 => unfold maxLen; omega
          case c4 => omega
          case c5 => simp; omega
          intro v' w5 hown1 hgrow _
          have hB5 : Below w1.heap.size w1 w5 := (hB.alloc hsz _).grown hgrow (by simp; omega) (fun g hg => (O4.out.lt g hg).1)
          have H1 := Lib.hid hown1
          clear hown1 hgrow
          go_wp2
          go_roundw
          case rel => exact ⟨k + 1, by omega, by go_num, by rw [HN.out]; exact OwnInts.next H1.out, hB5⟩
          case measure => simp [intOf]; omega
        · have hq : ((p : Int) == 1 + (r : Int)) = false := by simp; omega
          have HN := Lib.hid (firsts_miss qf k (by rw [HQK.out]; simp [e]))
          clear e
          go_wp2_with fail
          refine (l2Size_b k p HP.out (by omega) _).mono ?_
          rintro e w' ⟨rfl, rfl⟩
          go_wp2
          go_roundw
          case rel => exact ⟨k + 1, by omega, by go_num, by rw [HN.out]; exact HO.out, hB⟩
          case measure => simp [intOf]; omega
      · have E : k = 16 := by omega
        subst E
        have hL0 : 0 < (firsts qf 16).length := by rw [← HQF.out]; exact HPOS.out r hr
        have HFA := Lib.hid (firsts_at qf 16)
        obtain ⟨aA, cA, gA, rfl, _, hgA, hrA, _⟩ := OwnInts.ata HO.out hsz
        have hgl : gA < wr.heap.size := (hrA 0 hL0).2.1
        have K2 := Lib.hid (K1.out.keeps (by omega) hB)
        have T2 := Lib.hid (Two.keeps T1.out hB)
        have G2 := Lib.hid (G1.out.trans (Mem.but_of_below hB _))
        have R2 := Lib.hid hrA
        clear hrA HO K1 T1 G1 HQF HPOS hlt hk
        generalize firsts qf 16 = L at *
        obtain ⟨wA, rfl⟩ : ∃ wA : World, wA = wr := ⟨_, rfl⟩
        have hb3 : Below wA.heap.size wA (wA.alloc (.cells #[] 3)) := (Below.refl _ _).alloc (Nat.le_refl _) _
        have K3 := Lib.hid (K2.out.keeps (by omega) hb3)
        have O3 := Lib.hid (OwnInts.lit wA wA.heap.size [] (Nat.le_refl _) (by simp))
        have T3 := Lib.hid (Two.keeps T2.out hb3)
        have G3 := Lib.hid (G2.out.trans (Mem.but_of_below hb3 _))
        have R3 := Lib.hid (R2.out.keeps hb3)
        clear hb3 K2 T2 G2 R2
        go_wp2_with fail
        refine (below_lit B a n c hn _ 7 (by decide) (by decide) (by decide) _ K3.out).mono ?_
        rintro e w4 ⟨m0, hm0, rfl, hd⟩
        have K4 := Lib.hid hd.1
        have O4 := Lib.hid (OwnInts.away O3.out hd.2 (by omega))
        have T4 := Lib.hid (Two.far T3.out hd.2 (by omega))
        have G4 := Lib.hid (G3.out.trans hd.2)
        have R4 := Lib.hid (R3.out.far hd.2 (by omega))
        have hs4 := hd.2.size
        simp only [World.size_alloc] at hs4
        obtain ⟨m, hm⟩ : ∃ m, m0 + 1 = m := ⟨_, rfl⟩
        have em : 1 + (m0 : Int) = (m : Int) := by omega
        have hm7 : m ≤ 7 := by omega
        clear hd K3 O3 T3 G3 R3
        go_wp2
        go_loopw [8, 10] (fun v i wr => ∃ (k : Nat) (xs : List Int), k ≤ m ∧ i = .int .i64 (k : Int) ∧ OwnInts wr wA.heap.size v xs ∧ Cur wr B a n c ∧ w.grownBy wr (some B) ∧ Two wr w.heap.size (.int .i64 0) (.slice none 0 0) ∧ xs.length = k ∧ allOk xs = true ∧ IntsAt wr gA aA L ∧ wA.heap.size ≤ wr.heap.size) (fun _ i _ => m - (intOf i).toNat)
        case atStart => exact ⟨0, [], Nat.zero_le _, rfl, O4.out, K4.out, G4.out, T4.out, rfl, rfl, R4.out, by omega⟩
        case round =>
          clear K4 O4 T4 G4 R4 hs4
          obtain ⟨k, xs, hk, rfl, hO, hK, hG, hT, hxl, hok, hR, hsw⟩ := hrel
          have HO := Lib.hid hO
          have HK := Lib.hid hK
          have HG := Lib.hid hG
          have HT := Lib.hid hT
          have HXL := Lib.hid hxl
          have HOK := Lib.hid hok
          have HR := Lib.hid hR
          have hxl1 : xs.length ≤ 7 := by omega
          clear hO hK hG hT hxl hok hR
          by_cases hlt : k < m
          · go_wp2_with fail
            refine (below_lit B a n c hn _ L.length rfl hL0 (by omega) _ HK.out).mono ?_
            rintro e w5 ⟨q, hq, rfl, hd⟩
            obtain ⟨t, ht, htp⟩ := HFA.out q hq
            have hs : t < 64 := by omega
            have K5 := Lib.hid hd.1
            have O5 := Lib.hid (OwnInts.away HO.out hd.2 (by omega))
            unfold OwnInts at O5
            have T5 := Lib.hid (Two.far HT.out hd.2 (by omega))
            have G5 := Lib.hid (HG.out.trans hd.2)
            have R5 := Lib.hid (HR.out.far hd.2 (by omega))
            have hs5 := hd.2.size
            obtain ⟨ea, _, hcell, _⟩ := R5.out q hq
            rw [ht] at hcell
            obtain rfl := ea
            clear hd HK HO HT HG HR ht
            go_wp2_with (at_builtin; refine wpList_append_own _ rfl _ _ 24 rfl wA.heap.size 3 i0 (.int .i64 0) 1 8 Tryz.underlying24 hi hz0 hz1 hz2 rfl (by decide) _ _ _ rfl (O5.out.alloc _) ⟨w5.heap.size, 0, none⟩ 1 1 [.int .i64 (t : Int)] rfl rfl ?c1 ?c2 ?c3 ?c4 ?c5 ?_)
            case c1 => intro j u hj; exact Mem.cell_new w5 _ _ j u hj
            case c2 => intro u hu; simp at hu; subst hu; rfl
            case c3 => unfold maxLen; omega
            case c4 => omega
            case c5 => simp; omega
            intro v' w6 hown1 hgrow _
            have hbs : Below wA.heap.size w5 w6 := ((Below.refl _ _).alloc (by omega) _).grown hgrow (by simp; omega) (fun g hg => (O5.out.lt g hg).1)
            have K6 := Lib.hid (K5.out.below (by omega) hbs (fun j hj g o e => by have := HOLD.out j hj g o e; omega))
            have G6 := Lib.hid (but_below G5.out hbs (by omega))
            have T6 := Lib.hid (Two.under T5.out hbs (by omega))
            have R6 := Lib.hid (R5.out.under hbs hgl)
            have hs6 := hbs.size
            have H1 := Lib.hid hown1
            clear hown1 hgrow hbs K5 G5 T5 R5
            go_wp2
            go_roundw
            case rel => exact ⟨k + 1, xs ++ [(t : Int)], by omega, by go_num, OwnInts.next H1.out, K6.out, G6.out, T6.out, by rw [List.length_append, HXL.out]; rfl, allOk_snoc HOK.out hs, R6.out, by omega⟩
            case measure => simp [intOf]; omega
          · obtain ⟨a1, c1, g1, rfl, hg1, hr1⟩ := HO.out.at
            have R1 := Lib.hid hr1
            clear hr1
            go_wp2_with fail
            refine (l3Make_any 4 _ _ xs HOK.out (by omega) _ R1.out.ints).mono ?_
            rintro e w2 ⟨v, rfl, hO, hb2⟩
            have hml := maximal_length xs
            have B2 := Lib.hid hb2
            have K2 := Lib.hid (HK.out.keeps (by omega) hb2)
            have G2 := Lib.hid (HG.out.trans (Mem.but_of_below hb2 _))
            obtain ⟨t0, t1, t2, t3, t4⟩ := HT.out.keeps hb2
            obtain ⟨a2, c2, g2, rfl, hc2, hg2, hr2, _⟩ := OwnInts.ata hO hb2.size
            have O2 := Lib.hid (OwnInts.lower hO (show w.heap.size + 1 ≤ wr.heap.size by omega))
            clear hb2 hO hr2
            go_wp2
            refine ret_cx w.heap.size rfl rfl (x := .int .i64 4) (y := .slice a2 (maximal xs).length c2) (by go_simp) (by go_simp) rfl ?_
            refine ⟨_, _, rfl, hml, (OwnInts.set (OwnInts.set O2.out _ _ _ (by omega)) _ _ _ (by omega)).lower (by omega), ?_, ?_⟩
            · exact (K2.out.below (b := w.heap.size) hBw (((Below.refl w.heap.size w2).setCell (by simp) _).setCell (by simp) _) HOLD.out)
            · exact but_below G2.out (b := w.heap.size) (((Below.refl w.heap.size w2).setCell (by simp) _).setCell (by simp) _) (Nat.le_refl _)
  · go_enter Tryz.func81, Tryz.ntmps81
    go_wp2_with fail
    refine (below_lit B a n c hn _ 5 (by decide) (by decide) (by decide) _ HC1.out).mono ?_
    rintro e w1 ⟨r, hr, rfl, hd⟩
    have K1 := Lib.hid hd.1
    have T1 := Lib.hid (Two.far HT1.out hd.2 (by omega))
    have G1 := Lib.hid (HG1.out.trans hd.2)
    have hs1 : w.heap.size + 1 ≤ w1.heap.size := T1.out.1
    clear hd HC1 HG1 HT1
    go_wp2
    obtain ⟨qf, hqf⟩ : ∃ qf : Nat → Bool, (fun s => pc s == r + 1) = qf := ⟨_, rfl⟩
    have HQF := Lib.hid hqf
    clear hqf
    go_loopw [6, 7] (fun v i wr => ∃ k : Nat, k ≤ 32 ∧ i = .int .i64 (k : Int) ∧ OwnInts wr w1.heap.size v (firsts qf k) ∧ Below w1.heap.size w1 wr) (fun _ i _ => 32 - (intOf i).toNat)
    case atStart => exact ⟨0, Nat.zero_le _, rfl, OwnInts.lit w1 w1.heap.size [] (Nat.le_refl _) (by simp), (Below.refl _ _).alloc (Nat.le_refl _) _⟩
    case round =>
      obtain ⟨k, hk, rfl, hO, hB⟩ := hrel
      have HO := Lib.hid hO
      have hsz := hB.size
      have hl := firsts_length qf k
      clear hO
      by_cases hlt : k < 32
      · obtain ⟨p, hp⟩ : ∃ p, pc k = p := ⟨_, rfl⟩
        have HP := Lib.hid hp
        have hqk : qf k = (p == r + 1) := by rw [← HQF.out, ← hp]
        have HQK := Lib.hid hqk
        clear hp hqk
        by_cases e : p = r + 1
        · have hq : ((p : Int) == 1 + (r : Int)) = true := by simp; omega
          have HN := Lib.hid (firsts_hit qf k (by rw [HQK.out]; simp [e]))
          clear e
          have O4 := HO
          unfold OwnInts at O4
          go_wp2_with fail
          refine (l2Size_b k p HP.out (by omega) _).mono ?_
          rintro e w' ⟨rfl, rfl⟩
          go_wp2_with (at_builtin; refine wpList_append_own _ rfl _ _ 24 rfl w1.heap.size 3 i0 (.int .i64 0) 1 8 Tryz.underlying24 hi hz0 hz1 hz2 rfl (by decide) _ _ _ rfl (O4.out.alloc _) ⟨wr.heap.size, 0, none⟩ 1 1 [.int .i64 (k : Int)] rfl rfl ?c1 ?c2 ?c3 ?c4 ?c5 ?_)
          case c1 => intro j u hj; exact Mem.cell_new wr _ _ j u hj
          case c2 => intro u hu; simp at hu; subst hu; rfl
          case c3 => unfold maxLen; omega
          case c4 => omega
          case c5 => simp; omega
          intro v' w5 hown1 hgrow _
          have hB5 : Below w1.heap.size w1 w5 := (hB.alloc hsz _).grown hgrow (by simp; omega) (fun g hg => (O4.out.lt g hg).1)
          have H1 := Lib.hid hown1
          clear hown1 hgrow
          go_wp2
          go_roundw
          case rel => exact ⟨k + 1, by omega, by go_num, by rw [HN.out]; exact OwnInts.next H1.out, hB5⟩
          case measure => simp [intOf]; omega
        · have hq : ((p : Int) == 1 + (r : Int)) = false := by simp; omega
          have HN := Lib.hid (firsts_miss qf k (by rw [HQK.out]; simp [e]))
          clear e
          go_wp2_with fail
          refine (l2Size_b k p HP.out (by omega) _).mono ?_
          rintro e w' ⟨rfl, rfl⟩
          go_wp2
          go_roundw
          case rel => exact ⟨k + 1, by omega, by go_num, by rw [HN.out]; exact HO.out, hB⟩
          case measure => simp [intOf]; omega
      · have E : k = 32 := by omega
        subst E
        have hL0 : 0 < (firsts qf 32).length := by rw [← HQF.out]; exact HPOS.out r hr
        have HFA := Lib.hid (firsts_at qf 32)
        obtain ⟨aA, cA, gA, rfl, _, hgA, hrA, _⟩ := OwnInts.ata HO.out hsz
        have hgl : gA < wr.heap.size := (hrA 0 hL0).2.1
        have K2 := Lib.hid (K1.out.keeps (by omega) hB)
        have T2 := Lib.hid (Two.keeps T1.out hB)
        have G2 := Lib.hid (G1.out.trans (Mem.but_of_below hB _))
        have R2 := Lib.hid hrA
        clear hrA HO K1 T1 G1 HQF HPOS hlt hk
        generalize firsts qf 32 = L at *
        obtain ⟨wA, rfl⟩ : ∃ wA : World, wA = wr := ⟨_, rfl⟩
        have hb3 : Below wA.heap.size wA (wA.alloc (.cells #[] 3)) := (Below.refl _ _).alloc (Nat.le_refl _) _
        have K3 := Lib.hid (K2.out.keeps (by omega) hb3)
        have O3 := Lib.hid (OwnInts.lit wA wA.heap.size [] (Nat.le_refl _) (by simp))
        have T3 := Lib.hid (Two.keeps T2.out hb3)
        have G3 := Lib.hid (G2.out.trans (Mem.but_of_below hb3 _))
        have R3 := Lib.hid (R2.out.keeps hb3)
        clear hb3 K2 T2 G2 R2
        go_wp2_with fail
        refine (below_lit B a n c hn _ 7 (by decide) (by decide) (by decide) _ K3.out).mono ?_
        rintro e w4 ⟨m0, hm0, rfl, hd⟩
        have K4 := Lib.hid hd.1
        have O4 := Lib.hid (OwnInts.away O3.out hd.2 (by omega))
        have T4 := Lib.hid (Two.far T3.out hd.2 (by omega))
        have G4 := Lib.hid (G3.out.trans hd.2)
        have R4 := Lib.hid (R3.out.far hd.2 (by omega))
        have hs4 := hd.2.size
        simp only [World.size_alloc] at hs4
        obtain ⟨m, hm⟩ : ∃ m, m0 + 1 = m := ⟨_, rfl⟩
        have em : 1 + (m0 : Int) = (m : Int) := by omega
        have hm7 : m ≤ 7 := by omega
        clear hd K3 O3 T3 G3 R3
        go_wp2
        go_loopw [8, 10] (fun v i wr => ∃ (k : Nat) (xs : List Int), k ≤ m ∧ i = .int .i64 (k : Int) ∧ OwnInts wr wA.heap.size v xs ∧ Cur wr B a n c ∧ w.grownBy wr (some B) ∧ Two wr w.heap.size (.int .i64 0) (.slice none 0 0) ∧ xs.length = k ∧ allOk xs = true ∧ IntsAt wr gA aA L ∧ wA.heap.size ≤ wr.heap.size) (fun _ i _ => m - (intOf i).toNat)
        case atStart => exact ⟨0, [], Nat.zero_le _, rfl, O4.out, K4.out, G4.out, T4.out, rfl, rfl, R4.out, by omega⟩
        case round =>
          clear K4 O4 T4 G4 R4 hs4
          obtain ⟨k, xs, hk, rfl, hO, hK, hG, hT, hxl, hok, hR, hsw⟩ := hrel
          have HO := Lib.hid hO
          have HK := Lib.hid hK
          have HG := Lib.hid hG
          have HT := Lib.hid hT
          have HXL := Lib.hid hxl
          have HOK := Lib.hid hok
          have HR := Lib.hid hR
          have hxl1 : xs.length ≤ 7 := by omega
          clear hO hK hG hT hxl hok hR
          by_cases hlt : k < m
          · go_wp2_with fail
            refine (below_lit B a n c hn _ L.length rfl hL0 (by omega) _ HK.out).mono ?_
            rintro e w5 ⟨q, hq, rfl, hd⟩
            obtain ⟨t, ht, htp⟩ := HFA.out q hq
            have hs : t < 64 := by omega
            have K5 := Lib.hid hd.1
            have O5 := Lib.hid (OwnInts.away HO.out hd.2 (by omega))
            unfold OwnInts at O5
            have T5 := Lib.hid (Two.far HT.out hd.2 (by omega))
            have G5 := Lib.hid (HG.out.trans hd.2)
            have R5 := Lib.hid (HR.out.far hd.2 (by omega))
            have hs5 := hd.2.size
            obtain ⟨ea, _, hcell, _⟩ := R5.out q hq
            rw [ht] at hcell
            obtain rfl := ea
            clear hd HK HO HT HG HR ht
            go_wp2_with (at_builtin; refine wpList_append_own _ rfl _ _ 24 rfl wA.heap.size 3 i0 (.int .i64 0) 1 8 Tryz.underlying24 hi hz0 hz1 hz2 rfl (by decide) _ _ _ rfl (O5.out.alloc _) ⟨w5.heap.size, 0, none⟩ 1 1 [.int .i64 (t : Int)] rfl rfl ?c1 ?c2 ?c3 ?c4 ?c5 ?_)
            case c1 => intro j u hj; exact Mem.cell_new w5 _ _ j u hj
            case c2 => intro u hu; simp at hu; subst hu; rfl
            case c3 => unfold maxLen; omega
            case c4 => omega
            case c5 => simp; omega
            intro v' w6 hown1 hgrow _
            have hbs : Below wA.heap.size w5 w6 := ((Below.refl _ _).alloc (by omega) _).grown hgrow (by simp; omega) (fun g hg => (O5.out.lt g hg).1)
            have K6 := Lib.hid (K5.out.below (by omega) hbs (fun j hj g o e => by have := HOLD.out j hj g o e; omega))
            have G6 := Lib.hid (but_below G5.out hbs (by omega))
            have T6 := Lib.hid (Two.under T5.out hbs (by omega))
            have R6 := Lib.hid (R5.out.under hbs hgl)
            have hs6 := hbs.size
            have H1 := Lib.hid hown1
            clear hown1 hgrow hbs K5 G5 T5 R5
            go_wp2
            go_roundw
            case rel => exact ⟨k + 1, xs ++ [(t : Int)], by omega, by go_num, OwnInts.next H1.out, K6.out, G6.out, T6.out, by rw [List.length_append, HXL.out]; rfl, allOk_snoc HOK.out hs, R6.out, by omega⟩
            case measure => simp [intOf]; omega
          · obtain ⟨a1, c1, g1, rfl, hg1, hr1⟩ := HO.out.at
            have R1 := Lib.hid hr1
            clear hr1
            go_wp2_with fail
            refine (l3Make_any 5 _ _ xs HOK.out (by omega) _ R1.out.ints).mono ?_
            rintro e w2 ⟨v, rfl, hO, hb2⟩
            have hml := maximal_length xs
            have B2 := Lib.hid hb2
            have K2 := Lib.hid (HK.out.keeps (by omega) hb2)
            have G2 := Lib.hid (HG.out.trans (Mem.but_of_below hb2 _))
            obtain ⟨t0, t1, t2, t3, t4⟩ := HT.out.keeps hb2
            obtain ⟨a2, c2, g2, rfl, hc2, hg2, hr2, _⟩ := OwnInts.ata hO hb2.size
            have O2 := Lib.hid (OwnInts.lower hO (show w.heap.size + 1 ≤ wr.heap.size by omega))
            clear hb2 hO hr2
            go_wp2
            refine ret_cx w.heap.size rfl rfl (x := .int .i64 5) (y := .slice a2 (maximal xs).length c2) (by go_simp) (by go_simp) rfl ?_
            refine ⟨_, _, rfl, hml, (OwnInts.set (OwnInts.set O2.out _ _ _ (by omega)) _ _ _ (by omega)).lower (by omega), ?_, ?_⟩
            · exact (K2.out.below (b := w.heap.size) hBw (((Below.refl w.heap.size w2).setCell (by simp) _).setCell (by simp) _) HOLD.out)
            · exact but_below G2.out (b := w.heap.size) (((Below.refl w.heap.size w2).setCell (by simp) _).setCell (by simp) _) (Nat.le_refl _)
  · go_enter Tryz.func81, Tryz.ntmps81
    go_wp2_with fail
    refine (below_lit B a n c hn _ 6 (by decide) (by decide) (by decide) _ HC1.out).mono ?_
    rintro e w1 ⟨r, hr, rfl, hd⟩
    have K1 := Lib.hid hd.1
    have T1 := Lib.hid (Two.far HT1.out hd.2 (by omega))
    have G1 := Lib.hid (HG1.out.trans hd.2)
    have hs1 : w.heap.size + 1 ≤ w1.heap.size := T1.out.1
    clear hd HC1 HG1 HT1
    go_wp2
    obtain ⟨qf, hqf⟩ : ∃ qf : Nat → Bool, (fun s => pc s == r + 1) = qf := ⟨_, rfl⟩
    have HQF := Lib.hid hqf
    clear hqf
    go_loopw [6, 7] (fun v i wr => ∃ k : Nat, k ≤ 64 ∧ i = .int .i64 (k : Int) ∧ OwnInts wr w1.heap.size v (firsts qf k) ∧ Below w1.heap.size w1 wr) (fun _ i _ => 64 - (intOf i).toNat)
    case atStart => exact ⟨0, Nat.zero_le _, rfl, OwnInts.lit w1 w1.heap.size [] (Nat.le_refl _) (by simp), (Below.refl _ _).alloc (Nat.le_refl _) _⟩
    case round =>
      obtain ⟨k, hk, rfl, hO, hB⟩ := hrel
      have HO := Lib.hid hO
      have hsz := hB.size
      have hl := firsts_length qf k
      clear hO
      by_cases hlt : k < 64
      · obtain ⟨p, hp⟩ : ∃ p, pc k = p := ⟨_, rfl⟩
        have HP := Lib.hid hp
        have hqk : qf k = (p == r + 1) := by rw [← HQF.out, ← hp]
        have HQK := Lib.hid hqk
        clear hp hqk
        by_cases e : p = r + 1
        · have hq : ((p : Int) == 1 + (r : Int)) = true := by simp; omega
          have HN := Lib.hid (firsts_hit qf k (by rw [HQK.out]; simp [e]))
          clear e
          have O4 := HO
          unfold OwnInts at O4
          go_wp2_with fail
          refine (l2Size_b k p HP.out (by omega) _).mono ?_
          rintro e w' ⟨rfl, rfl⟩
          go_wp2_with (at_builtin; refine wpList_append_own _ rfl _ _ 24 rfl w1.heap.size 3 i0 (.int .i64 0) 1 8 Tryz.underlying24 hi hz0 hz1 hz2 rfl (by decide) _ _ _ rfl (O4.out.alloc _) ⟨wr.heap.size, 0, none⟩ 1 1 [.int .i64 (k : Int)] rfl rfl ?c1 ?c2 ?c3 ?c4 ?c5 ?_)
          case c1 => intro j u hj; exact Mem.cell_new wr _ _ j u hj
          case c2 => intro u hu; simp at hu; subst hu; rfl
          case c3 => unfold maxLen; omega
          case c4 => omega
          case c5 => simp; omega
          intro v' w5 hown1 hgrow _
          have hB5 : Below w1.heap.size w1 w5 := (hB.alloc hsz _).grown hgrow (by simp; omega) (fun g hg => (O4.out.lt g hg).1)
          have H1 := Lib.hid hown1
          clear hown1 hgrow
          go_wp2
          go_roundw
          case rel => exact ⟨k + 1, by omega, by go_num, by rw [HN.out]; exact OwnInts.next H1.out, hB5⟩
          case measure => simp [intOf]; omega
        · have hq : ((p : Int) == 1 + (r : Int)) = false := by simp; omega
          have HN := Lib.hid (firsts_miss qf k (by rw [HQK.out]; simp [e]))
          clear e
          go_wp2_with fail
          refine (l2Size_b k p HP.out (by omega) _).mono ?_
          rintro e w' ⟨rfl, rfl⟩
          go_wp2
          go_roundw
          case rel => exact ⟨k + 1, by omega, by go_num, by rw [HN.out]; exact HO.out, hB⟩
          case measure => simp [intOf]; omega
      · have E : k = 64 := by omega
        subst E
        have hL0 : 0 < (firsts qf 64).length := by rw [← HQF.out]; exact HPOS.out r hr
        have HFA := Lib.hid (firsts_at qf 64)
        obtain ⟨aA, cA, gA, rfl, _, hgA, hrA, _⟩ := OwnInts.ata HO.out hsz
        have hgl : gA < wr.heap.size := (hrA 0 hL0).2.1
        have K2 := Lib.hid (K1.out.keeps (by omega) hB)
        have T2 := Lib.hid (Two.keeps T1.out hB)
        have G2 := Lib.hid (G1.out.trans (Mem.but_of_below hB _))
        have R2 := Lib.hid hrA
        clear hrA HO K1 T1 G1 HQF HPOS hlt hk
        generalize firsts qf 64 = L at *
        obtain ⟨wA, rfl⟩ : ∃ wA : World, wA = wr := ⟨_, rfl⟩
        have hb3 : Below wA.heap.size wA (wA.alloc (.cells #[] 3)) := (Below.refl _ _).alloc (Nat.le_refl _) _
        have K3 := Lib.hid (K2.out.keeps (by omega) hb3)
        have O3 := Lib.hid (OwnInts.lit wA wA.heap.size [] (Nat.le_refl _) (by simp))
        have T3 := Lib.hid (Two.keeps T2.out hb3)
        have G3 := Lib.hid (G2.out.trans (Mem.but_of_below hb3 _))
        have R3 := Lib.hid (R2.out.keeps hb3)
        clear hb3 K2 T2 G2 R2
        go_wp2_with fail
        refine (below_lit B a n c hn _ 7 (by decide) (by decide) (by decide) _ K3.out).mono ?_
        rintro e w4 ⟨m0, hm0, rfl, hd⟩
        have K4 := Lib.hid hd.1
        have O4 := Lib.hid (OwnInts.away O3.out hd.2 (by omega))
        have T4 := Lib.hid (Two.far T3.out hd.2 (by omega))
        have G4 := Lib.hid (G3.out.trans hd.2)
        have R4 := Lib.hid (R3.out.far hd.2 (by omega))
        have hs4 := hd.2.size
        simp only [World.size_alloc] at hs4
        obtain ⟨m, hm⟩ : ∃ m, m0 + 1 = m := ⟨_, rfl⟩
        have em : 1 + (m0 : Int) = (m : Int) := by omega
        have hm7 : m ≤ 7 := by omega
        clear hd K3 O3 T3 G3 R3
        go_wp2
        go_loopw [8, 10] (fun v i wr => ∃ (k : Nat) (xs : List Int), k ≤ m ∧ i = .int .i64 (k : Int) ∧ OwnInts wr wA.heap.size v xs ∧ Cur wr B a n c ∧ w.grownBy wr (some B) ∧ Two wr w.heap.size (.int .i64 0) (.slice none 0 0) ∧ xs.length = k ∧ allOk xs = true ∧ IntsAt wr gA aA L ∧ wA.heap.size ≤ wr.heap.size) (fun _ i _ => m - (intOf i).toNat)
        case atStart => exact ⟨0, [], Nat.zero_le _, rfl, O4.out, K4.out, G4.out, T4.out, rfl, rfl, R4.out, by omega⟩
        case round =>
          clear K4 O4 T4 G4 R4 hs4
          obtain ⟨k, xs, hk, rfl, hO, hK, hG, hT, hxl, hok, hR, hsw⟩ := hrel
          have HO := Lib.hid hO
          have HK := Lib.hid hK
          have HG := Lib.hid hG
          have HT := Lib.hid hT
          have HXL := Lib.hid hxl
          have HOK := Lib.hid hok
          have HR := Lib.hid hR
          have hxl1 : xs.length ≤ 7 := by omega
          clear hO hK hG hT hxl hok hR
          by_cases hlt : k < m
          · go_wp2_with fail
            refine (below_lit B a n c hn _ L.length rfl hL0 (by omega) _ HK.out).mono ?_
            rintro e w5 ⟨q, hq, rfl, hd⟩
            obtain ⟨t, ht, htp⟩ := HFA.out q hq
            have hs : t < 64 := by omega
            have K5 := Lib.hid hd.1
            have O5 := Lib.hid (OwnInts.away HO.out hd.2 (by omega))
            unfold OwnInts at O5
            have T5 := Lib.hid (Two.far HT.out hd.2 (by omega))
            have G5 := Lib.hid (HG.out.trans hd.2)
            have R5 := Lib.hid (HR.out.far hd.2 (by omega))
            have hs5 := hd.2.size
            obtain ⟨ea, _, hcell, _⟩ := R5.out q hq
            rw [ht] at hcell
            obtain rfl := ea
            clear hd HK HO HT HG HR ht
            go_wp2_with (at_builtin; refine wpList_append_own _ rfl _ _ 24 rfl wA.heap.size 3 i0 (.int .i64 0) 1 8 Tryz.underlying24 hi hz0 hz1 hz2 rfl (by decide) _ _ _ rfl (O5.out.alloc _) ⟨w5.heap.size, 0, none⟩ 1 1 [.int .i64 (t : Int)] rfl rfl ?c1 ?c2 ?c3 ?c4 ?c5 ?_)
            case c1 => intro j u hj; exact Mem.cell_new w5 _ _ j u hj
            case c2 => intro u hu; simp at hu; subst hu; rfl
            case c3 => unfold maxLen; omega
            case c4 => omega
            case c5 => simp; omega
            intro v' w6 hown1 hgrow _
            have hbs : Below wA.heap.size w5 w6 := ((Below.refl _ _).alloc (by omega) _).grown hgrow (by simp; omega) (fun g hg => (O5.out.lt g hg).1)
            have K6 := Lib.hid (K5.out.below (by omega) hbs (fun j hj g o e => by have := HOLD.out j hj g o e; omega))
            have G6 := Lib.hid (but_below G5.out hbs (by omega))
            have T6 := Lib.hid (Two.under T5.out hbs (by omega))
            have R6 := Lib.hid (R5.out.under hbs hgl)
            have hs6 := hbs.size
            have H1 := Lib.hid hown1
            clear hown1 hgrow hbs K5 G5 T5 R5
            go_wp2
            go_roundw
            case rel => exact ⟨k + 1, xs ++ [(t : Int)], by omega, by go_num, OwnInts.next H1.out, K6.out, G6.out, T6.out, by rw [List.length_append, HXL.out]; rfl, allOk_snoc HOK.out hs, R6.out, by omega⟩
            case measure => simp [intOf]; omega
          · obtain ⟨a1, c1, g1, rfl, hg1, hr1⟩ := HO.out.at
            have R1 := Lib.hid hr1
            clear hr1
            go_wp2_with fail
            refine (l3Make_any 6 _ _ xs HOK.out (by omega) _ R1.out.ints).mono ?_
            rintro e w2 ⟨v, rfl, hO, hb2⟩
            have hml := maximal_length xs
            have B2 := Lib.hid hb2
            have K2 := Lib.hid (HK.out.keeps (by omega) hb2)
            have G2 := Lib.hid (HG.out.trans (Mem.but_of_below hb2 _))
            obtain ⟨t0, t1, t2, t3, t4⟩ := HT.out.keeps hb2
            obtain ⟨a2, c2, g2, rfl, hc2, hg2, hr2, _⟩ := OwnInts.ata hO hb2.size
            have O2 := Lib.hid (OwnInts.lower hO (show w.heap.size + 1 ≤ wr.heap.size by omega))
            clear hb2 hO hr2
            go_wp2
            refine ret_cx w.heap.size rfl rfl (x := .int .i64 6) (y := .slice a2 (maximal xs).length c2) (by go_simp) (by go_simp) rfl ?_
            refine ⟨_, _, rfl, hml, (OwnInts.set (OwnInts.set O2.out _ _ _ (by omega)) _ _ _ (by omega)).lower (by omega), ?_, ?_⟩
            · exact (K2.out.below (b := w.heap.size) hBw (((Below.refl w.heap.size w2).setCell (by simp) _).setCell (by simp) _) HOLD.out)
            · exact but_below G2.out (b := w.heap.size) (((Below.refl w.heap.size w2).setCell (by simp) _).setCell (by simp) _) (Nat.le_refl _)

end Go.Proofs.YtenpcjmhlnalcaaGreat
