/-
  WALKS: spec.l3Size: a complex of so many points is drawn.
-/
import Derived.Test.YtenpcjmhlnalcaaGreatJg11
import Derived.Test.YtenpcjmhlnalcaaGreatJg7
namespace Go.Proofs.YtenpcjmhlnalcaaGreat
open Go.RowKit
open Sets

theorem Cur.allocs {w : World} {B : Nat} {a : Option Addr} {n c : Nat} (h : Cur w B a n c) (hB : B < w.heap.size) (o1 o2 : Obj) : Cur ((w.alloc o1).alloc o2) B a n c :=
  h.keeps hB (((Below.refl _ _).alloc (Nat.le_refl _) _).alloc (by simp) _)
theorem Cur.allocs3 {w : World} {B : Nat} {a : Option Addr} {n c : Nat} (h : Cur w B a n c) (hB : B < w.heap.size) (o1 o2 o3 : Obj) : Cur (((w.alloc o1).alloc o2).alloc o3) B a n c :=
  h.keeps hB ((((Below.refl _ _).alloc (Nat.le_refl _) _).alloc (by simp) _).alloc (by simp; omega) _)

set_option maxRecDepth 100000 in
set_option maxHeartbeats 8000000 in
theorem l3Size_any (a : Option Addr) (n c : Nat) (hn : n ≤ 140737488355328) (nn : Nat) (h1 : 1 ≤ nn) (h6 : nn ≤ 6) (B : Nat) (w : World) (hBw : B < w.heap.size) (hc : Cur w B a n c) :
    Calls Tryz.prog 82 #[.pointer (some ⟨B, 0, none⟩), .int .i64 (nn : Int)] w fun e w' =>
      ∃ v xs, e = .returned (cx (nn : Int) v) ∧ xs.length ≤ 448 ∧ OwnInts w' w.heap.size v xs ∧ Cur w' B a n c ∧ w.grownBy w' (some B) := by
  obtain ⟨i0, hi, hz0, hz1, hz2⟩ := info_parts info_int
  have hb3 : Below w.heap.size w (((w.alloc (.cells #[.int .i64 0, .slice none 0 0] 26)).alloc (.cells #[] 3)).alloc (.cells #[.int .i64 0, .int .i64 1, .int .i64 2, .int .i64 3, .int .i64 4, .int .i64 4, .int .i64 5, .int .i64 6] 3)) :=
    (((Below.refl _ _).alloc (Nat.le_refl _) _).alloc (by simp) _).alloc (by simp; omega) _
  have hO0 := ((OwnInts.lit (w.alloc (.cells #[.int .i64 0, .slice none 0 0] 26)) (w.heap.size + 1) [] (by simp) (by simp)).alloc (.cells #[.int .i64 0, .int .i64 1, .int .i64 2, .int .i64 3, .int .i64 4, .int .i64 4, .int .i64 5, .int .i64 6] 3))
  have htwo := ((Two.new w (.int .i64 0) (.slice none 0 0) 26).alloc (.cells #[] 3)).alloc (.cells #[.int .i64 0, .int .i64 1, .int .i64 2, .int .i64 3, .int .i64 4, .int .i64 4, .int .i64 5, .int .i64 6] 3)
  have hrow := row_ints ((w.alloc (.cells #[.int .i64 0, .slice none 0 0] 26)).alloc (.cells #[] 3)) [0, 1, 2, 3, 4, 4, 5, 6] 3
  simp only [World.size_alloc] at hrow
  have HROW := Lib.hid hrow
  clear hrow
  have HC3 := Lib.hid (hc.keeps hBw hb3)
  have HOLD := Lib.hid hc.old
  have HG3 := Lib.hid (Mem.but_of_below hb3 (some B))
  have HO0 := Lib.hid hO0
  have HT0 := Lib.hid htwo
  rw [World.size_alloc] at HO0
  clear hc hb3 hO0 htwo
  rcases (by omega : nn = 1 ∨ nn = 2 ∨ nn = 3 ∨ nn = 4 ∨ nn = 5 ∨ nn = 6) with rfl | rfl | rfl | rfl | rfl | rfl
  · go_enter Tryz.func82, Tryz.ntmps82
    go_wp2_with fail
    refine (pickInt_any B a n c hn (w.heap.size + 1 + 1) 0 8 [0, 1, 2, 3, 4, 4, 5, 6] (by decide) (by decide) _ HC3.out (by omega) (by exact HROW.out)).mono ?_
    rintro e w1 ⟨r, hr, rfl, hd⟩
    obtain ⟨m, hm, em⟩ := eight_a r hr
    rw [em]
    have K1 := Lib.hid hd.1
    have O1 := Lib.hid (OwnInts.away HO0.out hd.2 (by omega))
    have T1 := Lib.hid (Two.far HT0.out hd.2 (by omega))
    have G1 := Lib.hid (HG3.out.trans hd.2)
    clear hd em HC3 HO0 HT0 HG3 HROW
    go_wp2
    go_loopw [5, 7] (fun v i wr => ∃ (k : Nat) (xs : List Int), k ≤ m ∧ i = .int .i64 (k : Int) ∧ OwnInts wr (w.heap.size + 1) v xs ∧ Cur wr B a n c ∧ w.grownBy wr (some B) ∧ Two wr w.heap.size (.int .i64 0) (.slice none 0 0) ∧ xs.length = k ∧ allOk xs = true) (fun _ i _ => m - (intOf i).toNat)
    case atStart => exact ⟨0, [], Nat.zero_le _, rfl, O1.out, K1.out, G1.out, T1.out, rfl, rfl⟩
    case round =>
      clear K1 O1 T1 G1
      obtain ⟨k, xs, hk, rfl, hO, hK, hG, hT, hxl, hok⟩ := hrel
      have HO := Lib.hid hO
      have HK := Lib.hid hK
      have HG := Lib.hid hG
      have HT := Lib.hid hT
      have HXL := Lib.hid hxl
      have HOK := Lib.hid hok
      have hxl1 : xs.length ≤ 6 := by omega
      have hs1 : w.heap.size + 1 ≤ wr.heap.size := hT.1
      clear hO hK hG hT hxl hok
      by_cases hlt : k < m
      · go_wp2_with fail
        refine (below_lit B a n c hn _ 2 (by decide) (by decide) (by decide) _ HK.out).mono ?_
        rintro e w2 ⟨r, hr, rfl, hd⟩
        have K2 := Lib.hid hd.1
        have O2 := Lib.hid (OwnInts.away HO.out hd.2 (by omega))
        have G2 := Lib.hid (HG.out.trans hd.2)
        have T2 := Lib.hid (Two.far HT.out hd.2 (by omega))
        have hs2 := hd.2.size
        clear hd HO HK HG HT
        go_wp2_with fail
        refine (once_b B a n c hn _ 2 rfl (by omega) (by omega) _ K2.out).mono ?_
        rintro e w3 ⟨b, rfl, hd⟩
        have K3 := Lib.hid hd.1
        have O3 := Lib.hid (OwnInts.away O2.out hd.2 (by omega))
        have G3 := Lib.hid (G2.out.trans hd.2)
        have T3 := Lib.hid (Two.far T2.out hd.2 (by omega))
        have hs3 := hd.2.size
        clear hd K2 O2 G2 T2
        cases b with
        | true =>
          go_wp2_with fail
          refine (below_lit B a n c hn _ 2 (by decide) (by decide) (by decide) _ K3.out).mono ?_
          rintro e w4 ⟨q, hq, rfl, hd⟩
          have ha := and_nat r q (by omega) (by omega)
          have hs := and_lt64 r q (by omega)
          have K4 := Lib.hid hd.1
          have O4 := Lib.hid (OwnInts.away O3.out hd.2 (by omega))
          unfold OwnInts at O4
          have G4 := Lib.hid (G3.out.trans hd.2)
          have T4 := Lib.hid (Two.far T3.out hd.2 (by omega))
          have hs4 := hd.2.size
          clear hd K3 O3 G3 T3
          generalize r &&& q = s at *
          go_wp2_with (at_builtin; refine wpList_append_own _ rfl _ _ 24 rfl (w.heap.size + 1) 3 i0 (.int .i64 0) 1 8 Tryz.underlying24 hi hz0 hz1 hz2 rfl (by decide) _ _ _ rfl (O4.out.alloc _) ⟨w4.heap.size, 0, none⟩ 1 1 [.int .i64 (s : Int)] rfl rfl ?c1 ?c2 ?c3 ?c4 ?c5 ?_)
          case c1 => intro j u hj; exact Mem.cell_new w4 _ _ j u hj
          case c2 => intro u hu; simp at hu; subst hu; rfl
          case c3 => unfold maxLen; omega
          case c4 => omega
          case c5 => simp; omega
          intro v' w5 hown1 hgrow _
          have hbs : Below (w.heap.size + 1) w4 w5 := ((Below.refl _ _).alloc (by omega) _).grown hgrow (by simp; omega) (fun g hg => (O4.out.lt g hg).1)
          have K5 := Lib.hid (K4.out.below (by omega) hbs (fun j hj g o e => by have := HOLD.out j hj g o e; omega))
          have G5 := Lib.hid (but_below G4.out hbs (by omega))
          have T5 := Lib.hid (Two.under T4.out hbs (by omega))
          have H1 := Lib.hid hown1
          clear hown1 hgrow hbs K4 G4 T4
          go_wp2
          go_roundw
          case rel => exact ⟨k + 1, xs ++ [(s : Int)], by omega, by go_num, OwnInts.next H1.out, K5.out, G5.out, T5.out, by rw [List.length_append, HXL.out]; rfl, allOk_snoc HOK.out hs⟩
          case measure => simp [intOf]; omega
        | false =>
          obtain ⟨w4, rfl⟩ : ∃ w4 : World, w4 = w3 := ⟨_, rfl⟩
          obtain ⟨s, rfl⟩ : ∃ s : Nat, s = r := ⟨_, rfl⟩
          have hs : s < 64 := by omega
          have K4 := K3
          have O4 := O3
          unfold OwnInts at O4
          have G4 := G3
          have T4 := T3
          have hs4 : w2.heap.size ≤ w4.heap.size := hs3
          clear K3 O3 G3 T3
          go_wp2_with (at_builtin; refine wpList_append_own _ rfl _ _ 24 rfl (w.heap.size + 1) 3 i0 (.int .i64 0) 1 8 Tryz.underlying24 hi hz0 hz1 hz2 rfl (by decide) _ _ _ rfl (O4.out.alloc _) ⟨w4.heap.size, 0, none⟩ 1 1 [.int .i64 (s : Int)] rfl rfl ?c1 ?c2 ?c3 ?c4 ?c5 ?_)
          case c1 => intro j u hj; exact Mem.cell_new w4 _ _ j u hj
          case c2 => intro u hu; simp at hu; subst hu; rfl
          case c3 => unfold maxLen; omega
          case c4 => omega
          case c5 => simp; omega
          intro v' w5 hown1 hgrow _
          have hbs : Below (w.heap.size + 1) w4 w5 := ((Below.refl _ _).alloc (by omega) _).grown hgrow (by simp; omega) (fun g hg => (O4.out.lt g hg).1)
          have K5 := Lib.hid (K4.out.below (by omega) hbs (fun j hj g o e => by have := HOLD.out j hj g o e; omega))
          have G5 := Lib.hid (but_below G4.out hbs (by omega))
          have T5 := Lib.hid (Two.under T4.out hbs (by omega))
          have H1 := Lib.hid hown1
          clear hown1 hgrow hbs K4 G4 T4
          go_wp2
          go_roundw
          case rel => exact ⟨k + 1, xs ++ [(s : Int)], by omega, by go_num, OwnInts.next H1.out, K5.out, G5.out, T5.out, by rw [List.length_append, HXL.out]; rfl, allOk_snoc HOK.out hs⟩
          case measure => simp [intOf]; omega
      · have E := Lib.hid (show k = m by omega)
        obtain ⟨a1, c1, g1, rfl, hg1, hr1⟩ := HO.out.at
        have R1 := Lib.hid hr1
        clear hr1
        go_wp2_with fail
        refine (l3Make_any 1 _ _ xs HOK.out (by omega) _ R1.out.ints).mono ?_
        rintro e w2 ⟨v, rfl, hO, hb2⟩
        have hml := maximal_length xs
        have B2 := Lib.hid hb2
        have K2 := Lib.hid (HK.out.keeps (by omega) hb2)
        have G2 := Lib.hid (HG.out.trans (Mem.but_of_below hb2 _))
        obtain ⟨t0, t1, t2, t3, t4⟩ := HT.out.keeps hb2
        obtain ⟨a2, c2, g2, rfl, hc2, hg2, hr2, _⟩ := OwnInts.ata hO hb2.size
        have O2 := Lib.hid (OwnInts.lower hO (show w.heap.size + 1 ≤ wr.heap.size from hs1))
        clear hb2 hO hr2
        go_wp2
        refine ret_cx w.heap.size rfl rfl (x := .int .i64 1) (y := .slice a2 (maximal xs).length c2) (by go_simp) (by go_simp) rfl ?_
        refine ⟨_, _, rfl, hml, (OwnInts.set (OwnInts.set O2.out _ _ _ (by omega)) _ _ _ (by omega)).lower (by omega), ?_, ?_⟩
        · exact (K2.out.below (b := w.heap.size) hBw (((Below.refl w.heap.size w2).setCell (by simp) _).setCell (by simp) _) HOLD.out)
        · exact but_below G2.out (b := w.heap.size) (((Below.refl w.heap.size w2).setCell (by simp) _).setCell (by simp) _) (Nat.le_refl _)
  · go_enter Tryz.func82, Tryz.ntmps82
    go_wp2_with fail
    refine (pickInt_any B a n c hn (w.heap.size + 1 + 1) 0 8 [0, 1, 2, 3, 4, 4, 5, 6] (by decide) (by decide) _ HC3.out (by omega) (by exact HROW.out)).mono ?_
    rintro e w1 ⟨r, hr, rfl, hd⟩
    obtain ⟨m, hm, em⟩ := eight_a r hr
    rw [em]
    have K1 := Lib.hid hd.1
    have O1 := Lib.hid (OwnInts.away HO0.out hd.2 (by omega))
    have T1 := Lib.hid (Two.far HT0.out hd.2 (by omega))
    have G1 := Lib.hid (HG3.out.trans hd.2)
    clear hd em HC3 HO0 HT0 HG3 HROW
    go_wp2
    go_loopw [5, 7] (fun v i wr => ∃ (k : Nat) (xs : List Int), k ≤ m ∧ i = .int .i64 (k : Int) ∧ OwnInts wr (w.heap.size + 1) v xs ∧ Cur wr B a n c ∧ w.grownBy wr (some B) ∧ Two wr w.heap.size (.int .i64 0) (.slice none 0 0) ∧ xs.length = k ∧ allOk xs = true) (fun _ i _ => m - (intOf i).toNat)
    case atStart => exact ⟨0, [], Nat.zero_le _, rfl, O1.out, K1.out, G1.out, T1.out, rfl, rfl⟩
    case round =>
      clear K1 O1 T1 G1
      obtain ⟨k, xs, hk, rfl, hO, hK, hG, hT, hxl, hok⟩ := hrel
      have HO := Lib.hid hO
      have HK := Lib.hid hK
      have HG := Lib.hid hG
      have HT := Lib.hid hT
      have HXL := Lib.hid hxl
      have HOK := Lib.hid hok
      have hxl1 : xs.length ≤ 6 := by omega
      have hs1 : w.heap.size + 1 ≤ wr.heap.size := hT.1
      clear hO hK hG hT hxl hok
      by_cases hlt : k < m
      · go_wp2_with fail
        refine (below_lit B a n c hn _ 4 (by decide) (by decide) (by decide) _ HK.out).mono ?_
        rintro e w2 ⟨r, hr, rfl, hd⟩
        have K2 := Lib.hid hd.1
        have O2 := Lib.hid (OwnInts.away HO.out hd.2 (by omega))
        have G2 := Lib.hid (HG.out.trans hd.2)
        have T2 := Lib.hid (Two.far HT.out hd.2 (by omega))
        have hs2 := hd.2.size
        clear hd HO HK HG HT
        go_wp2_with fail
        refine (once_b B a n c hn _ 2 rfl (by omega) (by omega) _ K2.out).mono ?_
        rintro e w3 ⟨b, rfl, hd⟩
        have K3 := Lib.hid hd.1
        have O3 := Lib.hid (OwnInts.away O2.out hd.2 (by omega))
        have G3 := Lib.hid (G2.out.trans hd.2)
        have T3 := Lib.hid (Two.far T2.out hd.2 (by omega))
        have hs3 := hd.2.size
        clear hd K2 O2 G2 T2
        cases b with
        | true =>
          go_wp2_with fail
          refine (below_lit B a n c hn _ 4 (by decide) (by decide) (by decide) _ K3.out).mono ?_
          rintro e w4 ⟨q, hq, rfl, hd⟩
          have ha := and_nat r q (by omega) (by omega)
          have hs := and_lt64 r q (by omega)
          have K4 := Lib.hid hd.1
          have O4 := Lib.hid (OwnInts.away O3.out hd.2 (by omega))
          unfold OwnInts at O4
          have G4 := Lib.hid (G3.out.trans hd.2)
          have T4 := Lib.hid (Two.far T3.out hd.2 (by omega))
          have hs4 := hd.2.size
          clear hd K3 O3 G3 T3
          generalize r &&& q = s at *
          go_wp2_with (at_builtin; refine wpList_append_own _ rfl _ _ 24 rfl (w.heap.size + 1) 3 i0 (.int .i64 0) 1 8 Tryz.underlying24 hi hz0 hz1 hz2 rfl (by decide) _ _ _ rfl (O4.out.alloc _) ⟨w4.heap.size, 0, none⟩ 1 1 [.int .i64 (s : Int)] rfl rfl ?c1 ?c2 ?c3 ?c4 ?c5 ?_)
          case c1 => intro j u hj; exact Mem.cell_new w4 _ _ j u hj
          case c2 => intro u hu; simp at hu; subst hu; rfl
          case c3 => unfold maxLen; omega
          case c4 => omega
          case c5 => simp; omega
          intro v' w5 hown1 hgrow _
          have hbs : Below (w.heap.size + 1) w4 w5 := ((Below.refl _ _).alloc (by omega) _).grown hgrow (by simp; omega) (fun g hg => (O4.out.lt g hg).1)
          have K5 := Lib.hid (K4.out.below (by omega) hbs (fun j hj g o e => by have := HOLD.out j hj g o e; omega))
          have G5 := Lib.hid (but_below G4.out hbs (by omega))
          have T5 := Lib.hid (Two.under T4.out hbs (by omega))
          have H1 := Lib.hid hown1
          clear hown1 hgrow hbs K4 G4 T4
          go_wp2
          go_roundw
          case rel => exact ⟨k + 1, xs ++ [(s : Int)], by omega, by go_num, OwnInts.next H1.out, K5.out, G5.out, T5.out, by rw [List.length_append, HXL.out]; rfl, allOk_snoc HOK.out hs⟩
          case measure => simp [intOf]; omega
        | false =>
          obtain ⟨w4, rfl⟩ : ∃ w4 : World, w4 = w3 := ⟨_, rfl⟩
          obtain ⟨s, rfl⟩ : ∃ s : Nat, s = r := ⟨_, rfl⟩
          have hs : s < 64 := by omega
          have K4 := K3
          have O4 := O3
          unfold OwnInts at O4
          have G4 := G3
          have T4 := T3
          have hs4 : w2.heap.size ≤ w4.heap.size := hs3
          clear K3 O3 G3 T3
          go_wp2_with (at_builtin; refine wpList_append_own _ rfl _ _ 24 rfl (w.heap.size + 1) 3 i0 (.int .i64 0) 1 8 Tryz.underlying24 hi hz0 hz1 hz2 rfl (by decide) _ _ _ rfl (O4.out.alloc _) ⟨w4.heap.size, 0, none⟩ 1 1 [.int .i64 (s : Int)] rfl rfl ?c1 ?c2 ?c3 ?c4 ?c5 ?_)
          case c1 => intro j u hj; exact Mem.cell_new w4 _ _ j u hj
          case c2 => intro u hu; simp at hu; subst hu; rfl
          case c3 => unfold maxLen; omega
          case c4 => omega
          case c5 => simp; omega
          intro v' w5 hown1 hgrow _
          have hbs : Below (w.heap.size + 1) w4 w5 := ((Below.refl _ _).alloc (by omega) _).grown hgrow (by simp; omega) (fun g hg => (O4.out.lt g hg).1)
          have K5 := Lib.hid (K4.out.below (by omega) hbs (fun j hj g o e => by have := HOLD.out j hj g o e; omega))
          have G5 := Lib.hid (but_below G4.out hbs (by omega))
          have T5 := Lib.hid (Two.under T4.out hbs (by omega))
          have H1 := Lib.hid hown1
          clear hown1 hgrow hbs K4 G4 T4
          go_wp2
          go_roundw
          case rel => exact ⟨k + 1, xs ++ [(s : Int)], by omega, by go_num, OwnInts.next H1.out, K5.out, G5.out, T5.out, by rw [List.length_append, HXL.out]; rfl, allOk_snoc HOK.out hs⟩
          case measure => simp [intOf]; omega
      · have E := Lib.hid (show k = m by omega)
        obtain ⟨a1, c1, g1, rfl, hg1, hr1⟩ := HO.out.at
        have R1 := Lib.hid hr1
        clear hr1
        go_wp2_with fail
        refine (l3Make_any 2 _ _ xs HOK.out (by omega) _ R1.out.ints).mono ?_
        rintro e w2 ⟨v, rfl, hO, hb2⟩
        have hml := maximal_length xs
        have B2 := Lib.hid hb2
        have K2 := Lib.hid (HK.out.keeps (by omega) hb2)
        have G2 := Lib.hid (HG.out.trans (Mem.but_of_below hb2 _))
        obtain ⟨t0, t1, t2, t3, t4⟩ := HT.out.keeps hb2
        obtain ⟨a2, c2, g2, rfl, hc2, hg2, hr2, _⟩ := OwnInts.ata hO hb2.size
        have O2 := Lib.hid (OwnInts.lower hO (show w.heap.size + 1 ≤ wr.heap.size from hs1))
        clear hb2 hO hr2
        go_wp2
        refine ret_cx w.heap.size rfl rfl (x := .int .i64 2) (y := .slice a2 (maximal xs).length c2) (by go_simp) (by go_simp) rfl ?_
        refine ⟨_, _, rfl, hml, (OwnInts.set (OwnInts.set O2.out _ _ _ (by omega)) _ _ _ (by omega)).lower (by omega), ?_, ?_⟩
        · exact (K2.out.below (b := w.heap.size) hBw (((Below.refl w.heap.size w2).setCell (by simp) _).setCell (by simp) _) HOLD.out)
        · exact but_below G2.out (b := w.heap.size) (((Below.refl w.heap.size w2).setCell (by simp) _).setCell (by simp) _) (Nat.le_refl _)
  · go_enter Tryz.func82, Tryz.ntmps82
    go_wp2_with fail
    refine (pickInt_any B a n c hn (w.heap.size + 1 + 1) 0 8 [0, 1, 2, 3, 4, 4, 5, 6] (by decide) (by decide) _ HC3.out (by omega) (by exact HROW.out)).mono ?_
    rintro e w1 ⟨r, hr, rfl, hd⟩
    obtain ⟨m, hm, em⟩ := eight_a r hr
    rw [em]
    have K1 := Lib.hid hd.1
    have O1 := Lib.hid (OwnInts.away HO0.out hd.2 (by omega))
    have T1 := Lib.hid (Two.far HT0.out hd.2 (by omega))
    have G1 := Lib.hid (HG3.out.trans hd.2)
    clear hd em HC3 HO0 HT0 HG3 HROW
    go_wp2
    go_loopw [5, 7] (fun v i wr => ∃ (k : Nat) (xs : List Int), k ≤ m ∧ i = .int .i64 (k : Int) ∧ OwnInts wr (w.heap.size + 1) v xs ∧ Cur wr B a n c ∧ w.grownBy wr (some B) ∧ Two wr w.heap.size (.int .i64 0) (.slice none 0 0) ∧ xs.length = k ∧ allOk xs = true) (fun _ i _ => m - (intOf i).toNat)
    case atStart => exact ⟨0, [], Nat.zero_le _, rfl, O1.out, K1.out, G1.out, T1.out, rfl, rfl⟩
    case round =>
      clear K1 O1 T1 G1
      obtain ⟨k, xs, hk, rfl, hO, hK, hG, hT, hxl, hok⟩ := hrel
      have HO := Lib.hid hO
      have HK := Lib.hid hK
      have HG := Lib.hid hG
      have HT := Lib.hid hT
      have HXL := Lib.hid hxl
      have HOK := Lib.hid hok
      have hxl1 : xs.length ≤ 6 := by omega
      have hs1 : w.heap.size + 1 ≤ wr.heap.size := hT.1
      clear hO hK hG hT hxl hok
      by_cases hlt : k < m
      · go_wp2_with fail
        refine (below_lit B a n c hn _ 8 (by decide) (by decide) (by decide) _ HK.out).mono ?_
        rintro e w2 ⟨r, hr, rfl, hd⟩
        have K2 := Lib.hid hd.1
        have O2 := Lib.hid (OwnInts.away HO.out hd.2 (by omega))
        have G2 := Lib.hid (HG.out.trans hd.2)
        have T2 := Lib.hid (Two.far HT.out hd.2 (by omega))
        have hs2 := hd.2.size
        clear hd HO HK HG HT
        go_wp2_with fail
        refine (once_b B a n c hn _ 2 rfl (by omega) (by omega) _ K2.out).mono ?_
        rintro e w3 ⟨b, rfl, hd⟩
        have K3 := Lib.hid hd.1
        have O3 := Lib.hid (OwnInts.away O2.out hd.2 (by omega))
        have G3 := Lib.hid (G2.out.trans hd.2)
        have T3 := Lib.hid (Two.far T2.out hd.2 (by omega))
        have hs3 := hd.2.size
        clear hd K2 O2 G2 T2
        cases b with
        | true =>
          go_wp2_with fail
          refine (below_lit B a n c hn _ 8 (by decide) (by decide) (by decide) _ K3.out).mono ?_
          rintro e w4 ⟨q, hq, rfl, hd⟩
          have ha := and_nat r q (by omega) (by omega)
          have hs := and_lt64 r q (by omega)
          have K4 := Lib.hid hd.1
          have O4 := Lib.hid (OwnInts.away O3.out hd.2 (by omega))
          unfold OwnInts at O4
          have G4 := Lib.hid (G3.out.trans hd.2)
          have T4 := Lib.hid (Two.far T3.out hd.2 (by omega))
          have hs4 := hd.2.size
          clear hd K3 O3 G3 T3
          generalize r &&& q = s at *
          go_wp2_with (at_builtin; refine wpList_append_own _ rfl _ _ 24 rfl (w.heap.size + 1) 3 i0 (.int .i64 0) 1 8 Tryz.underlying24 hi hz0 hz1 hz2 rfl (by decide) _ _ _ rfl (O4.out.alloc _) ⟨w4.heap.size, 0, none⟩ 1 1 [.int .i64 (s : Int)] rfl rfl ?c1 ?c2 ?c3 ?c4 ?c5 ?_)
          case c1 => intro j u hj; exact Mem.cell_new w4 _ _ j u hj
          case c2 => intro u hu; simp at hu; subst hu; rfl
          case c3 => unfold maxLen; omega
          case c4 => omega
          case c5 => simp; omega
          intro v' w5 hown1 hgrow _
          have hbs : Below (w.heap.size + 1) w4 w5 := ((Below.refl _ _).alloc (by omega) _).grown hgrow (by simp; omega) (fun g hg => (O4.out.lt g hg).1)
          have K5 := Lib.hid (K4.out.below (by omega) hbs (fun j hj g o e => by have := HOLD.out j hj g o e; omega))
          have G5 := Lib.hid (but_below G4.out hbs (by omega))
          have T5 := Lib.hid (Two.under T4.out hbs (by omega))
          have H1 := Lib.hid hown1
          clear hown1 hgrow hbs K4 G4 T4
          go_wp2
          go_roundw
          case rel => exact ⟨k + 1, xs ++ [(s : Int)], by omega, by go_num, OwnInts.next H1.out, K5.out, G5.out, T5.out, by rw [List.length_append, HXL.out]; rfl, allOk_snoc HOK.out hs⟩
          case measure => simp [intOf]; omega
        | false =>
          obtain ⟨w4, rfl⟩ : ∃ w4 : World, w4 = w3 := ⟨_, rfl⟩
          obtain ⟨s, rfl⟩ : ∃ s : Nat, s = r := ⟨_, rfl⟩
          have hs : s < 64 := by omega
          have K4 := K3
          have O4 := O3
          unfold OwnInts at O4
          have G4 := G3
          have T4 := T3
          have hs4 : w2.heap.size ≤ w4.heap.size := hs3
          clear K3 O3 G3 T3
          go_wp2_with (at_builtin; refine wpList_append_own _ rfl _ _ 24 rfl (w.heap.size + 1) 3 i0 (.int .i64 0) 1 8 Tryz.underlying24 hi hz0 hz1 hz2 rfl (by decide) _ _ _ rfl (O4.out.alloc _) ⟨w4.heap.size, 0, none⟩ 1 1 [.int .i64 (s : Int)] rfl rfl ?c1 ?c2 ?c3 ?c4 ?c5 ?_)
          case c1 => intro j u hj; exact Mem.cell_new w4 _ _ j u hj
          case c2 => intro u hu; simp at hu; subst hu; rfl
          case c3 => unfold maxLen; omega
          case c4 => omega
          case c5 => simp; omega
          intro v' w5 hown1 hgrow _
          have hbs : Below (w.heap.size + 1) w4 w5 := ((Below.refl _ _).alloc (by omega) _).grown hgrow (by simp; omega) (fun g hg => (O4.out.lt g hg).1)
          have K5 := Lib.hid (K4.out.below (by omega) hbs (fun j hj g o e => by have := HOLD.out j hj g o e; omega))
          have G5 := Lib.hid (but_below G4.out hbs (by omega))
          have T5 := Lib.hid (Two.under T4.out hbs (by omega))
          have H1 := Lib.hid hown1
          clear hown1 hgrow hbs K4 G4 T4
          go_wp2
          go_roundw
          case rel => exact ⟨k + 1, xs ++ [(s : Int)], by omega, by go_num, OwnInts.next H1.out, K5.out, G5.out, T5.out, by rw [List.length_append, HXL.out]; rfl, allOk_snoc HOK.out hs⟩
          case measure => simp [intOf]; omega
      · have E := Lib.hid (show k = m by omega)
        obtain ⟨a1, c1, g1, rfl, hg1, hr1⟩ := HO.out.at
        have R1 := Lib.hid hr1
        clear hr1
        go_wp2_with fail
        refine (l3Make_any 3 _ _ xs HOK.out (by omega) _ R1.out.ints).mono ?_
        rintro e w2 ⟨v, rfl, hO, hb2⟩
        have hml := maximal_length xs
        have B2 := Lib.hid hb2
        have K2 := Lib.hid (HK.out.keeps (by omega) hb2)
        have G2 := Lib.hid (HG.out.trans (Mem.but_of_below hb2 _))
        obtain ⟨t0, t1, t2, t3, t4⟩ := HT.out.keeps hb2
        obtain ⟨a2, c2, g2, rfl, hc2, hg2, hr2, _⟩ := OwnInts.ata hO hb2.size
        have O2 := Lib.hid (OwnInts.lower hO (show w.heap.size + 1 ≤ wr.heap.size from hs1))
        clear hb2 hO hr2
        go_wp2
        refine ret_cx w.heap.size rfl rfl (x := .int .i64 3) (y := .slice a2 (maximal xs).length c2) (by go_simp) (by go_simp) rfl ?_
        refine ⟨_, _, rfl, hml, (OwnInts.set (OwnInts.set O2.out _ _ _ (by omega)) _ _ _ (by omega)).lower (by omega), ?_, ?_⟩
        · exact (K2.out.below (b := w.heap.size) hBw (((Below.refl w.heap.size w2).setCell (by simp) _).setCell (by simp) _) HOLD.out)
        · exact but_below G2.out (b := w.heap.size) (((Below.refl w.heap.size w2).setCell (by simp) _).setCell (by simp) _) (Nat.le_refl _)
  · go_enter Tryz.func82, Tryz.ntmps82
    go_wp2_with fail
    refine (pickInt_any B a n c hn (w.heap.size + 1 + 1) 0 8 [0, 1, 2, 3, 4, 4, 5, 6] (by decide) (by decide) _ HC3.out (by omega) (by exact HROW.out)).mono ?_
    rintro e w1 ⟨r, hr, rfl, hd⟩
    obtain ⟨m, hm, em⟩ := eight_a r hr
    rw [em]
    have K1 := Lib.hid hd.1
    have O1 := Lib.hid (OwnInts.away HO0.out hd.2 (by omega))
    have T1 := Lib.hid (Two.far HT0.out hd.2 (by omega))
    have G1 := Lib.hid (HG3.out.trans hd.2)
    clear hd em HC3 HO0 HT0 HG3 HROW
    go_wp2
    go_loopw [5, 7] (fun v i wr => ∃ (k : Nat) (xs : List Int), k ≤ m ∧ i = .int .i64 (k : Int) ∧ OwnInts wr (w.heap.size + 1) v xs ∧ Cur wr B a n c ∧ w.grownBy wr (some B) ∧ Two wr w.heap.size (.int .i64 0) (.slice none 0 0) ∧ xs.length = k ∧ allOk xs = true) (fun _ i _ => m - (intOf i).toNat)
    case atStart => exact ⟨0, [], Nat.zero_le _, rfl, O1.out, K1.out, G1.out, T1.out, rfl, rfl⟩
    case round =>
      clear K1 O1 T1 G1
      obtain ⟨k, xs, hk, rfl, hO, hK, hG, hT, hxl, hok⟩ := hrel
      have HO := Lib.hid hO
      have HK := Lib.hid hK
      have HG := Lib.hid hG
      have HT := Lib.hid hT
      have HXL := Lib.hid hxl
      have HOK := Lib.hid hok
      have hxl1 : xs.length ≤ 6 := by omega
      have hs1 : w.heap.size + 1 ≤ wr.heap.size := hT.1
      clear hO hK hG hT hxl hok
      by_cases hlt : k < m
      · go_wp2_with fail
        refine (below_lit B a n c hn _ 16 (by decide) (by decide) (by decide) _ HK.out).mono ?_
        rintro e w2 ⟨r, hr, rfl, hd⟩
        have K2 := Lib.hid hd.1
        have O2 := Lib.hid (OwnInts.away HO.out hd.2 (by omega))
        have G2 := Lib.hid (HG.out.trans hd.2)
        have T2 := Lib.hid (Two.far HT.out hd.2 (by omega))
        have hs2 := hd.2.size
        clear hd HO HK HG HT
        go_wp2_with fail
        refine (once_b B a n c hn _ 2 rfl (by omega) (by omega) _ K2.out).mono ?_
        rintro e w3 ⟨b, rfl, hd⟩
        have K3 := Lib.hid hd.1
        have O3 := Lib.hid (OwnInts.away O2.out hd.2 (by omega))
        have G3 := Lib.hid (G2.out.trans hd.2)
        have T3 := Lib.hid (Two.far T2.out hd.2 (by omega))
        have hs3 := hd.2.size
        clear hd K2 O2 G2 T2
        cases b with
        | true =>
          go_wp2_with fail
          refine (below_lit B a n c hn _ 16 (by decide) (by decide) (by decide) _ K3.out).mono ?_
          rintro e w4 ⟨q, hq, rfl, hd⟩
          have ha := and_nat r q (by omega) (by omega)
          have hs := and_lt64 r q (by omega)
          have K4 := Lib.hid hd.1
          have O4 := Lib.hid (OwnInts.away O3.out hd.2 (by omega))
          unfold OwnInts at O4
          have G4 := Lib.hid (G3.out.trans hd.2)
          have T4 := Lib.hid (Two.far T3.out hd.2 (by omega))
          have hs4 := hd.2.size
          clear hd K3 O3 G3 T3
          generalize r &&& q = s at *
          go_wp2_with (at_builtin; refine wpList_append_own _ rfl _ _ 24 rfl (w.heap.size + 1) 3 i0 (.int .i64 0) 1 8 Tryz.underlying24 hi hz0 hz1 hz2 rfl (by decide) _ _ _ rfl (O4.out.alloc _) ⟨w4.heap.size, 0, none⟩ 1 1 [.int .i64 (s : Int)] rfl rfl ?c1 ?c2 ?c3 ?c4 ?c5 ?_)
          case c1 => intro j u hj; exact Mem.cell_new w4 _ _ j u hj
          case c2 => intro u hu; simp at hu; subst hu; rfl
          case c3 => unfold maxLen; omega
          case c4 => omega
          case c5 => simp; omega
          intro v' w5 hown1 hgrow _
          have hbs : Below (w.heap.size + 1) w4 w5 := ((Below.refl _ _).alloc (by omega) _).grown hgrow (by simp; omega) (fun g hg => (O4.out.lt g hg).1)
          have K5 := Lib.hid (K4.out.below (by omega) hbs (fun j hj g o e => by have := HOLD.out j hj g o e; omega))
          have G5 := Lib.hid (but_below G4.out hbs (by omega))
          have T5 := Lib.hid (Two.under T4.out hbs (by omega))
          have H1 := Lib.hid hown1
          clear hown1 hgrow hbs K4 G4 T4
          go_wp2
          go_roundw
          case rel => exact ⟨k + 1, xs ++ [(s : Int)], by omega, by go_num, OwnInts.next H1.out, K5.out, G5.out, T5.out, by rw [List.length_append, HXL.out]; rfl, allOk_snoc HOK.out hs⟩
          case measure => simp [intOf]; omega
        | false =>
          obtain ⟨w4, rfl⟩ : ∃ w4 : World, w4 = w3 := ⟨_, rfl⟩
          obtain ⟨s, rfl⟩ : ∃ s : Nat, s = r := ⟨_, rfl⟩
          have hs : s < 64 := by omega
          have K4 := K3
          have O4 := O3
          unfold OwnInts at O4
          have G4 := G3
          have T4 := T3
          have hs4 : w2.heap.size ≤ w4.heap.size := hs3
          clear K3 O3 G3 T3
          go_wp2_with (at_builtin; refine wpList_append_own _ rfl _ _ 24 rfl (w.heap.size + 1) 3 i0 (.int .i64 0) 1 8 Tryz.underlying24 hi hz0 hz1 hz2 rfl (by decide) _ _ _ rfl (O4.out.alloc _) ⟨w4.heap.size, 0, none⟩ 1 1 [.int .i64 (s : Int)] rfl rfl ?c1 ?c2 ?c3 ?c4 ?c5 ?_)
          case c1 => intro j u hj; exact Mem.cell_new w4 _ _ j u hj
          case c2 => intro u hu; simp at hu; subst hu; rfl
          case c3 => unfold maxLen; omega
          case c4 => omega
          case c5 => simp; omega
          intro v' w5 hown1 hgrow _
          have hbs : Below (w.heap.size + 1) w4 w5 := ((Below.refl _ _).alloc (by omega) _).grown hgrow (by simp; omega) (fun g hg => (O4.out.lt g hg).1)
          have K5 := Lib.hid (K4.out.below (by omega) hbs (fun j hj g o e => by have := HOLD.out j hj g o e; omega))
          have G5 := Lib.hid (but_below G4.out hbs (by omega))
          have T5 := Lib.hid (Two.under T4.out hbs (by omega))
          have H1 := Lib.hid hown1
          clear hown1 hgrow hbs K4 G4 T4
          go_wp2
          go_roundw
          case rel => exact ⟨k + 1, xs ++ [(s : Int)], by omega, by go_num, OwnInts.next H1.out, K5.out, G5.out, T5.out, by rw [List.length_append, HXL.out]; rfl, allOk_snoc HOK.out hs⟩
          case measure => simp [intOf]; omega
      · have E := Lib.hid (show k = m by omega)
        obtain ⟨a1, c1, g1, rfl, hg1, hr1⟩ := HO.out.at
        have R1 := Lib.hid hr1
        clear hr1
        go_wp2_with fail
        refine (l3Make_any 4 _ _ xs HOK.out (by omega) _ R1.out.ints).mono ?_
        rintro e w2 ⟨v, rfl, hO, hb2⟩
        have hml := maximal_length xs
        have B2 := Lib.hid hb2
        have K2 := Lib.hid (HK.out.keeps (by omega) hb2)
        have G2 := Lib.hid (HG.out.trans (Mem.but_of_below hb2 _))
        obtain ⟨t0, t1, t2, t3, t4⟩ := HT.out.keeps hb2
        obtain ⟨a2, c2, g2, rfl, hc2, hg2, hr2, _⟩ := OwnInts.ata hO hb2.size
        have O2 := Lib.hid (OwnInts.lower hO (show w.heap.size + 1 ≤ wr.heap.size from hs1))
        clear hb2 hO hr2
        go_wp2
        refine ret_cx w.heap.size rfl rfl (x := .int .i64 4) (y := .slice a2 (maximal xs).length c2) (by go_simp) (by go_simp) rfl ?_
        refine ⟨_, _, rfl, hml, (OwnInts.set (OwnInts.set O2.out _ _ _ (by omega)) _ _ _ (by omega)).lower (by omega), ?_, ?_⟩
        · exact (K2.out.below (b := w.heap.size) hBw (((Below.refl w.heap.size w2).setCell (by simp) _).setCell (by simp) _) HOLD.out)
        · exact but_below G2.out (b := w.heap.size) (((Below.refl w.heap.size w2).setCell (by simp) _).setCell (by simp) _) (Nat.le_refl _)
  · go_enter Tryz.func82, Tryz.ntmps82
    go_wp2_with fail
    refine (pickInt_any B a n c hn (w.heap.size + 1 + 1) 0 8 [0, 1, 2, 3, 4, 4, 5, 6] (by decide) (by decide) _ HC3.out (by omega) (by exact HROW.out)).mono ?_
    rintro e w1 ⟨r, hr, rfl, hd⟩
    obtain ⟨m, hm, em⟩ := eight_a r hr
    rw [em]
    have K1 := Lib.hid hd.1
    have O1 := Lib.hid (OwnInts.away HO0.out hd.2 (by omega))
    have T1 := Lib.hid (Two.far HT0.out hd.2 (by omega))
    have G1 := Lib.hid (HG3.out.trans hd.2)
    clear hd em HC3 HO0 HT0 HG3 HROW
    go_wp2
    go_loopw [5, 7] (fun v i wr => ∃ (k : Nat) (xs : List Int), k ≤ m ∧ i = .int .i64 (k : Int) ∧ OwnInts wr (w.heap.size + 1) v xs ∧ Cur wr B a n c ∧ w.grownBy wr (some B) ∧ Two wr w.heap.size (.int .i64 0) (.slice none 0 0) ∧ xs.length = k ∧ allOk xs = true) (fun _ i _ => m - (intOf i).toNat)
    case atStart => exact ⟨0, [], Nat.zero_le _, rfl, O1.out, K1.out, G1.out, T1.out, rfl, rfl⟩
    case round =>
      clear K1 O1 T1 G1
      obtain ⟨k, xs, hk, rfl, hO, hK, hG, hT, hxl, hok⟩ := hrel
      have HO := Lib.hid hO
      have HK := Lib.hid hK
      have HG := Lib.hid hG
      have HT := Lib.hid hT
      have HXL := Lib.hid hxl
      have HOK := Lib.hid hok
      have hxl1 : xs.length ≤ 6 := by omega
      have hs1 : w.heap.size + 1 ≤ wr.heap.size := hT.1
      clear hO hK hG hT hxl hok
      by_cases hlt : k < m
      · go_wp2_with fail
        refine (below_lit B a n c hn _ 32 (by decide) (by decide) (by decide) _ HK.out).mono ?_
        rintro e w2 ⟨r, hr, rfl, hd⟩
        have K2 := Lib.hid hd.1
        have O2 := Lib.hid (OwnInts.away HO.out hd.2 (by omega))
        have G2 := Lib.hid (HG.out.trans hd.2)
        have T2 := Lib.hid (Two.far HT.out hd.2 (by omega))
        have hs2 := hd.2.size
        clear hd HO HK HG HT
        go_wp2_with fail
        refine (once_b B a n c hn _ 2 rfl (by omega) (by omega) _ K2.out).mono ?_
        rintro e w3 ⟨b, rfl, hd⟩
        have K3 := Lib.hid hd.1
        have O3 := Lib.hid (OwnInts.away O2.out hd.2 (by omega))
        have G3 := Lib.hid (G2.out.trans hd.2)
        have T3 := Lib.hid (Two.far T2.out hd.2 (by omega))
        have hs3 := hd.2.size
        clear hd K2 O2 G2 T2
        cases b with
        | true =>
          go_wp2_with fail
          refine (below_lit B a n c hn _ 32 (by decide) (by decide) (by decide) _ K3.out).mono ?_
          rintro e w4 ⟨q, hq, rfl, hd⟩
          have ha := and_nat r q (by omega) (by omega)
          have hs := and_lt64 r q (by omega)
          have K4 := Lib.hid hd.1
          have O4 := Lib.hid (OwnInts.away O3.out hd.2 (by omega))
          unfold OwnInts at O4
          have G4 := Lib.hid (G3.out.trans hd.2)
          have T4 := Lib.hid (Two.far T3.out hd.2 (by omega))
          have hs4 := hd.2.size
          clear hd K3 O3 G3 T3
          generalize r &&& q = s at *
          go_wp2_with (at_builtin; refine wpList_append_own _ rfl _ _ 24 rfl (w.heap.size + 1) 3 i0 (.int .i64 0) 1 8 Tryz.underlying24 hi hz0 hz1 hz2 rfl (by decide) _ _ _ rfl (O4.out.alloc _) ⟨w4.heap.size, 0, none⟩ 1 1 [.int .i64 (s : Int)] rfl rfl ?c1 ?c2 ?c3 ?c4 ?c5 ?_)
          case c1 => intro j u hj; exact Mem.cell_new w4 _ _ j u hj
          case c2 => intro u hu; simp at hu; subst hu; rfl
          case c3 => unfold maxLen; omega
          case c4 => omega
          case c5 => simp; omega
          intro v' w5 hown1 hgrow _
          have hbs : Below (w.heap.size + 1) w4 w5 := ((Below.refl _ _).alloc (by omega) _).grown hgrow (by simp; omega) (fun g hg => (O4.out.lt g hg).1)
          have K5 := Lib.hid (K4.out.below (by omega) hbs (fun j hj g o e => by have := HOLD.out j hj g o e; omega))
          have G5 := Lib.hid (but_below G4.out hbs (by omega))
          have T5 := Lib.hid (Two.under T4.out hbs (by omega))
          have H1 := Lib.hid hown1
          clear hown1 hgrow hbs K4 G4 T4
          go_wp2
          go_roundw
          case rel => exact ⟨k + 1, xs ++ [(s : Int)], by omega, by go_num, OwnInts.next H1.out, K5.out, G5.out, T5.out, by rw [List.length_append, HXL.out]; rfl, allOk_snoc HOK.out hs⟩
          case measure => simp [intOf]; omega
        | false =>
          obtain ⟨w4, rfl⟩ : ∃ w4 : World, w4 = w3 := ⟨_, rfl⟩
          obtain ⟨s, rfl⟩ : ∃ s : Nat, s = r := ⟨_, rfl⟩
          have hs : s < 64 := by omega
          have K4 := K3
          have O4 := O3
          unfold OwnInts at O4
          have G4 := G3
          have T4 := T3
          have hs4 : w2.heap.size ≤ w4.heap.size := hs3
          clear K3 O3 G3 T3
          go_wp2_with (at_builtin; refine wpList_append_own _ rfl _ _ 24 rfl (w.heap.size + 1) 3 i0 (.int .i64 0) 1 8 Tryz.underlying24 hi hz0 hz1 hz2 rfl (by decide) _ _ _ rfl (O4.out.alloc _) ⟨w4.heap.size, 0, none⟩ 1 1 [.int .i64 (s : Int)] rfl rfl ?c1 ?c2 ?c3 ?c4 ?c5 ?_)
          case c1 => intro j u hj; exact Mem.cell_new w4 _ _ j u hj
          case c2 => intro u hu; simp at hu; subst hu; rfl
          case c3 => unfold maxLen; omega
          case c4 => omega
          case c5 => simp; omega
          intro v' w5 hown1 hgrow _
          have hbs : Below (w.heap.size + 1) w4 w5 := ((Below.refl _ _).alloc (by omega) _).grown hgrow (by simp; omega) (fun g hg => (O4.out.lt g hg).1)
          have K5 := Lib.hid (K4.out.below (by omega) hbs (fun j hj g o e => by have := HOLD.out j hj g o e; omega))
          have G5 := Lib.hid (but_below G4.out hbs (by omega))
          have T5 := Lib.hid (Two.under T4.out hbs (by omega))
          have H1 := Lib.hid hown1
          clear hown1 hgrow hbs K4 G4 T4
          go_wp2
          go_roundw
          case rel => exact ⟨k + 1, xs ++ [(s : Int)], by omega, by go_num, OwnInts.next H1.out, K5.out, G5.out, T5.out, by rw [List.length_append, HXL.out]; rfl, allOk_snoc HOK.out hs⟩
          case measure => simp [intOf]; omega
      · have E := Lib.hid (show k = m by omega)
        obtain ⟨a1, c1, g1, rfl, hg1, hr1⟩ := HO.out.at
        have R1 := Lib.hid hr1
        clear hr1
        go_wp2_with fail
        refine (l3Make_any 5 _ _ xs HOK.out (by omega) _ R1.out.ints).mono ?_
        rintro e w2 ⟨v, rfl, hO, hb2⟩
        have hml := maximal_length xs
        have B2 := Lib.hid hb2
        have K2 := Lib.hid (HK.out.keeps (by omega) hb2)
        have G2 := Lib.hid (HG.out.trans (Mem.but_of_below hb2 _))
        obtain ⟨t0, t1, t2, t3, t4⟩ := HT.out.keeps hb2
        obtain ⟨a2, c2, g2, rfl, hc2, hg2, hr2, _⟩ := OwnInts.ata hO hb2.size
        have O2 := Lib.hid (OwnInts.lower hO (show w.heap.size + 1 ≤ wr.heap.size from hs1))
        clear hb2 hO hr2
        go_wp2
        refine ret_cx w.heap.size rfl rfl (x := .int .i64 5) (y := .slice a2 (maximal xs).length c2) (by go_simp) (by go_simp) rfl ?_
        refine ⟨_, _, rfl, hml, (OwnInts.set (OwnInts.set O2.out _ _ _ (by omega)) _ _ _ (by omega)).lower (by omega), ?_, ?_⟩
        · exact (K2.out.below (b := w.heap.size) hBw (((Below.refl w.heap.size w2).setCell (by simp) _).setCell (by simp) _) HOLD.out)
        · exact but_below G2.out (b := w.heap.size) (((Below.refl w.heap.size w2).setCell (by simp) _).setCell (by simp) _) (Nat.le_refl _)
  · go_enter Tryz.func82, Tryz.ntmps82
    go_wp2_with fail
    refine (pickInt_any B a n c hn (w.heap.size + 1 + 1) 0 8 [0, 1, 2, 3, 4, 4, 5, 6] (by decide) (by decide) _ HC3.out (by omega) (by exact HROW.out)).mono ?_
    rintro e w1 ⟨r, hr, rfl, hd⟩
    obtain ⟨m, hm, em⟩ := eight_a r hr
    rw [em]
    have K1 := Lib.hid hd.1
    have O1 := Lib.hid (OwnInts.away HO0.out hd.2 (by omega))
    have T1 := Lib.hid (Two.far HT0.out hd.2 (by omega))
    have G1 := Lib.hid (HG3.out.trans hd.2)
    clear hd em HC3 HO0 HT0 HG3 HROW
    go_wp2
    go_loopw [5, 7] (fun v i wr => ∃ (k : Nat) (xs : List Int), k ≤ m ∧ i = .int .i64 (k : Int) ∧ OwnInts wr (w.heap.size + 1) v xs ∧ Cur wr B a n c ∧ w.grownBy wr (some B) ∧ Two wr w.heap.size (.int .i64 0) (.slice none 0 0) ∧ xs.length = k ∧ allOk xs = true) (fun _ i _ => m - (intOf i).toNat)
    case atStart => exact ⟨0, [], Nat.zero_le _, rfl, O1.out, K1.out, G1.out, T1.out, rfl, rfl⟩
    case round =>
      clear K1 O1 T1 G1
      obtain ⟨k, xs, hk, rfl, hO, hK, hG, hT, hxl, hok⟩ := hrel
      have HO := Lib.hid hO
      have HK := Lib.hid hK
      have HG := Lib.hid hG
      have HT := Lib.hid hT
      have HXL := Lib.hid hxl
      have HOK := Lib.hid hok
      have hxl1 : xs.length ≤ 6 := by omega
      have hs1 : w.heap.size + 1 ≤ wr.heap.size := hT.1
      clear hO hK hG hT hxl hok
      by_cases hlt : k < m
      · go_wp2_with fail
        refine (below_lit B a n c hn _ 64 (by decide) (by decide) (by decide) _ HK.out).mono ?_
        rintro e w2 ⟨r, hr, rfl, hd⟩
        have K2 := Lib.hid hd.1
        have O2 := Lib.hid (OwnInts.away HO.out hd.2 (by omega))
        have G2 := Lib.hid (HG.out.trans hd.2)
        have T2 := Lib.hid (Two.far HT.out hd.2 (by omega))
        have hs2 := hd.2.size
        clear hd HO HK HG HT
        go_wp2_with fail
        refine (once_b B a n c hn _ 2 rfl (by omega) (by omega) _ K2.out).mono ?_
        rintro e w3 ⟨b, rfl, hd⟩
        have K3 := Lib.hid hd.1
        have O3 := Lib.hid (OwnInts.away O2.out hd.2 (by omega))
        have G3 := Lib.hid (G2.out.trans hd.2)
        have T3 := Lib.hid (Two.far T2.out hd.2 (by omega))
        have hs3 := hd.2.size
        clear hd K2 O2 G2 T2
        cases b with
        | true =>
          go_wp2_with fail
          refine (below_lit B a n c hn _ 64 (by decide) (by decide) (by decide) _ K3.out).mono ?_
          rintro e w4 ⟨q, hq, rfl, hd⟩
          have ha := and_nat r q (by omega) (by omega)
          have hs := and_lt64 r q (by omega)
          have K4 := Lib.hid hd.1
          have O4 := Lib.hid (OwnInts.away O3.out hd.2 (by omega))
          unfold OwnInts at O4
          have G4 := Lib.hid (G3.out.trans hd.2)
          have T4 := Lib.hid (Two.far T3.out hd.2 (by omega))
          have hs4 := hd.2.size
          clear hd K3 O3 G3 T3
          generalize r &&& q = s at *
          go_wp2_with (at_builtin; refine wpList_append_own _ rfl _ _ 24 rfl (w.heap.size + 1) 3 i0 (.int .i64 0) 1 8 Tryz.underlying24 hi hz0 hz1 hz2 rfl (by decide) _ _ _ rfl (O4.out.alloc _) ⟨w4.heap.size, 0, none⟩ 1 1 [.int .i64 (s : Int)] rfl rfl ?c1 ?c2 ?c3 ?c4 ?c5 ?_)
          case c1 => intro j u hj; exact Mem.cell_new w4 _ _ j u hj
          case c2 => intro u hu; simp at hu; subst hu; rfl
          case c3 => unfold maxLen; omega
          case c4 => omega
          case c5 => simp; omega
          intro v' w5 hown1 hgrow _
          have hbs : Below (w.heap.size + 1) w4 w5 := ((Below.refl _ _).alloc (by omega) _).grown hgrow (by simp; omega) (fun g hg => (O4.out.lt g hg).1)
          have K5 := Lib.hid (K4.out.below (by omega) hbs (fun j hj g o e => by have := HOLD.out j hj g o e; omega))
          have G5 := Lib.hid (but_below G4.out hbs (by omega))
          have T5 := Lib.hid (Two.under T4.out hbs (by omega))
          have H1 := Lib.hid hown1
          clear hown1 hgrow hbs K4 G4 T4
          go_wp2
          go_roundw
          case rel => exact ⟨k + 1, xs ++ [(s : Int)], by omega, by go_num, OwnInts.next H1.out, K5.out, G5.out, T5.out, by rw [List.length_append, HXL.out]; rfl, allOk_snoc HOK.out hs⟩
          case measure => simp [intOf]; omega
        | false =>
          obtain ⟨w4, rfl⟩ : ∃ w4 : World, w4 = w3 := ⟨_, rfl⟩
          obtain ⟨s, rfl⟩ : ∃ s : Nat, s = r := ⟨_, rfl⟩
          have hs : s < 64 := by omega
          have K4 := K3
          have O4 := O3
          unfold OwnInts at O4
          have G4 := G3
          have T4 := T3
          have hs4 : w2.heap.size ≤ w4.heap.size := hs3
          clear K3 O3 G3 T3
          go_wp2_with (at_builtin; refine wpList_append_own _ rfl _ _ 24 rfl (w.heap.size + 1) 3 i0 (.int .i64 0) 1 8 Tryz.underlying24 hi hz0 hz1 hz2 rfl (by decide) _ _ _ rfl (O4.out.alloc _) ⟨w4.heap.size, 0, none⟩ 1 1 [.int .i64 (s : Int)] rfl rfl ?c1 ?c2 ?c3 ?c4 ?c5 ?_)
          case c1 => intro j u hj; exact Mem.cell_new w4 _ _ j u hj
          case c2 => intro u hu; simp at hu; subst hu; rfl
          case c3 => unfold maxLen; omega
          case c4 => omega
          case c5 => simp; omega
          intro v' w5 hown1 hgrow _
          have hbs : Below (w.heap.size + 1) w4 w5 := ((Below.refl _ _).alloc (by omega) _).grown hgrow (by simp; omega) (fun g hg => (O4.out.lt g hg).1)
          have K5 := Lib.hid (K4.out.below (by omega) hbs (fun j hj g o e => by have := HOLD.out j hj g o e; omega))
          have G5 := Lib.hid (but_below G4.out hbs (by omega))
          have T5 := Lib.hid (Two.under T4.out hbs (by omega))
          have H1 := Lib.hid hown1
          clear hown1 hgrow hbs K4 G4 T4
          go_wp2
          go_roundw
          case rel => exact ⟨k + 1, xs ++ [(s : Int)], by omega, by go_num, OwnInts.next H1.out, K5.out, G5.out, T5.out, by rw [List.length_append, HXL.out]; rfl, allOk_snoc HOK.out hs⟩
          case measure => simp [intOf]; omega
      · have E := Lib.hid (show k = m by omega)
        obtain ⟨a1, c1, g1, rfl, hg1, hr1⟩ := HO.out.at
        have R1 := Lib.hid hr1
        clear hr1
        go_wp2_with fail
        refine (l3Make_any 6 _ _ xs HOK.out (by omega) _ R1.out.ints).mono ?_
        rintro e w2 ⟨v, rfl, hO, hb2⟩
        have hml := maximal_length xs
        have B2 := Lib.hid hb2
        have K2 := Lib.hid (HK.out.keeps (by omega) hb2)
        have G2 := Lib.hid (HG.out.trans (Mem.but_of_below hb2 _))
        obtain ⟨t0, t1, t2, t3, t4⟩ := HT.out.keeps hb2
        obtain ⟨a2, c2, g2, rfl, hc2, hg2, hr2, _⟩ := OwnInts.ata hO hb2.size
        have O2 := Lib.hid (OwnInts.lower hO (show w.heap.size + 1 ≤ wr.heap.size from hs1))
        clear hb2 hO hr2
        go_wp2
        refine ret_cx w.heap.size rfl rfl (x := .int .i64 6) (y := .slice a2 (maximal xs).length c2) (by go_simp) (by go_simp) rfl ?_
        refine ⟨_, _, rfl, hml, (OwnInts.set (OwnInts.set O2.out _ _ _ (by omega)) _ _ _ (by omega)).lower (by omega), ?_, ?_⟩
        · exact (K2.out.below (b := w.heap.size) hBw (((Below.refl w.heap.size w2).setCell (by simp) _).setCell (by simp) _) HOLD.out)
        · exact but_below G2.out (b := w.heap.size) (((Below.refl w.heap.size w2).setCell (by simp) _).setCell (by simp) _) (Nat.le_refl _)

end Go.Proofs.YtenpcjmhlnalcaaGreat
