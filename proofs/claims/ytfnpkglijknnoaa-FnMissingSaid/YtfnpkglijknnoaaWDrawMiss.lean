/-
  WALKS: the draws of chapter 7.
-/
import Derived.Test.YtfnpkglijknnoaaJg19
import Derived.Test.YtfnpkglijknnoaaJg31
import Derived.Test.YtfnpkglijknnoaaWPartB
namespace Go.Proofs.Ytfnpkglijknnoaa
open Go.RowKit
open Sets

theorem flagO_le (n : Int) (xs : List Int) : (oL (flagO n xs)).length ≤ 64 := partL_le _ _ _

set_option maxRecDepth 100000 in
set_option maxHeartbeats 4000000 in
theorem drawMissing_any (a : Option Addr) (n c : Nat) (hn : n ≤ 140737488355328) (w : World) (hc : Code w a n) :
    Calls Try.prog 11 #[.slice a n c] w fun e w' => Drawn1 w e w' := by
  have hb0 : Below w.heap.size w (w.alloc (.cells #[.int .i64 0, .slice none 0 0] 26)) := (Below.refl _ _).alloc (Nat.le_refl _) _
  have HC0 := Lib.hid (hc.keeps hb0)
  have HB0 := Lib.hid hb0
  have HT0 := Lib.hid (Two.new w (.int .i64 0) (.slice none 0 0) 26)
  clear hc hb0
  go_enter Try.func11, Try.ntmps11
  go_wp2_with fail
  refine (new_any a n c hn _ HC0.out).mono ?_
  rintro e w1 ⟨rfl, hcur, hz1, hb1⟩
  simp only [World.size_alloc] at hcur hz1
  have K1 := Lib.hid hcur
  have B1 : Hid (Below w.heap.size w w1) := HB0.out.trans (hb1.mono (by simp))
  have T1 := Lib.hid (Two.keeps HT0.out hb1)
  clear hcur hb1 HC0 HB0 HT0
  go_wp2_with fail
  refine (l3Bent_any a n c hn (w.heap.size + 1) w1 hz1 K1.out).mono ?_
  rintro e w2 ⟨N, v, xs, rfl, hl, hO, hK, hG⟩
  obtain ⟨a5, c5, g5, rfl, hc5, hg5, hr5, _⟩ := OwnInts.ata hO hG.size
  have O2 := Lib.hid (OwnInts.lower hO (show w.heap.size + 1 ≤ w1.heap.size by omega))
  have B2 : Hid (Below w.heap.size w w2) := B1.out.trans (Mem.below_of_but hG (by omega) (by omega))
  obtain ⟨t0, t1, t2, t3, t4⟩ := Two.far T1.out hG (by omega)
  clear hO hK hG hr5 K1 T1 B1
  go_wp2
  refine ret_cx w.heap.size rfl rfl (x := .int .i64 N) (y := .slice a5 xs.length c5) (by go_simp) (by go_simp) rfl ?_
  exact ⟨N, _, xs, rfl, hl, (OwnInts.set (OwnInts.set O2.out _ _ _ (by omega)) _ _ _ (by omega)).lower (by omega), (B2.out.setCell (by simp) _).setCell (by simp) _⟩

set_option maxRecDepth 100000 in
set_option maxHeartbeats 4000000 in
theorem drawFlag_any (a : Option Addr) (n c : Nat) (hn : n ≤ 140737488355328) (w : World) (hc : Code w a n) :
    Calls Try.prog 16 #[.slice a n c] w fun e w' => Drawn1 w e w' := by
  have hb0 : Below w.heap.size w (w.alloc (.cells #[.int .i64 0, .slice none 0 0] 26)) := (Below.refl _ _).alloc (Nat.le_refl _) _
  have HC0 := Lib.hid (hc.keeps hb0)
  have HB0 := Lib.hid hb0
  have HT0 := Lib.hid (Two.new w (.int .i64 0) (.slice none 0 0) 26)
  clear hc hb0
  go_enter Try.func16, Try.ntmps16
  go_wp2_with fail
  refine (new_any a n c hn _ HC0.out).mono ?_
  rintro e w1 ⟨rfl, hcur, hz1, hb1⟩
  simp only [World.size_alloc] at hcur hz1
  have K1 := Lib.hid hcur
  have B1 : Hid (Below w.heap.size w w1) := HB0.out.trans (hb1.mono (by simp))
  have T1 := Lib.hid (Two.keeps HT0.out hb1)
  clear hcur hb1 HC0 HB0 HT0
  go_wp2_with fail
  refine (l3Bent_any a n c hn (w.heap.size + 1) w1 hz1 K1.out).mono ?_
  rintro e w2 ⟨N, v, xs, rfl, hl, hO, hK, hG⟩
  obtain ⟨a5, c5, g5, rfl, hc5, hg5, hr5, _⟩ := OwnInts.ata hO hG.size
  have hs2 := hG.size
  have hba : Below w2.heap.size w2 (w2.alloc (.cells #[.int .i64 N, .slice a5 xs.length c5] 26)) := (Below.refl _ _).alloc (Nat.le_refl _) _
  have O3 := Lib.hid (OwnInts.keeps (OwnInts.lower hO (show w.heap.size + 2 ≤ w1.heap.size by omega)) hba)
  have I3 := Lib.hid (hr5.keeps hba).ints
  have K3 := Lib.hid (hK.keeps (by omega) hba)
  have T3 := Lib.hid (Two.keeps (Two.far T1.out hG (by omega)) hba)
  have X3 := Lib.hid (Two.new w2 (.int .i64 N) (.slice a5 xs.length c5) 26)
  have B3 : Hid (Below w.heap.size w (w2.alloc (.cells #[.int .i64 N, .slice a5 xs.length c5] 26))) := (B1.out.trans (Mem.below_of_but hG (by omega) (by omega))).trans (hba.mono (by omega))
  have hs3 := hba.size
  clear hO hK hG hr5 K1 T1 B1 hba
  obtain ⟨bx, hbx⟩ : ∃ bx, w2.heap.size = bx := ⟨_, rfl⟩
  have hbxl : w.heap.size + 1 < bx := by omega
  rw [hbx] at X3
  go_wp2_with fail
  try rw [hbx]
  generalize w2.alloc (.cells #[.int .i64 N, .slice a5 xs.length c5] 26) = w3 at *
  have HJC := Lib.hid (fun W (hh : Ints W a5 xs) => specFlagOf_any N a5 c5 xs (Nat.le_trans hl (by decide)) W hh)
  have hJl := flagO_le N xs
  obtain ⟨J, hJ⟩ : ∃ J, flagO N xs = J := ⟨_, rfl⟩
  rw [hJ] at HJC hJl
  clear hJ hbx
  obtain ⟨x0, x1, x2, x3, x4⟩ := X3.out
  refine (HJC.out _ I3.out).mono ?_
  rintro e w4 ⟨v4, rfl, hO4, hb4⟩
  obtain ⟨a6, c6, g6, rfl, hc6, hg6, hr6, _⟩ := OwnInts.ata hO4 hb4.size
  have hbc : Below w4.heap.size w4 (w4.alloc (.cells #[.int .i64 (oN J), .slice a6 (oL J).length c6] 26)) := (Below.refl _ _).alloc (Nat.le_refl _) _
  have O5 := Lib.hid (OwnInts.keeps (OwnInts.keeps O3.out hb4) hbc)
  have P5 := Lib.hid (OwnInts.keeps (OwnInts.lower hO4 (show w.heap.size + 2 ≤ w3.heap.size by omega)) hbc)
  have K5 := Lib.hid ((K3.out.keeps (by omega) hb4).keeps (by have := hb4.size; omega) hbc)
  have T5 := Lib.hid (Two.keeps (Two.keeps T3.out hb4) hbc)
  have X5 := Lib.hid (Two.keeps (Two.keeps X3.out hb4) hbc)
  have Y5 := Lib.hid (Two.new w4 (.int .i64 (oN J)) (.slice a6 (oL J).length c6) 26)
  have B5 : Hid (Below w.heap.size w (w4.alloc (.cells #[.int .i64 (oN J), .slice a6 (oL J).length c6] 26))) := (B3.out.trans (hb4.mono (by omega))).trans (hbc.mono (by have := hb4.size; omega))
  have hs4 := hb4.size
  have hs5 := hbc.size
  clear hO4 hb4 hbc hr6 O3 I3 K3 T3 X3 B3 x0 x1 x2 x3 x4 HJC
  obtain ⟨by_, hby⟩ : ∃ by_, w4.heap.size = by_ := ⟨_, rfl⟩
  rw [hby] at Y5
  have hbyl : w.heap.size + 1 < by_ := by omega
  have hq1 : w.heap.size ≠ by_ := by omega
  have hq2 : w.heap.size ≠ bx := by omega
  cases hJs : J.isSome with
  | false =>
    obtain ⟨x0, x1, x2, x3, x4⟩ := X5.out
    obtain ⟨t0, t1, t2, t3, t4⟩ := T5.out
    go_wp2
    refine ret_cx w.heap.size rfl rfl (x := .int .i64 N) (y := .slice a5 xs.length c5) (by go_simp) (by go_simp) rfl ?_
    exact ⟨N, _, xs, rfl, hl, (OwnInts.set (OwnInts.set O5.out _ _ _ (by omega)) _ _ _ (by omega)).lower (by omega), (B5.out.setCell (by simp) _).setCell (by simp) _⟩
  | true =>
    go_wp2_with fail
    try rw [hby]
    generalize w4.alloc (.cells #[.int .i64 (oN J), .slice a6 (oL J).length c6] 26) = w5 at *
    refine (once_b (w.heap.size + 1) a n c hn _ 2 rfl (by omega) (by omega) _ K5.out).mono ?_
    rintro e w6 ⟨b, rfl, hd⟩
    have O6 := Lib.hid (OwnInts.away O5.out hd.2 (by omega))
    have P6 := Lib.hid (OwnInts.away P5.out hd.2 (by omega))
    have T6 := Lib.hid (Two.far T5.out hd.2 (by omega))
    have X6 := Lib.hid (Two.far X5.out hd.2 (by omega))
    have Y6 := Lib.hid (Two.far Y5.out hd.2 (by omega))
    have B6 : Hid (Below w.heap.size w w6) := B5.out.trans (Mem.below_of_but hd.2 (by omega) (by omega))
    clear hd O5 P5 T5 X5 Y5 B5
    obtain ⟨x0, x1, x2, x3, x4⟩ := X6.out
    obtain ⟨y0, y1, y2, y3, y4⟩ := Y6.out
    obtain ⟨t0, t1, t2, t3, t4⟩ := T6.out
    cases b with
    | false =>
      go_wp2
      refine ret_cx w.heap.size rfl rfl (x := .int .i64 N) (y := .slice a5 xs.length c5) (by go_simp) (by go_simp) rfl ?_
      exact ⟨N, _, xs, rfl, hl, (OwnInts.set (OwnInts.set O6.out _ _ _ (by omega)) _ _ _ (by omega)).lower (by omega), (B6.out.setCell (by simp) _).setCell (by simp) _⟩
    | true =>
      go_wp2
      refine ret_cx w.heap.size rfl rfl (x := .int .i64 (oN J)) (y := .slice a6 (oL J).length c6) (by go_simp) (by go_simp) rfl ?_
      exact ⟨oN J, _, oL J, rfl, Nat.le_trans hJl (by decide), (OwnInts.set (OwnInts.set P6.out _ _ _ (by omega)) _ _ _ (by omega)).lower (by omega), (B6.out.setCell (by simp) _).setCell (by simp) _⟩

set_option maxRecDepth 100000 in
set_option maxHeartbeats 4000000 in
theorem l2Sets_cur (a : Option Addr) (n c : Nat) (hn : n ≤ 140737488355328) (w0 : World) (hc0 : Code w0 a n) (B : Nat) (w : World) (hB0 : w0.heap.size ≤ B) (hBw : B < w.heap.size) (hb0 : Below w0.heap.size w0 w) (hc : Cur w B a n c) :
    Calls Try.prog 48 #[.pointer (some ⟨B, 0, none⟩)] w fun e w' => ∃ v xs, e = .returned v ∧ xs.length ≤ 6 ∧ OwnInts w' w.heap.size v xs ∧ Cur w' B a n c ∧ Below w0.heap.size w0 w' := by
  obtain ⟨i0, hi, hz0, hz1, hz2⟩ := info_parts info_int
  have HC0 := Lib.hid hc0
  have HC := Lib.hid hc
  have HOLD := Lib.hid hc.old
  clear hc0 hc
  have hs0 := hb0.size
  go_enter Try.func48, Try.ntmps48
  go_wp2_with fail
  refine (below_lit B a n c hn _ 7 rfl (by omega) (by omega) _ (by exact HC.out.alloc hBw _)).mono ?_
  rintro e w1 ⟨m, hm, rfl, hd⟩
  have K1 := Lib.hid hd.1
  have O1 := Lib.hid (OwnInts.but (OwnInts.lit w _ [] (Nat.le_refl _) (by simp)) hd.2 hBw)
  have hb1 : Below w0.heap.size w0 w1 := (hb0.alloc (by omega) _).trans (Mem.below_of_but hd.2 hB0 (by simp; omega))
  have hs1 : w.heap.size ≤ w1.heap.size := by have := hd.2.size; simp at this; omega
  clear hd hb0
  go_wp2
  go_loopw [3, 5] (fun v i wr => ∃ (k : Nat) (xs : List Int), k ≤ m ∧ i = .int .i64 (k : Int) ∧ OwnInts wr w.heap.size v xs ∧ Cur wr B a n c ∧ Below w0.heap.size w0 wr ∧ w.heap.size ≤ wr.heap.size ∧ xs.length = k) (fun _ i _ => m - (intOf i).toNat)
  case atStart => exact ⟨0, [], Nat.zero_le _, rfl, O1.out, K1.out, hb1, hs1, rfl⟩
  case round =>
    clear K1 O1 hb1 hs1
    obtain ⟨k, xs, hk, rfl, hO, hK, hb1, hs1, hxl⟩ := hrel
    have HO := Lib.hid hO
    have HK := Lib.hid hK
    have HXL := Lib.hid hxl
    have hxl1 : xs.length ≤ k := by omega
    clear hO hK hxl
    by_cases hlt : k < m
    · go_wp2_with fail
      refine (below_lit B a n c hn _ 64 rfl (by omega) (by omega) _ HK.out).mono ?_
      rintro e w2 ⟨r, hr, rfl, hd⟩
      have K2 := Lib.hid hd.1
      have O2 : Hid (w2.ownsRow w.heap.size 3 1 u3 xs.length (xs.map (Value.int .i64))) := Lib.hid (OwnInts.but HO.out hd.2 hBw)
      have hb2 : Below w0.heap.size w0 w2 := hb1.trans (Mem.below_of_but hd.2 hB0 (by omega))
      have hs2 : w.heap.size ≤ w2.heap.size := by have := hd.2.size; omega
      clear hd HO HK hb1
      go_wp2_with (at_builtin; refine wpList_append_own _ rfl _ _ 24 rfl w.heap.size 3 i0 (.int .i64 0) 1 8 Try.underlying24 hi hz0 hz1 hz2 rfl (by decide) _ _ _ rfl (O2.out.alloc _) ⟨w2.heap.size, 0, none⟩ 1 1 [.int .i64 (r : Int)] rfl rfl ?c1 ?c2 ?c3 ?c4 ?c5 ?_)
      case c1 => intro j u hj; exact Mem.cell_new w2 _ _ j u hj
      case c2 => intro u hu; simp at hu; subst hu; rfl
      case c3 => unfold maxLen; omega
      case c4 => omega
      case c5 => simp; omega
      intro v' w3 hown1 hgrow _
      have hbs : Below (B + 1) w2 w3 := ((Below.refl _ _).alloc (by omega) _).grown hgrow (by simp; omega) (fun g hg => by have := (O2.out.lt g hg).1; omega)
      have hb3 : Below w0.heap.size w0 w3 := hb2.trans (hbs.mono (by omega))
      have K3 := Lib.hid (Cur.redo HC0.out K2.out hB0 hb3 (hbs.block B (by omega)))
      have hs3 : w.heap.size ≤ w3.heap.size := by have := hbs.size; omega
      have H1 := Lib.hid hown1
      clear hown1 hgrow hbs
      go_wp2
      go_roundw
      case rel => exact ⟨k + 1, xs ++ [(r : Int)], by omega, by go_num, OwnInts.next H1.out, K3.out, hb3, hs3, by rw [List.length_append, HXL.out]; rfl⟩
      case measure => simp [intOf]; omega
    · have E := Lib.hid (show k = m by omega)
      by_cases hm0 : 0 < m
      · go_wp2_with fail
        refine (once_any B a n c hn _ 12 rfl (by omega) (by omega) _ HK.out).mono ?_
        rintro e w2 ⟨b, rfl, hd⟩
        have K2 := Lib.hid hd.1
        have O2 : Hid (OwnInts w2 w.heap.size u3 xs) := Lib.hid (OwnInts.but HO.out hd.2 hBw)
        have hb2 : Below w0.heap.size w0 w2 := hb1.trans (Mem.below_of_but hd.2 hB0 (by omega))
        have hs2 : w.heap.size ≤ w2.heap.size := by have := hd.2.size; omega
        clear hd HO HK hb1
        cases b with
        | true =>
          have hx0 : 0 < xs.length := by have := HXL.out; have := E.out; omega
          obtain ⟨a1, c1, g1, hv, hg1, hr1⟩ := O2.out.at
          subst hv
          obtain ⟨ea, _, _, _⟩ := hr1 0 hx0
          subst ea
          have hlg := (World.ownsRow.lt O2.out g1 rfl)
          clear hr1
          go_wp2_with fail
          refine (pickInt_any B a n c hn w2.heap.size 0 3 [-1, 64, 63] (by decide) (by decide) _ (by exact K2.out.alloc (by omega) _) (by omega) (by exact row_ints w2 [-1, 64, 63] _)).mono ?_
          rintro e w3 ⟨r, hr, rfl, hd⟩
          have O3 := Lib.hid (OwnInts.but (OwnInts.alloc O2.out _) hd.2 hBw)
          have hb3 : Below w0.heap.size w0 w3 := (hb2.alloc (by omega) _).trans (Mem.below_of_but hd.2 hB0 (by simp; omega))
          generalize ([-1, 64, 63] : List Int).getD r 0 = z at *
          have O4 := Lib.hid (OwnInts.set0 O3.out z)
          have hx : ∃ x, w3.cell? ⟨g1, 0, none⟩ = some x := ⟨_, by rw [World.ownsRow.cellAt O3.out 0 (by omega), ints_cell xs 0 hx0]⟩
          obtain ⟨x, hx⟩ := hx
          have hf : w3.frozen? ⟨g1, 0, none⟩ = false := World.ownsRow.frozenAt O3.out 0
          have hx1 : 0 < xs.length := hx0
          have K4 := Lib.hid (Cur.below hd.1 (b := w.heap.size) hBw (show Below w.heap.size w3 (w3.setCell ⟨g1, 0, none⟩ (.int .i64 z)) from (Below.refl _ _).setCell (show w.heap.size ≤ g1 by omega) _) HOLD.out)
          clear hd
          go_wp2
          go_ret
          exact ⟨_, xs.set 0 z, rfl, by rw [List.length_set]; omega, by exact O4.out, K4.out, hb3.setCell (show w0.heap.size ≤ g1 by omega) _⟩
        | false =>
          go_wp2
          go_ret
          exact ⟨_, xs, rfl, by omega, O2.out, K2.out, hb2⟩
      · go_wp2
        go_ret
        exact ⟨_, xs, rfl, by omega, HO.out, HK.out, hb1⟩

theorem OwnInts.setk {w : World} {base g c : Nat} {xs : List Int} (h : OwnInts w base (.slice (some ⟨g, 0, none⟩) xs.length c) xs) (k : Nat) (z : Int) : OwnInts (w.setCell ⟨g, k, none⟩ (.int .i64 z)) base (.slice (some ⟨g, 0, none⟩) xs.length c) (xs.set k z) := by
  have h1 := (World.ownsRow.stored h k (.int .i64 z)).1
  unfold OwnInts
  rw [List.length_set, List.map_set]
  exact h1

set_option maxRecDepth 100000 in
set_option maxHeartbeats 4000000 in
theorem drawFrom_any (a : Option Addr) (n c : Nat) (hn : n ≤ 140737488355328) (w : World) (hc : Code w a n) :
    Calls Try.prog 13 #[.slice a n c] w fun e w' => ∃ (N : Int) (v : Value) (xs : List Int), e = .returned (.tuple #[.int .i64 N, v]) ∧ xs.length ≤ 6 ∧ OwnInts w' w.heap.size v xs ∧ Below w.heap.size w w' := by
  have HC := Lib.hid hc
  clear hc
  go_enter Try.func13, Try.ntmps13
  go_wp2_with fail
  refine (new_any a n c hn _ HC.out).mono ?_
  rintro e w1 ⟨rfl, hcur, hz1, hb1⟩
  have K1 := Lib.hid hcur
  have B1 := Lib.hid hb1
  have HOLD := Lib.hid hcur.old
  clear hcur hb1
  go_wp2_with fail
  refine (pickInt_any w.heap.size a n c hn w1.heap.size 0 10 [1, 2, 3, 4, 5, 6, 6, 6, 0, 7] (by decide) (by decide) _ (by exact K1.out.alloc hz1 _) (by omega) (by exact row_ints w1 [1, 2, 3, 4, 5, 6, 6, 6, 0, 7] _)).mono ?_
  rintro e w2 ⟨r, hr, rfl, hd⟩
  have K2 := Lib.hid hd.1
  have B2 : Hid (Below w.heap.size w w2) := (B1.out.alloc (by omega) _).trans (Mem.below_of_but hd.2 (by omega) (by simp; omega))
  have hs2 : w1.heap.size + 1 ≤ w2.heap.size := by have := hd.2.size; simp at this; omega
  obtain ⟨N, hN⟩ : ∃ N : Int, ([1, 2, 3, 4, 5, 6, 6, 6, 0, 7] : List Int).getD r 0 = N := ⟨_, rfl⟩
  rw [hN]
  clear hd K1 B1 hr hN
  go_wp2_with fail
  refine (l2Sets_cur a n c hn w HC.out w.heap.size w2 (Nat.le_refl _) (by omega) B2.out K2.out).mono ?_
  rintro e w3 ⟨v, xs, rfl, hl, hO, hK, hb3⟩
  have HK := Lib.hid hK
  have HB := Lib.hid hb3
  obtain ⟨a3, c3, g3, rfl, hg3, hI⟩ := OwnInts.at hO
  have hwg : w.heap.size < g3 := by omega
  have HO := Lib.hid hO
  have HI := Lib.hid hI
  clear hO hK hb3 K2 B2 hI
  go_wp2
  go_loopw [7] (fun i wr => ∃ (k : Nat) (ys : List Int), k ≤ xs.length ∧ i = .int .i64 (k : Int) ∧ ys.length = xs.length ∧ OwnInts wr w2.heap.size (.slice a3 xs.length c3) ys ∧ Cur wr w.heap.size a n c ∧ Below w.heap.size w wr) (fun i _ => xs.length - (intOf i).toNat)
  case atStart => exact ⟨0, xs, Nat.zero_le _, rfl, rfl, HO.out, HK.out, HB.out⟩
  case round =>
    clear HO HK HB
    obtain ⟨k, ys, hk, rfl, hyl, hO, hK, hB⟩ := hrel
    have HYL := Lib.hid hyl
    have hsz := hB.size
    have HK := Lib.hid hK
    have HO := Lib.hid hO
    have HB := Lib.hid hB
    clear hO hK hB hyl
    by_cases hlt : k < xs.length
    · obtain ⟨ha3, _⟩ := HI.out k hlt
      subst ha3
      go_wp2_with fail
      refine (once_b w.heap.size a n c hn _ 5 rfl (by omega) (by omega) _ HK.out).mono ?_
      rintro e w4 ⟨b, rfl, hd⟩
      have HO4 := Lib.hid (OwnInts.away HO.out hd.2 (by omega))
      have HK4 := Lib.hid hd.1
      have HB4 : Hid (Below w.heap.size w w4) := HB.out.trans (Mem.below_of_but hd.2 (Nat.le_refl _) (by omega))
      clear hd HO HK HB
      cases b with
      | true =>
        go_wp2
        go_ret2
        exact ⟨N, _, ys, rfl, by rw [HYL.out]; exact hl, HO4.out.lower (by omega), HB4.out⟩
      | false =>
        have hO4 := HO4.out
        unfold OwnInts at hO4
        rw [HYL.out] at hO4
        have hcl := World.ownsRow.cellAt hO4 k (by omega)
        rw [ints_cell ys k (by rw [HYL.out]; exact hlt)] at hcl
        have hfr := World.ownsRow.frozenAt hO4 k
        clear hO4
        obtain ⟨x, hx⟩ : ∃ x, ys.getD k 0 = x := ⟨_, rfl⟩
        rw [hx] at hcl
        clear hx
        have fin : ∀ w5 : World, w5 = w4 → ∃ (k' : Nat) (zs : List Int), k' ≤ xs.length ∧ Value.int .i64 ((k : Int) + 1) = .int .i64 (k' : Int) ∧ zs.length = xs.length ∧ OwnInts w5 w2.heap.size (.slice (some ⟨g3, 0, none⟩) xs.length c3) zs ∧ Cur w5 w.heap.size a n c ∧ Below w.heap.size w w5 := fun w5 h => by
          subst h; exact ⟨k + 1, ys, by omega, by go_num, HYL.out, HO4.out, HK4.out, HB4.out⟩
        have FIN := Lib.hid fin
        clear fin
        by_cases h1 : 1 ≤ N
        · by_cases h6 : N ≤ 6
          · by_cases hx0 : 0 < x
            · go_wp2
              generalize bits BinOp.and IntKind.i64 x (wrap64 (wrap64 (2 ^ N.toNat) - 1)) = z
              have hO5 : OwnInts (w4.setCell ⟨g3, k, none⟩ (.int .i64 z)) w2.heap.size (.slice (some ⟨g3, 0, none⟩) xs.length c3) (ys.set k z) := by
                have h := HO4.out
                rw [← HYL.out] at h ⊢
                exact OwnInts.setk h k z
              have hst : Below w2.heap.size w4 (w4.setCell ⟨g3, k, none⟩ (.int .i64 z)) := (Below.refl _ _).setCell hg3 _
              have hK5 := Cur.below HK4.out (by omega) hst (fun j hj g o e => by have := HOLD.out j hj g o e; omega)
              have hB5 : Below w.heap.size w (w4.setCell ⟨g3, k, none⟩ (.int .i64 z)) := HB4.out.setCell (show w.heap.size ≤ g3 by omega) _
              refine ⟨⟨k + 1, ys.set k z, by omega, by go_num, by rw [List.length_set]; exact HYL.out, hO5, hK5, hB5⟩, ?_⟩
              simp [intOf]; omega
            · go_wp2
              go_roundw
              case rel => exact FIN.out _ rfl
              case measure => simp [intOf]; omega
          · go_wp2
            go_roundw
            case rel => exact FIN.out _ rfl
            case measure => simp [intOf]; omega
        · go_wp2
          go_roundw
          case rel => exact FIN.out _ rfl
          case measure => simp [intOf]; omega
    · go_wp2
      go_ret2
      exact ⟨N, _, ys, rfl, by rw [HYL.out]; exact hl, HO.out.lower (by omega), HB.out⟩

end Go.Proofs.Ytfnpkglijknnoaa
