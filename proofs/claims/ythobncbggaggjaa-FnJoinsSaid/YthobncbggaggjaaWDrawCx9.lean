/-
  WALKS: the draws of chapter 6.
-/
import Derived.Test.YthobncbggaggjaaJg31
import Derived.IntWalk
namespace Go.Proofs.Ythobncbggaggjaa
open Go.RowKit
open Sets

theorem l3Size_z (a : Option Addr) (n c : Nat) (hn : n ≤ 140737488355328) (z : Int) (nn : Nat) (hz : z = (nn : Int)) (h1 : 1 ≤ nn) (h6 : nn ≤ 6) (B : Nat) (w : World) (hBw : B < w.heap.size) (hc : Cur w B a n c) :
    Calls Try.prog 69 #[.pointer (some ⟨B, 0, none⟩), .int .i64 z] w fun e w' =>
      ∃ v xs, e = .returned (cx (nn : Int) v) ∧ xs.length ≤ 448 ∧ OwnInts w' w.heap.size v xs ∧ Cur w' B a n c ∧ w.grownBy w' (some B) := by
  subst hz; exact l3Size_any a n c hn nn h1 h6 B w hBw hc

set_option maxRecDepth 100000 in
set_option maxHeartbeats 8000000 in
theorem l6Two_any (a : Option Addr) (n c : Nat) (hn : n ≤ 140737488355328) (w : World) (hc : Code w a n) :
    Calls Try.prog 39 #[.slice a n c] w fun e w' => Drawn22 w e w' := by
  have hb0 : Below w.heap.size w ((w.alloc (.cells #[.int .i64 0, .slice none 0 0] 26)).alloc (.cells #[.int .i64 0, .slice none 0 0] 26)) := ((Below.refl _ _).alloc (Nat.le_refl _) _).alloc (by simp) _
  have HC0 := Lib.hid (hc.keeps hb0)
  have HB0 := Lib.hid hb0
  have HT0 := Lib.hid ((Two.new w (.int .i64 0) (.slice none 0 0) 26).alloc (.cells #[.int .i64 0, .slice none 0 0] 26))
  have hu := Two.new (w.alloc (.cells #[.int .i64 0, .slice none 0 0] 26)) (.int .i64 0) (.slice none 0 0) 26
  obtain ⟨bb, hbb⟩ : ∃ bb, w.heap.size + 1 = bb := ⟨_, rfl⟩
  rw [World.size_alloc, hbb] at hu
  have HU0 := Lib.hid hu
  clear hc hb0 hu
  go_enter Try.func39, Try.ntmps39
  go_wp2_with fail
  try rw [hbb]
  refine (new_any a n c hn _ HC0.out).mono ?_
  rintro e w1 ⟨rfl, hcur, hz1, hb1⟩
  simp only [World.size_alloc] at hcur hz1
  rw [hbb] at hcur hz1
  try rw [World.size_alloc, World.size_alloc, hbb]
  have K1 := Lib.hid hcur
  have B1 : Hid (Below w.heap.size w w1) := HB0.out.trans (hb1.mono (by simp; omega))
  have T1 := Lib.hid (Two.keeps HT0.out hb1)
  have U1 := Lib.hid (Two.keeps HU0.out hb1)
  clear hcur hb1 HC0 HB0 HT0 HU0
  go_wp2_with fail
  refine (below_lit (bb + 1) a n c hn _ 3 (by decide) (by decide) (by decide) _ K1.out).mono ?_
  rintro e w0 ⟨q0, hq0, rfl, hd⟩
  obtain ⟨nn, hnn⟩ : ∃ nn : Nat, 1 + (q0 : Int) = (nn : Int) := ⟨q0 + 1, by omega⟩
  have K0 := Lib.hid hd.1
  have T0 := Lib.hid (Two.far T1.out hd.2 (by omega))
  have U0 := Lib.hid (Two.far U1.out hd.2 (by omega))
  have hz0 : bb + 2 ≤ w0.heap.size := Nat.le_trans hz1 hd.2.size
  have B0 : Hid (Below w.heap.size w w0) := B1.out.trans (Mem.below_of_but hd.2 (by omega) B1.out.size)
  have HSZ := Lib.hid (fun W (hW : bb + 1 < W.heap.size) (hK : Cur W (bb + 1) a n c) => l3Size_z a n c hn (1 + (q0 : Int)) nn hnn (by omega) (by omega) (bb + 1) W hW hK)
  have hn3 : nn ≤ 3 := by omega
  clear hd K1 T1 U1 B1 hnn
  go_wp2_with fail
  refine (HSZ.out _ (by omega) K0.out).mono ?_
  rintro e w2 ⟨v, xs, rfl, hl, hO, hK, hG⟩
  obtain ⟨N, hN⟩ : ∃ N : Int, (nn : Int) = N := ⟨_, rfl⟩
  rw [hN]
  have K1 := K0
  have T1 := T0
  have U1 := U0
  have B1 := B0
  clear HSZ hN
  obtain ⟨a5, c5, g5, rfl, hc5, hg5, hr5, _⟩ := OwnInts.ata hO hG.size
  have hs2 := hG.size
  have hba : Below w2.heap.size w2 (w2.alloc (.cells #[.int .i64 N, .slice a5 xs.length c5] 26)) := (Below.refl _ _).alloc (Nat.le_refl _) _
  have ho := OwnInts.lower (hO.alloc (.cells #[.int .i64 N, .slice a5 xs.length c5] 26)) (show bb + 2 ≤ w0.heap.size by omega)
  have hb : Below w.heap.size w (w2.alloc (.cells #[.int .i64 N, .slice a5 xs.length c5] 26)) := (B1.out.trans (Mem.below_of_but hG (by omega) B1.out.size)).trans (hba.mono (by omega))
  have ht := Two.keeps (Two.far T1.out hG (by omega)) hba
  have hu := Two.keeps (Two.far U1.out hG (by omega)) hba
  have hx := Two.new w2 (.int .i64 N) (.slice a5 xs.length c5) 26
  have hk := hK.keeps (by omega) hba
  obtain ⟨bx, hbx⟩ : ∃ bx, w2.heap.size = bx := ⟨_, rfl⟩
  have hbxl : bb + 1 < bx := by omega
  rw [hbx] at hx
  go_wp2_with fail
  try rw [hbx]
  generalize w2.alloc (.cells #[.int .i64 N, .slice a5 xs.length c5] 26) = w3 at *
  have O3 := Lib.hid ho
  have B3 := Lib.hid hb
  have T3 := Lib.hid ht
  have U3 := Lib.hid hu
  have X3 := Lib.hid hx
  have K3 := Lib.hid hk
  clear hO hK hG hr5 K1 T1 U1 B1 hba ho hb ht hu hx hk hbx hs2
  refine (once_b (bb + 1) a n c hn _ 10 rfl (by omega) (by omega) _ K3.out).mono ?_
  rintro e w5 ⟨b, rfl, hd⟩
  have K5 := Lib.hid hd.1
  have O5 := Lib.hid (OwnInts.away O3.out hd.2 (by omega))
  have T5 := Lib.hid (Two.far T3.out hd.2 (by omega))
  have U5 := Lib.hid (Two.far U3.out hd.2 (by omega))
  have X5 := Lib.hid (Two.far X3.out hd.2 (by omega))
  have B5 : Hid (Below w.heap.size w w5) := B3.out.trans (Mem.below_of_but hd.2 (by omega) B3.out.size)
  have hs5 : bx < w5.heap.size := X5.out.1
  clear hd K3 O3 T3 U3 X3 B3
  obtain ⟨x0, x1, x2, x3, x4⟩ := X5.out
  have q1 : w.heap.size ≠ bb := by omega
  have q2 : w.heap.size ≠ bx := by omega
  have q3 : bb ≠ bx := by omega
  cases b with
  | true =>
    go_wp2_with fail
    go_region_law (first | (go_simp; go_at_call 47; refine (l3Bent_any a n c hn (bb + 1) _ (by first | omega | (simp; omega)) (by first | exact K5.out.drw | exact K5.out)).mono ?_; rintro e w6 ⟨M, u, ys, rfl, hly, hOy, hKy, hGy⟩; have O6 := Lib.hid (OwnInts.away (show OwnInts w5.drew _ _ _ from O5.out) hGy (by omega)); have hT6 := Two.far (show Two w5.drew _ _ _ from T5.out) hGy (by omega); have hU6 := Two.far (show Two w5.drew _ _ _ from U5.out) hGy (by omega); have hX6 := Two.far (show Two w5.drew _ _ _ from X5.out) hGy (by omega); have B6 : Hid (Below w.heap.size w w6) := B5.out.drew.trans (Mem.below_of_but hGy (by omega) B5.out.drew.size); obtain ⟨a6, c6, g6, rfl, hc6, hg6, hr6, _⟩ := OwnInts.ata hOy hGy.size; obtain ⟨s0, s1, s2, s3, s4⟩ := hT6; obtain ⟨r0, r1, r2, r3, r4⟩ := hU6; obtain ⟨y0, y1, y2, y3, y4⟩ := hX6))
    all_goals
      go_wp2
      refine ret_cxcx w.heap.size bb rfl rfl rfl (x := .int .i64 N) (y := .slice a5 xs.length c5) (x2 := .int .i64 M) (y2 := .slice a6 ys.length c6) (by go_simp) (by go_simp) (by go_simp) (by go_simp) rfl ?_
      exact ⟨N, _, _, _, xs, ys, rfl, Nat.le_trans hl (by decide), hly, (OwnInts.set (OwnInts.set (OwnInts.set (OwnInts.set O6.out _ _ _ (by omega)) _ _ _ (by omega)) _ _ _ (by omega)) _ _ _ (by omega)).lower (by omega), (OwnInts.set (OwnInts.set (OwnInts.set (OwnInts.set hOy _ _ _ (by first | omega | (dsimp only [World.drew]; omega))) _ _ _ (by first | omega | (dsimp only [World.drew]; omega))) _ _ _ (by first | omega | (dsimp only [World.drew]; omega))) _ _ _ (by first | omega | (dsimp only [World.drew]; omega))).lower (by first | omega | (dsimp only [World.drew]; omega)), (((B6.out.setCell (by dsimp only; omega) _).setCell (by dsimp only; omega) _).setCell (by dsimp only; omega) _).setCell (by dsimp only; omega) _⟩
  | false =>
    go_wp2_with fail
    go_region_law (first | (go_simp; go_at_call 52; refine (below_lit (bb + 1) a n c hn _ 3 (by decide) (by decide) (by decide) _ (by first | exact K5.out.drw | exact K5.out)).mono ?_; rintro e w8 ⟨q, hq, rfl, hd⟩; have O8 := Lib.hid (OwnInts.away (show OwnInts w5.drew _ _ _ from O5.out) hd.2 (by omega)); have T8 := Lib.hid (Two.far (show Two w5.drew _ _ _ from T5.out) hd.2 (by omega)); have U8 := Lib.hid (Two.far (show Two w5.drew _ _ _ from U5.out) hd.2 (by omega)); have X8 := Lib.hid (Two.far (show Two w5.drew _ _ _ from X5.out) hd.2 (by omega)); have B8 : Hid (Below w.heap.size w w8) := B5.out.drew.trans (Mem.below_of_but hd.2 (by omega) B5.out.drew.size); have hs8 : bx < w8.heap.size := X8.out.1; have K8 := Lib.hid hd.1; have v1 := X8.out.2.1; have v2 := X8.out.2.2.1; clear hd) | (go_simp; go_at_call 69; refine (l3Size_z a n c hn (IntKind.i64.wrap (1 + (q : Int))) (q + 1) (by rw [IntWalk.i64_in _ (by omega)]; omega) (by omega) (by omega) (bb + 1) _ (by first | omega | (simp; omega)) (by first | exact K8.out.drw | exact K8.out)).mono ?_; rintro e w6 ⟨u, ys, rfl, hly, hOy, hKy, hGy⟩; have O6 := Lib.hid (OwnInts.away O8.out hGy (by omega)); have hT6 := Two.far T8.out hGy (by omega); have hU6 := Two.far U8.out hGy (by omega); have hX6 := Two.far X8.out hGy (by omega); have B6 : Hid (Below w.heap.size w w6) := B8.out.trans (Mem.below_of_but hGy (by omega) B8.out.size); obtain ⟨a6, c6, g6, rfl, hc6, hg6, hr6, _⟩ := OwnInts.ata hOy hGy.size; obtain ⟨s0, s1, s2, s3, s4⟩ := hT6; obtain ⟨r0, r1, r2, r3, r4⟩ := hU6; obtain ⟨y0, y1, y2, y3, y4⟩ := hX6) | fail "arm")
    all_goals
      go_wp2
      refine ret_cxcx w.heap.size bb rfl rfl rfl (x := .int .i64 N) (y := .slice a5 xs.length c5) (x2 := .int .i64 ((q + 1 : Nat) : Int)) (y2 := .slice a6 ys.length c6) (by go_simp) (by go_simp) (by go_simp) (by go_simp) rfl ?_
      exact ⟨N, _, _, _, xs, ys, rfl, Nat.le_trans hl (by decide), Nat.le_trans hly (by decide), (OwnInts.set (OwnInts.set (OwnInts.set (OwnInts.set O6.out _ _ _ (by omega)) _ _ _ (by omega)) _ _ _ (by omega)) _ _ _ (by omega)).lower (by omega), (OwnInts.set (OwnInts.set (OwnInts.set (OwnInts.set hOy _ _ _ (by first | omega | (dsimp only [World.drew]; omega))) _ _ _ (by first | omega | (dsimp only [World.drew]; omega))) _ _ _ (by first | omega | (dsimp only [World.drew]; omega))) _ _ _ (by first | omega | (dsimp only [World.drew]; omega))).lower (by first | omega | (dsimp only [World.drew]; omega)), (((B6.out.setCell (by dsimp only; omega) _).setCell (by dsimp only; omega) _).setCell (by dsimp only; omega) _).setCell (by dsimp only; omega) _⟩

end Go.Proofs.Ythobncbggaggjaa
