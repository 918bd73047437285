/-
  WALKS: the draws of chapter 6, the second part.
-/
import Derived.Test.YthobncbggaggjaaWDrawCx9
import Derived.Test.YthobncbggaggjaaJg13
namespace Go.Proofs.Ythobncbggaggjaa
open Go.RowKit
open Sets Join

set_option maxRecDepth 100000 in
set_option maxHeartbeats 4000000 in
theorem drawJoin_any (a : Option Addr) (n c : Nat) (hn : n ≤ 140737488355328) (w : World) (hc : Code w a n) :
    Calls Try.prog 11 #[.slice a n c] w fun e w' => Drawn22 w e w' := by
  have hb0 : Below w.heap.size w ((w.alloc (.cells #[.int .i64 0, .slice none 0 0] 26)).alloc (.cells #[.int .i64 0, .slice none 0 0] 26)) := ((Below.refl _ _).alloc (Nat.le_refl _) _).alloc (by simp) _
  have HC0 := Lib.hid (hc.keeps hb0)
  have HB0 := Lib.hid hb0
  have HT0 := Lib.hid ((Two.new w (.int .i64 0) (.slice none 0 0) 26).alloc (.cells #[.int .i64 0, .slice none 0 0] 26))
  have hu := Two.new (w.alloc (.cells #[.int .i64 0, .slice none 0 0] 26)) (.int .i64 0) (.slice none 0 0) 26
  obtain ⟨bb, hbb⟩ : ∃ bb, w.heap.size + 1 = bb := ⟨_, rfl⟩
  rw [World.size_alloc, hbb] at hu
  have HU0 := Lib.hid hu
  clear hc hb0 hu
  go_enter Try.func11, Try.ntmps11
  go_wp2_with fail
  try rw [hbb]
  refine (l6Two_any a n c hn _ HC0.out).mono ?_
  rintro e w2 ⟨N, M, v, u, xs, ys, rfl, hl, hly, hO, hOy, hb⟩
  simp only [World.size_alloc, hbb] at hO hOy
  have hs2 := hb.size
  simp only [World.size_alloc, hbb] at hs2
  obtain ⟨a5, c5, g5, rfl, hc5, hg5, hr5, _⟩ := OwnInts.ata hO hs2
  obtain ⟨a6, c6, g6, rfl, hc6, hg6, hr6, _⟩ := OwnInts.ata hOy hs2
  have hba : Below w2.heap.size w2 ((w2.alloc (.cells #[.int .i64 N, .slice a5 xs.length c5] 26)).alloc (.cells #[.int .i64 M, .slice a6 ys.length c6] 26)) := ((Below.refl _ _).alloc (Nat.le_refl _) _).alloc (by simp) _
  have B2 : Hid (Below w.heap.size w w2) := HB0.out.trans (hb.mono (by simp; omega))
  have B3 : Hid (Below w.heap.size w ((w2.alloc (.cells #[.int .i64 N, .slice a5 xs.length c5] 26)).alloc (.cells #[.int .i64 M, .slice a6 ys.length c6] 26))) := B2.out.trans (hba.mono (by omega))
  have O3 := Lib.hid (OwnInts.keeps hO hba)
  have P3 := Lib.hid (OwnInts.keeps hOy hba)
  have T3 := Lib.hid (Two.keeps (Two.keeps HT0.out hb) hba)
  have U3 := Lib.hid (Two.keeps (Two.keeps HU0.out hb) hba)
  have X3 := Lib.hid ((Two.new w2 (.int .i64 N) (.slice a5 xs.length c5) 26).alloc (.cells #[.int .i64 M, .slice a6 ys.length c6] 26))
  have hy := Two.new (w2.alloc (.cells #[.int .i64 N, .slice a5 xs.length c5] 26)) (.int .i64 M) (.slice a6 ys.length c6) 26
  rw [World.size_alloc] at hy
  have Y3 := Lib.hid hy
  clear hO hOy hb hr5 hr6 hba hy B2 HC0 HB0 HT0 HU0
  go_wp2
  have hs3 : ((w2.alloc (.cells #[.int .i64 N, .slice a5 xs.length c5] 26)).alloc (.cells #[.int .i64 M, .slice a6 ys.length c6] 26)).heap.size = w2.heap.size + 2 := by simp
  generalize (w2.alloc (.cells #[.int .i64 N, .slice a5 xs.length c5] 26)).alloc (.cells #[.int .i64 M, .slice a6 ys.length c6] 26) = w3 at *
  obtain ⟨bx, hbx⟩ : ∃ bx, w2.heap.size = bx := ⟨_, rfl⟩
  obtain ⟨by_, hby⟩ : ∃ by_, bx + 1 = by_ := ⟨_, rfl⟩
  have X4 : Hid (Two w3 bx (.int .i64 N) (.slice a5 xs.length c5)) := Lib.hid (by rw [← hbx]; exact X3.out)
  have Y4 : Hid (Two w3 by_ (.int .i64 M) (.slice a6 ys.length c6)) := Lib.hid (by rw [← hby, ← hbx]; exact Y3.out)
  have O4 : Hid (OwnInts w3 (bb + 1) (.slice a5 xs.length c5) xs) := Lib.hid O3.out
  have P4 : Hid (OwnInts w3 (bb + 1) (.slice a6 ys.length c6) ys) := Lib.hid P3.out
  have T4 : Hid (Two w3 w.heap.size (.int .i64 0) (.slice none 0 0)) := Lib.hid T3.out
  have U4 : Hid (Two w3 bb (.int .i64 0) (.slice none 0 0)) := Lib.hid U3.out
  have B4 : Hid (Below w.heap.size w w3) := Lib.hid B3.out
  rw [hbx, hby]
  have hq : bb < bx := by omega
  have hq2 : bx < by_ := by omega
  clear X3 Y3 O3 P3 T3 U3 B3 hbx hby hs2 hs3
  have q1 : w.heap.size ≠ bb := by omega
  have q2 : w.heap.size ≠ bx := by omega
  have q3 : bb ≠ bx := by omega
  have q4 : w.heap.size ≠ by_ := by omega
  have q5 : bb ≠ by_ := by omega
  have q6 : bx ≠ by_ := by omega
  obtain ⟨s0, s1, s2, s3, s4⟩ := T4.out
  obtain ⟨r0, r1, r2, r3, r4⟩ := U4.out
  obtain ⟨x0, x1, x2, x3, x4⟩ := X4.out
  obtain ⟨y0, y1, y2, y3, y4⟩ := Y4.out
  go_region
  go_wp2
  refine ret_cxcx w.heap.size bb rfl rfl rfl (x := .int .i64 N) (y := .slice a5 xs.length c5) (x2 := .int .i64 M) (y2 := .slice a6 ys.length c6) (by go_simp) (by go_simp) (by go_simp) (by go_simp) rfl ?_
  exact ⟨N, M, _, _, xs, ys, rfl, hl, hly, (OwnInts.set (OwnInts.set (OwnInts.set (OwnInts.set O4.out _ _ _ (by omega)) _ _ _ (by omega)) _ _ _ (by omega)) _ _ _ (by omega)).lower (by omega), (OwnInts.set (OwnInts.set (OwnInts.set (OwnInts.set P4.out _ _ _ (by omega)) _ _ _ (by omega)) _ _ _ (by omega)) _ _ _ (by omega)).lower (by omega), ((((B4.out.setCell (by dsimp only; omega) _).setCell (by dsimp only; omega) _).setCell (by dsimp only; omega) _).setCell (by dsimp only; omega) _).drew⟩

set_option maxRecDepth 100000 in
set_option maxHeartbeats 4000000 in
theorem drawDis_any (a : Option Addr) (n c : Nat) (hn : n ≤ 140737488355328) (w : World) (hc : Code w a n) :
    Calls Try.prog 14 #[.slice a n c] w fun e w' => Drawn22 w e w' := by
  have hb0 : Below w.heap.size w ((w.alloc (.cells #[.int .i64 0, .slice none 0 0] 26)).alloc (.cells #[.int .i64 0, .slice none 0 0] 26)) := ((Below.refl _ _).alloc (Nat.le_refl _) _).alloc (by simp) _
  have HC0 := Lib.hid (hc.keeps hb0)
  have HB0 := Lib.hid hb0
  have HT0 := Lib.hid ((Two.new w (.int .i64 0) (.slice none 0 0) 26).alloc (.cells #[.int .i64 0, .slice none 0 0] 26))
  have hu := Two.new (w.alloc (.cells #[.int .i64 0, .slice none 0 0] 26)) (.int .i64 0) (.slice none 0 0) 26
  obtain ⟨bb, hbb⟩ : ∃ bb, w.heap.size + 1 = bb := ⟨_, rfl⟩
  rw [World.size_alloc, hbb] at hu
  have HU0 := Lib.hid hu
  clear hc hb0 hu
  go_enter Try.func14, Try.ntmps14
  go_wp2_with fail
  try rw [hbb]
  refine (l6Two_any a n c hn _ HC0.out).mono ?_
  rintro e w2 ⟨N, M, v, u, xs, ys, rfl, hl, hly, hO, hOy, hb⟩
  simp only [World.size_alloc, hbb] at hO hOy
  have hs2 := hb.size
  simp only [World.size_alloc, hbb] at hs2
  obtain ⟨a5, c5, g5, rfl, hc5, hg5, hr5, _⟩ := OwnInts.ata hO hs2
  obtain ⟨a6, c6, g6, rfl, hc6, hg6, hr6, _⟩ := OwnInts.ata hOy hs2
  have hba : Below w2.heap.size w2 ((w2.alloc (.cells #[.int .i64 N, .slice a5 xs.length c5] 26)).alloc (.cells #[.int .i64 M, .slice a6 ys.length c6] 26)) := ((Below.refl _ _).alloc (Nat.le_refl _) _).alloc (by simp) _
  have B2 : Hid (Below w.heap.size w w2) := HB0.out.trans (hb.mono (by simp; omega))
  have B3 : Hid (Below w.heap.size w ((w2.alloc (.cells #[.int .i64 N, .slice a5 xs.length c5] 26)).alloc (.cells #[.int .i64 M, .slice a6 ys.length c6] 26))) := B2.out.trans (hba.mono (by omega))
  have O3 := Lib.hid (OwnInts.keeps hO hba)
  have P3 := Lib.hid (OwnInts.keeps hOy hba)
  have T3 := Lib.hid (Two.keeps (Two.keeps HT0.out hb) hba)
  have U3 := Lib.hid (Two.keeps (Two.keeps HU0.out hb) hba)
  have X3 := Lib.hid ((Two.new w2 (.int .i64 N) (.slice a5 xs.length c5) 26).alloc (.cells #[.int .i64 M, .slice a6 ys.length c6] 26))
  have hy := Two.new (w2.alloc (.cells #[.int .i64 N, .slice a5 xs.length c5] 26)) (.int .i64 M) (.slice a6 ys.length c6) 26
  rw [World.size_alloc] at hy
  have Y3 := Lib.hid hy
  clear hO hOy hb hr5 hr6 hba hy B2 HC0 HB0 HT0 HU0
  go_wp2
  have hs3 : ((w2.alloc (.cells #[.int .i64 N, .slice a5 xs.length c5] 26)).alloc (.cells #[.int .i64 M, .slice a6 ys.length c6] 26)).heap.size = w2.heap.size + 2 := by simp
  generalize (w2.alloc (.cells #[.int .i64 N, .slice a5 xs.length c5] 26)).alloc (.cells #[.int .i64 M, .slice a6 ys.length c6] 26) = w3 at *
  obtain ⟨bx, hbx⟩ : ∃ bx, w2.heap.size = bx := ⟨_, rfl⟩
  obtain ⟨by_, hby⟩ : ∃ by_, bx + 1 = by_ := ⟨_, rfl⟩
  have X4 : Hid (Two w3 bx (.int .i64 N) (.slice a5 xs.length c5)) := Lib.hid (by rw [← hbx]; exact X3.out)
  have Y4 : Hid (Two w3 by_ (.int .i64 M) (.slice a6 ys.length c6)) := Lib.hid (by rw [← hby, ← hbx]; exact Y3.out)
  have O4 : Hid (OwnInts w3 (bb + 1) (.slice a5 xs.length c5) xs) := Lib.hid O3.out
  have P4 : Hid (OwnInts w3 (bb + 1) (.slice a6 ys.length c6) ys) := Lib.hid P3.out
  have T4 : Hid (Two w3 w.heap.size (.int .i64 0) (.slice none 0 0)) := Lib.hid T3.out
  have U4 : Hid (Two w3 bb (.int .i64 0) (.slice none 0 0)) := Lib.hid U3.out
  have B4 : Hid (Below w.heap.size w w3) := Lib.hid B3.out
  rw [hbx, hby]
  have hq : bb < bx := by omega
  have hq2 : bx < by_ := by omega
  clear X3 Y3 O3 P3 T3 U3 B3 hbx hby hs2 hs3
  have q1 : w.heap.size ≠ bb := by omega
  have q2 : w.heap.size ≠ bx := by omega
  have q3 : bb ≠ bx := by omega
  have q4 : w.heap.size ≠ by_ := by omega
  have q5 : bb ≠ by_ := by omega
  have q6 : bx ≠ by_ := by omega
  obtain ⟨s0, s1, s2, s3, s4⟩ := T4.out
  obtain ⟨r0, r1, r2, r3, r4⟩ := U4.out
  obtain ⟨x0, x1, x2, x3, x4⟩ := X4.out
  obtain ⟨y0, y1, y2, y3, y4⟩ := Y4.out
  go_region
  go_wp2
  refine ret_cxcx w.heap.size bb rfl rfl rfl (x := .int .i64 N) (y := .slice a5 xs.length c5) (x2 := .int .i64 M) (y2 := .slice a6 ys.length c6) (by go_simp) (by go_simp) (by go_simp) (by go_simp) rfl ?_
  exact ⟨N, M, _, _, xs, ys, rfl, hl, hly, (OwnInts.set (OwnInts.set (OwnInts.set (OwnInts.set O4.out _ _ _ (by omega)) _ _ _ (by omega)) _ _ _ (by omega)) _ _ _ (by omega)).lower (by omega), (OwnInts.set (OwnInts.set (OwnInts.set (OwnInts.set P4.out _ _ _ (by omega)) _ _ _ (by omega)) _ _ _ (by omega)) _ _ _ (by omega)).lower (by omega), ((((B4.out.setCell (by dsimp only; omega) _).setCell (by dsimp only; omega) _).setCell (by dsimp only; omega) _).setCell (by dsimp only; omega) _).drew⟩

set_option maxRecDepth 100000 in
set_option maxHeartbeats 4000000 in
theorem drawCone_any (a : Option Addr) (n c : Nat) (hn : n ≤ 140737488355328) (w : World) (hc : Code w a n) :
    Calls Try.prog 17 #[.slice a n c] w fun e w' => Drawn1 w e w' := by
  have hb0 : Below w.heap.size w (w.alloc (.cells #[.int .i64 0, .slice none 0 0] 26)) := (Below.refl _ _).alloc (Nat.le_refl _) _
  have HC0 := Lib.hid (hc.keeps hb0)
  have HB0 := Lib.hid hb0
  have HT0 := Lib.hid (Two.new w (.int .i64 0) (.slice none 0 0) 26)
  clear hc hb0
  go_enter Try.func17, Try.ntmps17
  go_wp2_with fail
  refine (new_any a n c hn _ HC0.out).mono ?_
  rintro e w1 ⟨rfl, hcur, hz1, hb1⟩
  simp only [World.size_alloc] at hcur hz1
  have K1 := Lib.hid hcur
  have B1 : Hid (Below w.heap.size w w1) := HB0.out.trans (hb1.mono (by simp))
  have T1 := Lib.hid (Two.keeps HT0.out hb1)
  clear hcur hb1 HC0 HB0 HT0
  go_wp2_with fail
  refine (l3Bent_any a n c hn (w.heap.size + 1) w1 hz1 K1.out).mono ?_
  rintro e w2 ⟨N, v, xs, rfl, hl, hO, hK, hG⟩
  obtain ⟨a5, c5, g5, rfl, hc5, hg5, hr5, _⟩ := OwnInts.ata hO hG.size
  have O2 := Lib.hid (OwnInts.lower hO (show w.heap.size + 1 ≤ w1.heap.size by omega))
  have B2 : Hid (Below w.heap.size w w2) := B1.out.trans (Mem.below_of_but hG (by omega) (by omega))
  obtain ⟨t0, t1, t2, t3, t4⟩ := Two.far T1.out hG (by omega)
  clear hO hK hG hr5 K1 T1 B1
  go_wp2
  refine ret_cx w.heap.size rfl rfl (x := .int .i64 N) (y := .slice a5 xs.length c5) (by go_simp) (by go_simp) rfl ?_
  exact ⟨N, _, xs, rfl, hl, (OwnInts.set (OwnInts.set O2.out _ _ _ (by omega)) _ _ _ (by omega)).lower (by omega), (B2.out.setCell (by simp) _).setCell (by simp) _⟩

set_option maxRecDepth 100000 in
set_option maxHeartbeats 2000000 in
theorem drawCross_any (a : Option Addr) (n c : Nat) (hn : n ≤ 140737488355328) (w : World) (hc : Code w a n) :
    Calls Try.prog 23 #[.slice a n c] w fun e w' => ∃ x : Int, -1 ≤ x ∧ x ≤ 4 ∧ e = .returned (.int .i64 x) ∧ Below w.heap.size w w' := by
  have HC := Lib.hid hc
  clear hc
  go_enter Try.func23, Try.ntmps23
  go_wp2_with fail
  refine (new_any a n c hn _ HC.out).mono ?_
  rintro e w1 ⟨rfl, hcur, hz1, hb1⟩
  have K1 := Lib.hid hcur
  clear hcur
  go_wp2_with fail
  refine (below_lit w.heap.size a n c hn _ 6 rfl (by omega) (by omega) _ K1.out).mono ?_
  rintro e w2 ⟨r, hr, rfl, hd⟩
  have hb2 : Below w.heap.size w w2 := hb1.trans (Mem.below_of_but hd.2 (Nat.le_refl _) (by omega))
  clear hd
  go_wp2
  go_ret
  exact ⟨_, by omega, by omega, rfl, hb2⟩

set_option maxRecDepth 100000 in
set_option maxHeartbeats 4000000 in
theorem drawPts_any (a : Option Addr) (n c : Nat) (hn : n ≤ 140737488355328) (w : World) (hc : Code w a n) :
    Calls Try.prog 22 #[.slice a n c] w fun e w' => Drawn1 w e w' := by
  have hb0 : Below w.heap.size w (w.alloc (.cells #[.int .i64 0, .slice none 0 0] 26)) := (Below.refl _ _).alloc (Nat.le_refl _) _
  have HC0 := Lib.hid (hc.keeps hb0)
  have HB0 := Lib.hid hb0
  have HT0 := Lib.hid (Two.new w (.int .i64 0) (.slice none 0 0) 26)
  clear hc hb0
  go_enter Try.func22, Try.ntmps22
  go_wp2_with fail
  refine (new_any a n c hn _ HC0.out).mono ?_
  rintro e w1 ⟨rfl, hcur, hz1, hb1⟩
  simp only [World.size_alloc] at hcur hz1
  have K1 := Lib.hid hcur
  have B1 : Hid (Below w.heap.size w w1) := HB0.out.trans (hb1.mono (by simp))
  have T1 := Lib.hid (Two.keeps HT0.out hb1)
  clear hcur hb1 HC0 HB0 HT0
  go_wp2_with fail
  refine (l3Bent_any a n c hn (w.heap.size + 1) w1 hz1 K1.out).mono ?_
  rintro e w2 ⟨N, v, xs, rfl, hl, hO, hK, hG⟩
  obtain ⟨a5, c5, g5, rfl, hc5, hg5, hr5, _⟩ := OwnInts.ata hO hG.size
  have hs2 := hG.size
  have hba : Below w2.heap.size w2 (w2.alloc (.cells #[.int .i64 N, .slice a5 xs.length c5] 26)) := (Below.refl _ _).alloc (Nat.le_refl _) _
  have O3 := Lib.hid (OwnInts.keeps (OwnInts.lower hO (show w.heap.size + 2 ≤ w1.heap.size by omega)) hba)
  have I3 := Lib.hid (hr5.keeps hba).ints
  have K3 := Lib.hid (hK.keeps (by omega) hba)
  have T3 := Lib.hid (Two.keeps (Two.far T1.out hG (by omega)) hba)
  have X3 := Lib.hid (Two.new w2 (.int .i64 N) (.slice a5 xs.length c5) 26)
  have B3 : Hid (Below w.heap.size w (w2.alloc (.cells #[.int .i64 N, .slice a5 xs.length c5] 26))) := (B1.out.trans (Mem.below_of_but hG (by omega) (by omega))).trans (hba.mono (by omega))
  have hs3 := hba.size
  clear hO hK hG hr5 K1 T1 B1 hba
  obtain ⟨bx, hbx⟩ : ∃ bx, w2.heap.size = bx := ⟨_, rfl⟩
  have hbxl : w.heap.size + 1 < bx := by omega
  rw [hbx] at X3
  go_wp2_with fail
  try rw [hbx]
  generalize w2.alloc (.cells #[.int .i64 N, .slice a5 xs.length c5] 26) = w3 at *
  have HJC := Lib.hid (fun W (hh : Ints W a5 xs) => specCone_any N a5 c5 xs (Nat.le_trans hl (by decide)) W hh)
  have hJl := joinO_le N 1 xs [1]
  obtain ⟨J, hJ⟩ : ∃ J, joinO N 1 xs [1] = J := ⟨_, rfl⟩
  rw [hJ] at HJC hJl
  clear hJ hbx
  obtain ⟨x0, x1, x2, x3, x4⟩ := X3.out
  refine (HJC.out _ I3.out).mono ?_
  rintro e w4 ⟨v4, rfl, hO4, hb4⟩
  obtain ⟨a6, c6, g6, rfl, hc6, hg6, hr6, _⟩ := OwnInts.ata hO4 hb4.size
  have hbc : Below w4.heap.size w4 (w4.alloc (.cells #[.int .i64 (oN J), .slice a6 (oL J).length c6] 26)) := (Below.refl _ _).alloc (Nat.le_refl _) _
  have O5 := Lib.hid (OwnInts.keeps (OwnInts.keeps O3.out hb4) hbc)
  have P5 := Lib.hid (OwnInts.keeps (OwnInts.lower hO4 (show w.heap.size + 2 ≤ w3.heap.size by omega)) hbc)
  have K5 := Lib.hid ((K3.out.keeps (by omega) hb4).keeps (by have := hb4.size; omega) hbc)
  have T5 := Lib.hid (Two.keeps (Two.keeps T3.out hb4) hbc)
  have X5 := Lib.hid (Two.keeps (Two.keeps X3.out hb4) hbc)
  have Y5 := Lib.hid (Two.new w4 (.int .i64 (oN J)) (.slice a6 (oL J).length c6) 26)
  have B5 : Hid (Below w.heap.size w (w4.alloc (.cells #[.int .i64 (oN J), .slice a6 (oL J).length c6] 26))) := (B3.out.trans (hb4.mono (by omega))).trans (hbc.mono (by have := hb4.size; omega))
  have hs4 := hb4.size
  have hs5 := hbc.size
  clear hO4 hb4 hbc hr6 O3 I3 K3 T3 X3 B3 x0 x1 x2 x3 x4 HJC
  obtain ⟨by_, hby⟩ : ∃ by_, w4.heap.size = by_ := ⟨_, rfl⟩
  rw [hby] at Y5
  have hbyl : w.heap.size + 1 < by_ := by omega
  have hq1 : w.heap.size ≠ by_ := by omega
  have hq2 : w.heap.size ≠ bx := by omega
  cases hJs : J.isSome with
  | false =>
    obtain ⟨x0, x1, x2, x3, x4⟩ := X5.out
    obtain ⟨t0, t1, t2, t3, t4⟩ := T5.out
    go_wp2
    refine ret_cx w.heap.size rfl rfl (x := .int .i64 N) (y := .slice a5 xs.length c5) (by go_simp) (by go_simp) rfl ?_
    exact ⟨N, _, xs, rfl, hl, (OwnInts.set (OwnInts.set O5.out _ _ _ (by omega)) _ _ _ (by omega)).lower (by omega), (B5.out.setCell (by simp) _).setCell (by simp) _⟩
  | true =>
    go_wp2_with fail
    try rw [hby]
    generalize w4.alloc (.cells #[.int .i64 (oN J), .slice a6 (oL J).length c6] 26) = w5 at *
    refine (once_b (w.heap.size + 1) a n c hn _ 2 rfl (by omega) (by omega) _ K5.out).mono ?_
    rintro e w6 ⟨b, rfl, hd⟩
    have O6 := Lib.hid (OwnInts.away O5.out hd.2 (by omega))
    have P6 := Lib.hid (OwnInts.away P5.out hd.2 (by omega))
    have T6 := Lib.hid (Two.far T5.out hd.2 (by omega))
    have X6 := Lib.hid (Two.far X5.out hd.2 (by omega))
    have Y6 := Lib.hid (Two.far Y5.out hd.2 (by omega))
    have B6 : Hid (Below w.heap.size w w6) := B5.out.trans (Mem.below_of_but hd.2 (by omega) (by omega))
    clear hd O5 P5 T5 X5 Y5 B5
    obtain ⟨x0, x1, x2, x3, x4⟩ := X6.out
    obtain ⟨y0, y1, y2, y3, y4⟩ := Y6.out
    obtain ⟨t0, t1, t2, t3, t4⟩ := T6.out
    cases b with
    | false =>
      go_wp2
      refine ret_cx w.heap.size rfl rfl (x := .int .i64 N) (y := .slice a5 xs.length c5) (by go_simp) (by go_simp) rfl ?_
      exact ⟨N, _, xs, rfl, hl, (OwnInts.set (OwnInts.set O6.out _ _ _ (by omega)) _ _ _ (by omega)).lower (by omega), (B6.out.setCell (by simp) _).setCell (by simp) _⟩
    | true =>
      go_wp2
      refine ret_cx w.heap.size rfl rfl (x := .int .i64 (oN J)) (y := .slice a6 (oL J).length c6) (by go_simp) (by go_simp) rfl ?_
      exact ⟨oN J, _, oL J, rfl, Nat.le_trans hJl (by decide), (OwnInts.set (OwnInts.set P6.out _ _ _ (by omega)) _ _ _ (by omega)).lower (by omega), (B6.out.setCell (by simp) _).setCell (by simp) _⟩

end Go.Proofs.Ythobncbggaggjaa
