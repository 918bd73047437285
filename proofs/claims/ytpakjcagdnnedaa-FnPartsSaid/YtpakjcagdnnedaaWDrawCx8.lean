/-
  WALKS: the draws of chapter 5, the second part.
-/
import Derived.Test.YtpakjcagdnnedaaWDrawCx7
import Derived.RegionTactic
namespace Go.Proofs.Ytpakjcagdnnedaa
open Go.RowKit
open Sets

set_option maxRecDepth 100000 in
set_option maxHeartbeats 4000000 in
theorem drawMeet_any (a : Option Addr) (n c : Nat) (hn : n ≤ 140737488355328) (w : World) (hc : Code w a n) :
    Calls Try.prog 25 #[.slice a n c] w fun e w' => Drawn22 w e w' := by
  have hb0 : Below w.heap.size w ((w.alloc (.cells #[.int .i64 0, .slice none 0 0] 26)).alloc (.cells #[.int .i64 0, .slice none 0 0] 26)) := ((Below.refl _ _).alloc (Nat.le_refl _) _).alloc (by simp) _
  have HC0 := Lib.hid (hc.keeps hb0)
  have HB0 := Lib.hid hb0
  have HT0 := Lib.hid ((Two.new w (.int .i64 0) (.slice none 0 0) 26).alloc (.cells #[.int .i64 0, .slice none 0 0] 26))
  have hu := Two.new (w.alloc (.cells #[.int .i64 0, .slice none 0 0] 26)) (.int .i64 0) (.slice none 0 0) 26
  obtain ⟨bb, hbb⟩ : ∃ bb, w.heap.size + 1 = bb := ⟨_, rfl⟩
  rw [World.size_alloc, hbb] at hu
  have HU0 := Lib.hid hu
  clear hc hb0 hu
  go_enter Try.func25, Try.ntmps25
  go_wp2_with fail
  try rw [hbb]
  refine (l5Two_any a n c hn _ HC0.out).mono ?_
  rintro e w2 ⟨N, M, v, u, xs, ys, rfl, hl, hly, hO, hOy, hb⟩
  simp only [World.size_alloc, hbb] at hO hOy
  have hs2 := hb.size
  simp only [World.size_alloc, hbb] at hs2
  obtain ⟨a5, c5, g5, rfl, hc5, hg5, hr5, _⟩ := OwnInts.ata hO hs2
  obtain ⟨a6, c6, g6, rfl, hc6, hg6, hr6, _⟩ := OwnInts.ata hOy hs2
  have hba : Below w2.heap.size w2 ((w2.alloc (.cells #[.int .i64 N, .slice a5 xs.length c5] 26)).alloc (.cells #[.int .i64 M, .slice a6 ys.length c6] 26)) := ((Below.refl _ _).alloc (Nat.le_refl _) _).alloc (by simp) _
  have B2 : Hid (Below w.heap.size w w2) := HB0.out.trans (hb.mono (by simp; omega))
  have B3 : Hid (Below w.heap.size w ((w2.alloc (.cells #[.int .i64 N, .slice a5 xs.length c5] 26)).alloc (.cells #[.int .i64 M, .slice a6 ys.length c6] 26))) := B2.out.trans (hba.mono (by omega))
  have O3 := Lib.hid (OwnInts.keeps hO hba)
  have P3 := Lib.hid (OwnInts.keeps hOy hba)
  have T3 := Lib.hid (Two.keeps (Two.keeps HT0.out hb) hba)
  have U3 := Lib.hid (Two.keeps (Two.keeps HU0.out hb) hba)
  have X3 := Lib.hid ((Two.new w2 (.int .i64 N) (.slice a5 xs.length c5) 26).alloc (.cells #[.int .i64 M, .slice a6 ys.length c6] 26))
  have hy := Two.new (w2.alloc (.cells #[.int .i64 N, .slice a5 xs.length c5] 26)) (.int .i64 M) (.slice a6 ys.length c6) 26
  rw [World.size_alloc] at hy
  have Y3 := Lib.hid hy
  clear hO hOy hb hr5 hr6 hba hy B2 HC0 HB0 HT0 HU0
  go_wp2
  have hs3 : ((w2.alloc (.cells #[.int .i64 N, .slice a5 xs.length c5] 26)).alloc (.cells #[.int .i64 M, .slice a6 ys.length c6] 26)).heap.size = w2.heap.size + 2 := by simp
  generalize (w2.alloc (.cells #[.int .i64 N, .slice a5 xs.length c5] 26)).alloc (.cells #[.int .i64 M, .slice a6 ys.length c6] 26) = w3 at *
  obtain ⟨bx, hbx⟩ : ∃ bx, w2.heap.size = bx := ⟨_, rfl⟩
  obtain ⟨by_, hby⟩ : ∃ by_, bx + 1 = by_ := ⟨_, rfl⟩
  have X4 : Hid (Two w3 bx (.int .i64 N) (.slice a5 xs.length c5)) := Lib.hid (by rw [← hbx]; exact X3.out)
  have Y4 : Hid (Two w3 by_ (.int .i64 M) (.slice a6 ys.length c6)) := Lib.hid (by rw [← hby, ← hbx]; exact Y3.out)
  have O4 : Hid (OwnInts w3 (bb + 1) (.slice a5 xs.length c5) xs) := Lib.hid O3.out
  have P4 : Hid (OwnInts w3 (bb + 1) (.slice a6 ys.length c6) ys) := Lib.hid P3.out
  have T4 : Hid (Two w3 w.heap.size (.int .i64 0) (.slice none 0 0)) := Lib.hid T3.out
  have U4 : Hid (Two w3 bb (.int .i64 0) (.slice none 0 0)) := Lib.hid U3.out
  have B4 : Hid (Below w.heap.size w w3) := Lib.hid B3.out
  rw [hbx, hby]
  have hq : bb < bx := by omega
  have hq2 : bx < by_ := by omega
  clear X3 Y3 O3 P3 T3 U3 B3 hbx hby hs2 hs3
  have q1 : w.heap.size ≠ bb := by omega
  have q2 : w.heap.size ≠ bx := by omega
  have q3 : bb ≠ bx := by omega
  have q4 : w.heap.size ≠ by_ := by omega
  have q5 : bb ≠ by_ := by omega
  have q6 : bx ≠ by_ := by omega
  obtain ⟨s0, s1, s2, s3, s4⟩ := T4.out
  obtain ⟨r0, r1, r2, r3, r4⟩ := U4.out
  obtain ⟨x0, x1, x2, x3, x4⟩ := X4.out
  obtain ⟨y0, y1, y2, y3, y4⟩ := Y4.out
  go_region
  go_wp2
  refine ret_cxcx w.heap.size bb rfl rfl rfl (x := .int .i64 N) (y := .slice a5 xs.length c5) (x2 := .int .i64 M) (y2 := .slice a6 ys.length c6) (by go_simp) (by go_simp) (by go_simp) (by go_simp) rfl ?_
  exact ⟨N, M, _, _, xs, ys, rfl, hl, hly, (OwnInts.set (OwnInts.set (OwnInts.set (OwnInts.set O4.out _ _ _ (by omega)) _ _ _ (by omega)) _ _ _ (by omega)) _ _ _ (by omega)).lower (by omega), (OwnInts.set (OwnInts.set (OwnInts.set (OwnInts.set P4.out _ _ _ (by omega)) _ _ _ (by omega)) _ _ _ (by omega)) _ _ _ (by omega)).lower (by omega), ((((B4.out.setCell (by dsimp only; omega) _).setCell (by dsimp only; omega) _).setCell (by dsimp only; omega) _).setCell (by dsimp only; omega) _).drew⟩

theorem bit_some (b : Bool) (w : World) : Calls Try.prog 61 #[.bool b] w fun e w' => (∃ z : Int, e = .returned (.int .i64 z)) ∧ w = w' :=
  (l1Bit_b b w).mono fun _ _ ⟨h, h2⟩ => ⟨⟨_, h⟩, h2⟩

set_option maxRecDepth 100000 in
set_option maxHeartbeats 8000000 in
theorem drawInduced_any (a : Option Addr) (n c : Nat) (hn : n ≤ 140737488355328) (w : World) (hc : Code w a n) :
    Calls Try.prog 22 #[.slice a n c] w fun e w' => Drawn2 w e w' := by
  have hb0 : Below w.heap.size w (w.alloc (.cells #[.int .i64 0, .slice none 0 0] 26)) := (Below.refl _ _).alloc (Nat.le_refl _) _
  have HC0 := Lib.hid (hc.keeps hb0)
  have HB0 := Lib.hid hb0
  have HT0 := Lib.hid (Two.new w (.int .i64 0) (.slice none 0 0) 26)
  clear hc hb0
  go_enter Try.func22, Try.ntmps22
  go_wp2_with fail
  refine (new_any a n c hn _ HC0.out).mono ?_
  rintro e w1 ⟨rfl, hcur, hz1, hb1⟩
  simp only [World.size_alloc] at hcur hz1
  have K1 := Lib.hid hcur
  have B1 : Hid (Below w.heap.size w w1) := HB0.out.trans (hb1.mono (by simp))
  have T1 := Lib.hid (Two.keeps HT0.out hb1)
  clear hcur hb1 HC0 HB0 HT0
  go_wp2_with fail
  refine (l3Bent_any a n c hn (w.heap.size + 1) w1 hz1 K1.out).mono ?_
  rintro e w2 ⟨N, v, xs, rfl, hl, hO, hK, hG⟩
  obtain ⟨a5, c5, g5, rfl, hc5, hg5, hr5, _⟩ := OwnInts.ata hO hG.size
  have hs2 := hG.size
  have hnb := hO.own_lt w2.heap.size (Nat.le_refl _)
  have hba : Below w2.heap.size w2 (w2.alloc (.cells #[.int .i64 N, .slice a5 xs.length c5] 26)) := (Below.refl _ _).alloc (Nat.le_refl _) _
  have ho := OwnInts.lower (hO.alloc (.cells #[.int .i64 N, .slice a5 xs.length c5] 26)) (show w.heap.size + 2 ≤ w1.heap.size by omega)
  have hb : Below w.heap.size w (w2.alloc (.cells #[.int .i64 N, .slice a5 xs.length c5] 26)) := (B1.out.trans (Mem.below_of_but hG (by omega) (by omega))).trans (hba.mono (by omega))
  have ht := Two.keeps (Two.far T1.out hG (by omega)) hba
  have hx := Two.new w2 (.int .i64 N) (.slice a5 xs.length c5) 26
  have hk := hK.keeps (by omega) hba
  have hs3 : (w2.alloc (.cells #[.int .i64 N, .slice a5 xs.length c5] 26)).heap.size = w2.heap.size + 1 := by simp
  go_wp2_with fail
  generalize w2.alloc (.cells #[.int .i64 N, .slice a5 xs.length c5] 26) = w3 at *
  have HO := Lib.hid ho
  have HB := Lib.hid hb
  have HT := Lib.hid ht
  have HX := Lib.hid hx
  have HK := Lib.hid hk
  have HNB := Lib.hid hnb
  obtain ⟨t0, t1, t2, t3, t4⟩ := ht
  obtain ⟨x0, x1, x2, x3, x4⟩ := hx
  clear hO hK hG hr5 K1 T1 B1 hba ho hb hk hnb
  have hwb : w.heap.size ≠ w2.heap.size := by omega
  have hbw : w2.heap.size ≠ w.heap.size := by omega
  obtain ⟨mn, hmn⟩ : ∃ mn : Int, (if 6 < N then 6 else N) = mn := ⟨_, rfl⟩
  have hm6 : mn ≤ 6 := by subst hmn; split <;> omega
  obtain ⟨nn, hnn, h6⟩ : ∃ nn : Nat, (if mn < 0 then 0 else mn) = (nn : Int) ∧ nn ≤ 6 := ⟨(if mn < 0 then 0 else mn).toNat, by split <;> omega, by split <;> omega⟩
  have HMIN := Lib.hid (fun W => hmn ▸ l1Min_any 6 N W)
  have HMAX := Lib.hid (fun W => hnn ▸ l1Max_any 0 mn W)
  clear hmn hnn hm6
  obtain ⟨m, HSH, hm1, hm2⟩ : ∃ m : Nat, Hid (IntKind.i64.wrap (IntKind.i64.wrap (2 ^ min (IntKind.u64.wrap (nn : Int)).toNat 64) + 1) = (m : Int)) ∧ 0 < m ∧ m ≤ 4294967296 := by
    rcases (by omega : nn = 0 ∨ nn = 1 ∨ nn = 2 ∨ nn = 3 ∨ nn = 4 ∨ nn = 5 ∨ nn = 6) with rfl | rfl | rfl | rfl | rfl | rfl | rfl
    · exact ⟨2, Lib.hid (by decide), by decide, by decide⟩
    · exact ⟨3, Lib.hid (by decide), by decide, by decide⟩
    · exact ⟨5, Lib.hid (by decide), by decide, by decide⟩
    · exact ⟨9, Lib.hid (by decide), by decide, by decide⟩
    · exact ⟨17, Lib.hid (by decide), by decide, by decide⟩
    · exact ⟨33, Lib.hid (by decide), by decide, by decide⟩
    · exact ⟨65, Lib.hid (by decide), by decide, by decide⟩
  go_region_law (first | (go_simp; go_at_call 60; refine (HMIN.out _).mono ?_; rintro e w' ⟨rfl, rfl⟩) | (go_simp; go_at_call 59; refine (HMAX.out _).mono ?_; rintro e w' ⟨rfl, rfl⟩) | (go_simp; go_at_call 61; refine (bit_some _ _).mono ?_; rintro e w' ⟨⟨z, rfl⟩, rfl⟩) | (go_simp; go_at_call 51; refine (below_lit (w.heap.size + 1) a n c hn _ m HSH.out hm1 hm2 _ (by first | exact HK.out.drw | exact HK.out)).mono ?_; rintro e w4 ⟨q, hq, rfl, hd⟩; have O4 := Lib.hid (OwnInts.away (show OwnInts w3.drew _ _ _ from HO.out) hd.2 (by omega)); have T4 := Lib.hid (Two.far (show Two w3.drew _ _ _ from HT.out) hd.2 (by omega)); have X4 := Lib.hid (Two.far (show Two w3.drew _ _ _ from HX.out) hd.2 (by omega)); have B4 : Hid (Below w.heap.size w w4) := HB.out.drew.trans (Mem.below_of_but hd.2 (by omega) HB.out.drew.size); have K4 := Lib.hid hd.1; have x4a := X4.out.2.1; have x4b := X4.out.2.2.1; clear hd) | (go_simp; go_at_call 62; refine (once_b (w.heap.size + 1) a n c hn _ 12 (by decide) (by decide) (by decide) _ K4.out).mono ?_; rintro e w5 ⟨b, rfl, hd⟩; have O5 := Lib.hid (OwnInts.away O4.out hd.2 (by omega)); have hT5 := Two.far T4.out hd.2 (by omega); have hX5 := Two.far X4.out hd.2 (by omega); have B5 : Hid (Below w.heap.size w w5) := B4.out.trans (Mem.below_of_but hd.2 (by omega) B4.out.size); obtain ⟨s0, s1, s2, s3, s4⟩ := hT5; obtain ⟨y0, y1, y2, y3, y4⟩ := hX5; clear hd))
  all_goals
    go_wp2
    refine ret_cx2 w.heap.size rfl rfl rfl (x := .int .i64 N) (y := .slice a5 xs.length c5) (by go_simp) (by go_simp) rfl ?_
    exact ⟨N, _, xs, _, rfl, hl, (OwnInts.set (OwnInts.set O5.out _ _ _ (by omega)) _ _ _ (by omega)).lower (by omega), (B5.out.setCell (by simp) _).setCell (by simp) _⟩


end Go.Proofs.Ytpakjcagdnnedaa
