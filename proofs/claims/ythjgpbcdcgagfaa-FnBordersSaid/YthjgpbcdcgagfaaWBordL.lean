/-
  THE WALK of the law on borders (written by genbordlaw.py).
-/
import Derived.Test.YthjgpbcdcgagfaaWBordH
import Derived.Deep.DeepCutAuto
namespace Go.Proofs.Ythjgpbcdcgagfaa
open Go.RowKit
open Sets

set_option maxRecDepth 1000000 in
set_option maxHeartbeats 16000000 in
theorem bord_walk (a : Option Addr) (n c : Nat) (hn : n ≤ 9223372036854775807) (w : World) (hc : Code w a n) :
    Calls Try.prog 3 #[.slice a n c] w fun e w' => e = .returned (.bool true) ∧ Below w.heap.size w w' := by
  have HC := Lib.hid hc
  clear hc
  by_cases hbig : 1048576 < (n : Int)
  · go_enter Try.func3, Try.ntmps3
    go_wp2
    go_ret
    exact ⟨rfl, Below.refl _ _⟩
  go_enter Try.func3, Try.ntmps3
  go_wp2_with (go_at_call 11; go_in)
  refine (drawBorder_any a n c (by omega) _ HC.out).mono ?_
  rintro e w1 ⟨N1, v, x1, k, rfl, hx1, hk0, hk1, hO, hb⟩
  obtain ⟨a1, c1, g1, rfl, hc1, -, hr0, _⟩ := OwnInts.ata hO hb.size
  have hr := hr0.ints
  obtain ⟨l1, hl1⟩ : ∃ l, x1.length = l := ⟨_, rfl⟩
  have HL1 := Lib.hid hl1
  rw [hl1] at hx1 hc1 ⊢
  have hba : Below w1.heap.size w1 (w1.alloc (.cells #[.int .i64 N1, .slice a1 l1 c1] 26)) := (Below.refl _ _).alloc (Nat.le_refl _) _
  have HBW := Lib.hid (hb.trans (hba.mono hb.size))
  have T1 := Lib.hid (Two.new w1 (.int .i64 N1) (.slice a1 l1 c1) 26)
  have I1 := Lib.hid (hr.keeps hba)
  have hwk : IntKind.i64.wrap (k + 1) = k + 1 := IntWalk.i64_in _ (by omega)
  obtain ⟨A, hA⟩ : ∃ A, bordZ N1 x1 k = A := ⟨_, rfl⟩
  obtain ⟨B, hB⟩ : ∃ B, bordZ N1 x1 (k + 1) = B := ⟨_, rfl⟩
  obtain ⟨W, hW⟩ : ∃ z, timesZ A B = z := ⟨_, rfl⟩
  obtain ⟨f, hf⟩ : ∃ b, timesOk A B = b := ⟨_, rfl⟩
  have HP := Lib.hid (bord_law hA hB hW)
  have FA : Hid (FitM A) := by rw [← hA]; exact bordZ_off N1 x1 k
  have FB : Hid (FitM B) := by rw [← hB]; exact bordZ_off N1 x1 (k + 1)
  have FW : Hid (FitM W) := by rw [← hW]; exact timesZ_off A B
  have GA := Lib.hid (fun w h => bordI_h N1 a1 c1 l1 x1 HL1.out hc1 (by omega) k A hA w h)
  have GB := Lib.hid (fun w h => bordI_h N1 a1 c1 l1 x1 HL1.out hc1 (by omega) (k + 1) B hB w h)
  have GS := Lib.hid (fun w h => bordS_h N1 a1 c1 l1 x1 HL1.out (by omega) k A hA w h)
  have GW := Lib.hid (fun (b1 b2 : Nat) (v1 v2 : Value) w h1 h2 => timesI_h (b1 := b1) (b2 := b2) (v1 := v1) (v2 := v2) hW hf FA.out.lim FB.out.lim w h1 h2)
  have HNO := Lib.hid (fun h => times_none hW (hf.trans h))
  clear hO hr0 hr hb hba hl1 hA hB hW hf hk0 hk1 hx1 hc1
  obtain ⟨t0, t1, t2, -, -⟩ := T1.out
  go_wp2_with fail
  refine (GA.out _ I1.out).mono ?_
  rintro e w2 ⟨vA, rfl, hX, hb⟩
  obtain ⟨b1, hb1⟩ : ∃ b1, w1.heap.size = b1 := ⟨_, rfl⟩
  rw [hb1] at T1 ⊢
  replace T1 := Lib.hid (T1.out.keeps hb)
  replace I1 := Lib.hid (I1.out.keeps hb)
  replace HBW := Lib.hid (HBW.out.trans (hb.mono HBW.out.size))
  have XA := Lib.hid hX
  clear hX hb hb1 t0 t1 t2 GA
  obtain ⟨t0, t1, t2, -, -⟩ := T1.out
  go_wp2_with fail
  refine (GB.out _ I1.out).mono ?_
  rintro e w3 ⟨vB, rfl, hX, hb⟩
  replace T1 := Lib.hid (T1.out.keeps hb)
  replace I1 := Lib.hid (I1.out.keeps hb)
  replace XA := Lib.hid (XA.out.keeps hb)
  replace HBW := Lib.hid (HBW.out.trans (hb.mono HBW.out.size))
  have XB := Lib.hid hX
  clear hX hb hwk t0 t1 t2 GB
  go_wp2_with fail
  refine (drawRank_any a n c (by omega) _ (HC.out.keeps HBW.out)).mono ?_
  rintro e w4 ⟨vM, M, p, rfl, hD, hb⟩
  replace T1 := Lib.hid (T1.out.keeps hb)
  replace I1 := Lib.hid (I1.out.keeps hb)
  replace XA := Lib.hid (XA.out.keeps hb)
  replace XB := Lib.hid (XB.out.keeps hb)
  replace HBW := Lib.hid (HBW.out.trans (hb.mono HBW.out.size))
  have LM := Lib.hid (hD.few (by omega))
  have XM := Lib.hid hD.1
  clear hb hD
  obtain ⟨rM, hrM⟩ : ∃ z, rankZ M p = z := ⟨_, rfl⟩
  obtain ⟨tM, htM⟩ : ∃ z, turnZ M = z := ⟨_, rfl⟩
  have FtM : Hid (FitM tM) := by rw [← htM]; exact turnZ_off LM.out
  have HTM : Hid (0 < rM → rankZ tM p = rM) := by
    rw [← htM, ← hrM]; exact fun h => rankZ_turn h
  have GRI := Lib.hid (fun (b : Nat) (v : Value) w h => rankI_h (base := b) (v := v) hrM (few_lim LM.out) w h)
  have GRS := Lib.hid (fun (b : Nat) (v : Value) w h => rankS_h (base := b) (v := v) hrM (few_lim LM.out) w h)
  have GTM := Lib.hid (fun (b : Nat) (v : Value) w h => turnI_h (base := b) (v := v) htM (few_lim LM.out) w h)
  clear hrM htM
  go_wp2_with fail
  refine (drawTurn_any a n c (by omega) _ (HC.out.keeps HBW.out)).mono ?_
  rintro e w5 ⟨vT, T, rfl, hD, hb⟩
  replace T1 := Lib.hid (T1.out.keeps hb)
  replace I1 := Lib.hid (I1.out.keeps hb)
  replace XA := Lib.hid (XA.out.keeps hb)
  replace XB := Lib.hid (XB.out.keeps hb)
  replace XM := Lib.hid (XM.out.keeps hb)
  replace HBW := Lib.hid (HBW.out.trans (hb.mono HBW.out.size))
  have LT := Lib.hid (hD.few (by omega))
  have XT := Lib.hid hD.1
  clear hb hD
  obtain ⟨U, hU⟩ : ∃ z, turnZ T = z := ⟨_, rfl⟩
  have FU : Hid (FitM U) := by rw [← hU]; exact turnZ_off LT.out
  have GUI := Lib.hid (fun (b : Nat) (v : Value) w h => turnI_h (base := b) (v := v) hU (few_lim LT.out) w h)
  have GUS := Lib.hid (fun (b : Nat) (v : Value) w h => turnS_h (base := b) (v := v) hU (few_lim LT.out) w h)
  clear hU
  go_wp2_with fail
  refine (GUI.out _ _ _ XT.out).mono ?_
  rintro e w6 ⟨vU, rfl, hX, hb⟩
  replace T1 := Lib.hid (T1.out.keeps hb)
  replace I1 := Lib.hid (I1.out.keeps hb)
  replace XA := Lib.hid (XA.out.keeps hb)
  replace XB := Lib.hid (XB.out.keeps hb)
  replace XM := Lib.hid (XM.out.keeps hb)
  replace XT := Lib.hid (XT.out.keeps hb)
  replace HBW := Lib.hid (HBW.out.trans (hb.mono HBW.out.size))
  have XU := Lib.hid hX
  clear hX hb GUI
  go_wp2_with fail
  refine (drawTimes_any a n c (by omega) _ (HC.out.keeps HBW.out)).mono ?_
  rintro e w7 ⟨vX, X, vY, Y, rfl, hD, hE, hb⟩
  replace T1 := Lib.hid (T1.out.keeps hb)
  replace I1 := Lib.hid (I1.out.keeps hb)
  replace XA := Lib.hid (XA.out.keeps hb)
  replace XB := Lib.hid (XB.out.keeps hb)
  replace XM := Lib.hid (XM.out.keeps hb)
  replace XT := Lib.hid (XT.out.keeps hb)
  replace XU := Lib.hid (XU.out.keeps hb)
  replace HBW := Lib.hid (HBW.out.trans (hb.mono HBW.out.size))
  have LX := Lib.hid (hD.few (by omega))
  have XX := Lib.hid hD.1
  have LY := Lib.hid (hE.few (by omega))
  have XY := Lib.hid hE.1
  clear hb hD hE
  obtain ⟨Z, hZ⟩ : ∃ B, timesZ X Y = B := ⟨_, rfl⟩
  obtain ⟨g, hg⟩ : ∃ b, timesOk X Y = b := ⟨_, rfl⟩
  obtain ⟨rX, hrX⟩ : ∃ z, rankZ X 3 = z := ⟨_, rfl⟩
  obtain ⟨rZ, hrZ⟩ : ∃ z, rankZ Z 3 = z := ⟨_, rfl⟩
  have FZ : Hid (FitM Z) := by rw [← hZ]; exact timesZ_off X Y
  have HZX : Hid (g = true → rZ ≤ rX ∨ rZ = -1) := by
    have := fun h : g = true => rankZ_times (hg.trans h)
    rw [hZ, hrX, hrZ] at this
    exact this
  have GZI := Lib.hid (fun (b1 b2 : Nat) (v1 v2 : Value) w h1 h2 => timesI_h (b1 := b1) (b2 := b2) (v1 := v1) (v2 := v2) hZ hg (few_lim LX.out) (few_lim LY.out) w h1 h2)
  have GZS := Lib.hid (fun (b1 b2 : Nat) (v1 v2 : Value) w h1 h2 => timesS_h (b1 := b1) (b2 := b2) (v1 := v1) (v2 := v2) hZ hg (few_lim LX.out) (few_lim LY.out) w h1 h2)
  have GRX := Lib.hid (fun (b : Nat) (v : Value) w h => rankI_h (base := b) (v := v) hrX (few_lim LX.out) w h)
  have GRZ := Lib.hid (fun (b : Nat) (v : Value) w h => rankI_h (base := b) (v := v) hrZ FZ.out.lim w h)
  clear hZ hg hrX hrZ
  go_wp2_with fail
  refine (GZI.out _ _ _ _ _ XX.out XY.out).mono ?_
  rintro e w8 ⟨vZ, rfl, hX, hb⟩
  replace T1 := Lib.hid (T1.out.keeps hb)
  replace I1 := Lib.hid (I1.out.keeps hb)
  replace XA := Lib.hid (XA.out.keeps hb)
  replace XB := Lib.hid (XB.out.keeps hb)
  replace XM := Lib.hid (XM.out.keeps hb)
  replace XT := Lib.hid (XT.out.keeps hb)
  replace XU := Lib.hid (XU.out.keeps hb)
  replace XX := Lib.hid (XX.out.keeps hb)
  replace XY := Lib.hid (XY.out.keeps hb)
  replace HBW := Lib.hid (HBW.out.trans (hb.mono HBW.out.size))
  have XZ := Lib.hid hX
  clear hX hb GZI
  go_wp2_with fail
  refine (GZS.out _ _ _ _ _ XX.out XY.out).mono ?_
  rintro e w9 ⟨vV, rfl, hX, hb⟩
  replace T1 := Lib.hid (T1.out.keeps hb)
  replace I1 := Lib.hid (I1.out.keeps hb)
  replace XA := Lib.hid (XA.out.keeps hb)
  replace XB := Lib.hid (XB.out.keeps hb)
  replace XM := Lib.hid (XM.out.keeps hb)
  replace XT := Lib.hid (XT.out.keeps hb)
  replace XU := Lib.hid (XU.out.keeps hb)
  replace XX := Lib.hid (XX.out.keeps hb)
  replace XY := Lib.hid (XY.out.keeps hb)
  replace XZ := Lib.hid (XZ.out.keeps hb)
  replace HBW := Lib.hid (HBW.out.trans (hb.mono HBW.out.size))
  have XV := Lib.hid hX
  clear hX hb GZS
  go_wp2_with fail
  refine (drawInverse_any a n c (by omega) _ (HC.out.keeps HBW.out)).mono ?_
  rintro e w10 ⟨x, q, rfl, hx0, hx1, hb⟩
  replace T1 := Lib.hid (T1.out.keeps hb)
  replace I1 := Lib.hid (I1.out.keeps hb)
  replace XA := Lib.hid (XA.out.keeps hb)
  replace XB := Lib.hid (XB.out.keeps hb)
  replace XM := Lib.hid (XM.out.keeps hb)
  replace XT := Lib.hid (XT.out.keeps hb)
  replace XU := Lib.hid (XU.out.keeps hb)
  replace XX := Lib.hid (XX.out.keeps hb)
  replace XY := Lib.hid (XY.out.keeps hb)
  replace XZ := Lib.hid (XZ.out.keeps hb)
  replace XV := Lib.hid (XV.out.keeps hb)
  replace HBW := Lib.hid (HBW.out.trans (hb.mono HBW.out.size))
  clear hb
  obtain ⟨i, hi⟩ : ∃ z, invZ x q = z := ⟨_, rfl⟩
  have HIL := Lib.hid (fun h : 0 < i => inv_law hi h hx0 hx1)
  have GII := Lib.hid (fun w => invI_h hi w)
  have GIS := Lib.hid (fun w => invS_h hi w)
  clear hi hx0 hx1
  go_wp2_with fail
  refine (drawPrime_any a n c (by omega) _ (HC.out.keeps HBW.out)).mono ?_
  rintro e w11 ⟨⟨r, rfl⟩, hb⟩
  replace T1 := Lib.hid (T1.out.keeps hb)
  replace I1 := Lib.hid (I1.out.keeps hb)
  replace XA := Lib.hid (XA.out.keeps hb)
  replace XB := Lib.hid (XB.out.keeps hb)
  replace XM := Lib.hid (XM.out.keeps hb)
  replace XT := Lib.hid (XT.out.keeps hb)
  replace XU := Lib.hid (XU.out.keeps hb)
  replace XX := Lib.hid (XX.out.keeps hb)
  replace XY := Lib.hid (XY.out.keeps hb)
  replace XZ := Lib.hid (XZ.out.keeps hb)
  replace XV := Lib.hid (XV.out.keeps hb)
  replace HBW := Lib.hid (HBW.out.trans (hb.mono HBW.out.size))
  clear hb
  obtain ⟨s, hs⟩ : ∃ z, primeB r = z := ⟨_, rfl⟩
  have GPI := Lib.hid (fun w => primeI_h hs w)
  have GPS := Lib.hid (fun w => primeS_h hs w)
  clear hs
  obtain ⟨t0, t1, t2, -, -⟩ := T1.out
  go_wp2_with fail
  refine (GS.out _ I1.out).mono ?_
  rintro e w12 ⟨vS, rfl, hX, hb⟩
  replace HBW := Lib.hid (HBW.out.trans (hb.mono HBW.out.size))
  replace XA := Lib.hid (XA.out.keeps hb)
  replace XB := Lib.hid (XB.out.keeps hb)
  replace XM := Lib.hid (XM.out.keeps hb)
  replace XT := Lib.hid (XT.out.keeps hb)
  replace XU := Lib.hid (XU.out.keeps hb)
  replace XX := Lib.hid (XX.out.keeps hb)
  replace XY := Lib.hid (XY.out.keeps hb)
  replace XZ := Lib.hid (XZ.out.keeps hb)
  replace XV := Lib.hid (XV.out.keeps hb)
  have XS := Lib.hid hX
  clear hX hb t0 t1 t2 T1 I1 GS
  go_wp2_with fail
  refine (same_h FA.out _ XA.out XS.out).mono ?_
  rintro e w13 ⟨rfl, hb⟩
  replace XA := Lib.hid (XA.out.keeps hb)
  replace XB := Lib.hid (XB.out.keeps hb)
  replace XM := Lib.hid (XM.out.keeps hb)
  replace XT := Lib.hid (XT.out.keeps hb)
  replace XU := Lib.hid (XU.out.keeps hb)
  replace XX := Lib.hid (XX.out.keeps hb)
  replace XY := Lib.hid (XY.out.keeps hb)
  replace XZ := Lib.hid (XZ.out.keeps hb)
  replace XV := Lib.hid (XV.out.keeps hb)
  replace HBW := Lib.hid (HBW.out.trans (hb.mono HBW.out.size))
  clear hb XS
  go_wp2_with fail
  refine (GRI.out _ _ _ XM.out).mono ?_
  rintro e w14 ⟨rfl, hb⟩
  replace XA := Lib.hid (XA.out.keeps hb)
  replace XB := Lib.hid (XB.out.keeps hb)
  replace XM := Lib.hid (XM.out.keeps hb)
  replace XT := Lib.hid (XT.out.keeps hb)
  replace XU := Lib.hid (XU.out.keeps hb)
  replace XX := Lib.hid (XX.out.keeps hb)
  replace XY := Lib.hid (XY.out.keeps hb)
  replace XZ := Lib.hid (XZ.out.keeps hb)
  replace XV := Lib.hid (XV.out.keeps hb)
  replace HBW := Lib.hid (HBW.out.trans (hb.mono HBW.out.size))
  clear hb 
  go_wp2_with fail
  refine (GRS.out _ _ _ XM.out).mono ?_
  rintro e w15 ⟨rfl, hb⟩
  replace XA := Lib.hid (XA.out.keeps hb)
  replace XB := Lib.hid (XB.out.keeps hb)
  replace XM := Lib.hid (XM.out.keeps hb)
  replace XT := Lib.hid (XT.out.keeps hb)
  replace XU := Lib.hid (XU.out.keeps hb)
  replace XX := Lib.hid (XX.out.keeps hb)
  replace XY := Lib.hid (XY.out.keeps hb)
  replace XZ := Lib.hid (XZ.out.keeps hb)
  replace XV := Lib.hid (XV.out.keeps hb)
  replace HBW := Lib.hid (HBW.out.trans (hb.mono HBW.out.size))
  clear hb GRS
  go_wp2_with fail
  refine (GUS.out _ _ _ XT.out).mono ?_
  rintro e w16 ⟨vR, rfl, hX, hb⟩
  replace XA := Lib.hid (XA.out.keeps hb)
  replace XB := Lib.hid (XB.out.keeps hb)
  replace XM := Lib.hid (XM.out.keeps hb)
  replace XU := Lib.hid (XU.out.keeps hb)
  replace XX := Lib.hid (XX.out.keeps hb)
  replace XY := Lib.hid (XY.out.keeps hb)
  replace XZ := Lib.hid (XZ.out.keeps hb)
  replace XV := Lib.hid (XV.out.keeps hb)
  replace HBW := Lib.hid (HBW.out.trans (hb.mono HBW.out.size))
  have XR := Lib.hid hX
  clear hX hb GUS XT
  go_wp2_with fail
  refine (same_h FU.out _ XU.out XR.out).mono ?_
  rintro e w17 ⟨rfl, hb⟩
  replace XA := Lib.hid (XA.out.keeps hb)
  replace XB := Lib.hid (XB.out.keeps hb)
  replace XM := Lib.hid (XM.out.keeps hb)
  replace XX := Lib.hid (XX.out.keeps hb)
  replace XY := Lib.hid (XY.out.keeps hb)
  replace XZ := Lib.hid (XZ.out.keeps hb)
  replace XV := Lib.hid (XV.out.keeps hb)
  replace HBW := Lib.hid (HBW.out.trans (hb.mono HBW.out.size))
  clear hb XR XU
  go_wp2_with fail
  refine (same_h FZ.out _ XZ.out XV.out).mono ?_
  rintro e w18 ⟨rfl, hb⟩
  replace XA := Lib.hid (XA.out.keeps hb)
  replace XB := Lib.hid (XB.out.keeps hb)
  replace XM := Lib.hid (XM.out.keeps hb)
  replace XX := Lib.hid (XX.out.keeps hb)
  replace XY := Lib.hid (XY.out.keeps hb)
  replace XZ := Lib.hid (XZ.out.keeps hb)
  replace HBW := Lib.hid (HBW.out.trans (hb.mono HBW.out.size))
  clear hb XV
  go_wp2_with fail
  refine (GII.out _).mono ?_
  rintro e w19 ⟨rfl, hb⟩
  replace XA := Lib.hid (XA.out.keeps hb)
  replace XB := Lib.hid (XB.out.keeps hb)
  replace XM := Lib.hid (XM.out.keeps hb)
  replace XX := Lib.hid (XX.out.keeps hb)
  replace XY := Lib.hid (XY.out.keeps hb)
  replace XZ := Lib.hid (XZ.out.keeps hb)
  replace HBW := Lib.hid (HBW.out.trans (hb.mono HBW.out.size))
  clear hb 
  go_wp2_with fail
  refine (GIS.out _).mono ?_
  rintro e w20 ⟨rfl, hb⟩
  replace XA := Lib.hid (XA.out.keeps hb)
  replace XB := Lib.hid (XB.out.keeps hb)
  replace XM := Lib.hid (XM.out.keeps hb)
  replace XX := Lib.hid (XX.out.keeps hb)
  replace XY := Lib.hid (XY.out.keeps hb)
  replace XZ := Lib.hid (XZ.out.keeps hb)
  replace HBW := Lib.hid (HBW.out.trans (hb.mono HBW.out.size))
  clear hb GIS
  go_wp2_with fail
  refine (GPI.out _).mono ?_
  rintro e w21 ⟨rfl, hb⟩
  replace XA := Lib.hid (XA.out.keeps hb)
  replace XB := Lib.hid (XB.out.keeps hb)
  replace XM := Lib.hid (XM.out.keeps hb)
  replace XX := Lib.hid (XX.out.keeps hb)
  replace XY := Lib.hid (XY.out.keeps hb)
  replace XZ := Lib.hid (XZ.out.keeps hb)
  replace HBW := Lib.hid (HBW.out.trans (hb.mono HBW.out.size))
  clear hb GPI
  go_wp2_with fail
  refine (GPS.out _).mono ?_
  rintro e w22 ⟨rfl, hb⟩
  replace XA := Lib.hid (XA.out.keeps hb)
  replace XB := Lib.hid (XB.out.keeps hb)
  replace XM := Lib.hid (XM.out.keeps hb)
  replace XX := Lib.hid (XX.out.keeps hb)
  replace XY := Lib.hid (XY.out.keeps hb)
  replace XZ := Lib.hid (XZ.out.keeps hb)
  replace HBW := Lib.hid (HBW.out.trans (hb.mono HBW.out.size))
  clear hb GPS
  go_wp2_with fail
  refine (GII.out _).mono ?_
  rintro e w23 ⟨rfl, hb⟩
  replace XA := Lib.hid (XA.out.keeps hb)
  replace XB := Lib.hid (XB.out.keeps hb)
  replace XM := Lib.hid (XM.out.keeps hb)
  replace XX := Lib.hid (XX.out.keeps hb)
  replace XY := Lib.hid (XY.out.keeps hb)
  replace XZ := Lib.hid (XZ.out.keeps hb)
  replace HBW := Lib.hid (HBW.out.trans (hb.mono HBW.out.size))
  clear hb GII
  go_upto_region 17 with fail
  go_cut [139] (fun s wx => s = .bool false ∧ Below w23.heap.size w23 wx)
  case first =>
    by_cases h1 : 0 < i
    case neg =>
      have hd1 : decide (0 < i) = false := by simpa using h1
      go_wp2_with fail
      go_meet
      exact ⟨rfl, Below.refl _ _⟩
    obtain ⟨e1, e2, e3, e4, e5, e6⟩ := HIL.out h1
    have hd1 : decide (0 < i) = true := by simpa using h1
    have hq0 : (q = 0) = False := by simp; omega
    have hq1 : decide (q ≤ i) = false := by simp; omega
    clear HIL
    go_wp2_with fail
    go_meet
    exact ⟨rfl, Below.refl _ _⟩
  case rest =>
    obtain ⟨w24, rfl⟩ : ∃ z : World, z = wc := ⟨_, rfl⟩
    obtain ⟨rfl, hb⟩ := hcut
    replace XA := Lib.hid (XA.out.keeps hb)
    replace XB := Lib.hid (XB.out.keeps hb)
    replace XM := Lib.hid (XM.out.keeps hb)
    replace XX := Lib.hid (XX.out.keeps hb)
    replace XY := Lib.hid (XY.out.keeps hb)
    replace XZ := Lib.hid (XZ.out.keeps hb)
    replace HBW := Lib.hid (HBW.out.trans (hb.mono HBW.out.size))
    clear hb HIL
    go_wp2_with fail
    refine (GW.out _ _ _ _ _ XA.out XB.out).mono ?_
    rintro e w25 ⟨v, rfl, ⟨aW, cW, gW, RW, rfl, _, _, hX⟩, hb⟩
    replace XM := Lib.hid (XM.out.keeps hb)
    replace XX := Lib.hid (XX.out.keeps hb)
    replace XY := Lib.hid (XY.out.keeps hb)
    replace XZ := Lib.hid (XZ.out.keeps hb)
    replace HBW := Lib.hid (HBW.out.trans (hb.mono HBW.out.size))
    have XW := Lib.hid hX
    clear hX hb GW XA XB
    obtain ⟨m, hm⟩ : ∃ m, W.length = m := ⟨_, rfl⟩
    have HM := Lib.hid hm
    have hmL : m ≤ 1099511627776 := by rw [← hm]; exact FW.out.1
    rw [hm] at HP HNO ⊢
    clear hm
    go_wp2
    go_loopw [23] (fun iv wr => ∃ k : Nat, k ≤ m ∧ iv = .int .i64 (k : Int) ∧ Below w25.heap.size w25 wr) (fun iv _ => m - (intOf iv).toNat)
    case atStart => exact ⟨0, Nat.zero_le _, rfl, Below.refl _ _⟩
    case round =>
      obtain ⟨k, hk, rfl, hB⟩ := hrel
      have HBR := Lib.hid hB
      clear hB
      by_cases hlt : k < m
      · have hd : decide ((k : Int) < (m : Int)) = true := by simpa using hlt
        have hft : f = true := by
          cases hf : f with
          | true => rfl
          | false => have := HNO.out hf; omega
        subst hft
        have HX := Lib.hid (XW.out.keeps HBR.out)
        have hkM : k < W.length := by rw [HM.out]; exact hlt
        obtain ⟨hao, s8, hci, -⟩ := HX.out.out k hkM
        subst hao
        have hlen := FW.out.lim.2 k hkM
        have HNUM := Lib.hid (fun W2 (hW2 : Below wr.heap.size wr W2) j (hj : j < (Lin.row W k).length) => (HX.out.keeps hW2).ent (i := k) (j := j) hkM hj)
        have HZ := Lib.hid (fun j => HP.out k j hlt)
        obtain ⟨n8, hn8⟩ : ∃ n, (Lin.row W k).length = n := ⟨_, rfl⟩
        rw [hn8] at hci HNUM hlen
        obtain ⟨B8, hB8⟩ : ∃ b, blk RW k = b := ⟨_, rfl⟩
        obtain ⟨C8, hC8⟩ : ∃ b, room RW k = b := ⟨_, rfl⟩
        rw [hB8, hC8] at hci
        rw [hB8] at HNUM
        have HCI := Lib.hid (fun W2 (hW2 : Below wr.heap.size wr W2) => (hW2.cell (p := ⟨gW, k, none⟩) s8).trans hci)
        have hszr := HBR.out.size
        have hk0 : (0 : Int) ≤ (k : Int) := by omega
        have hkz : (k : Int) < (m : Int) := by omega
        clear hn8 hB8 hC8 s8 hkM hci
        go_wp2
        go_loopw [24] (fun z wq => ∃ j : Nat, j ≤ n8 ∧ z = .int .i64 (j : Int) ∧ Below wr.heap.size wr wq) (fun z _ => n8 - (intOf z).toNat)
        case atStart => exact ⟨0, Nat.zero_le _, rfl, Below.refl _ _⟩
        case round =>
          obtain ⟨j, hj, rfl, hB⟩ := hrel
          have HBQ := Lib.hid hB
          clear hB
          have hci := HCI.out _ HBQ.out
          by_cases hjn : j < n8
          · have hdj : decide ((j : Int) < (n8 : Int)) = true := by simpa using hjn
            have hx := HNUM.out _ HBQ.out j hjn
            rw [HZ.out j] at hx
            have hj0 : (0 : Int) ≤ (j : Int) := by omega
            have hjz : (j : Int) < (n8 : Int) := by omega
            go_wp2
            go_roundw
            case rel => exact ⟨j + 1, by omega, by go_num, HBQ.out⟩
            case measure => simp [intOf]; omega
          · have hdj : decide ((j : Int) < (n8 : Int)) = false := by simpa using hjn
            go_wp2
            go_roundw
            case rel => exact ⟨k + 1, by omega, by go_num, HBR.out.trans (HBQ.out.mono hszr)⟩
            case measure => simp [intOf]; omega
      · have hd : decide ((k : Int) < (m : Int)) = false := by simpa using hlt
        replace XM := Lib.hid (XM.out.keeps HBR.out)
        replace XX := Lib.hid (XX.out.keeps HBR.out)
        replace XY := Lib.hid (XY.out.keeps HBR.out)
        replace XZ := Lib.hid (XZ.out.keeps HBR.out)
        replace HBW := Lib.hid (HBW.out.trans (HBR.out.mono HBW.out.size))
        clear HBR XW HP HNO HM
        go_upto_region 28 with fail
        go_cut [185] (fun s wx => s = .bool false ∧ Below wr.heap.size wr wx)
        case first =>
          have HBA := Lib.hid (Below.refl wr.heap.size wr)
          by_cases h1 : 0 < rM
          case neg =>
            have hd1 : decide (0 < rM) = false := by simpa using h1
            go_wp2_with fail
            refine (GRI.out _ _ _ XM.out).mono ?_
            rintro e w30 ⟨rfl, hb⟩
            replace HBA := Lib.hid (HBA.out.trans (hb.mono HBA.out.size))
            clear hb
            go_wp2_with fail
            go_meet
            exact ⟨rfl, HBA.out⟩
          have hd1 : decide (0 < rM) = true := by simpa using h1
          have hrt := HTM.out h1
          have GRT := Lib.hid (fun (b : Nat) (v : Value) w h => rankI_h (base := b) (v := v) hrt FtM.out.lim w h)
          clear hrt h1
          go_wp2_with fail
          refine (GRI.out _ _ _ XM.out).mono ?_
          rintro e w30 ⟨rfl, hb⟩
          replace HBA := Lib.hid (HBA.out.trans (hb.mono HBA.out.size))
          replace XM := Lib.hid (XM.out.keeps hb)
          clear hb
          go_wp2_with fail
          refine (GTM.out _ _ _ XM.out).mono ?_
          rintro e w31 ⟨vQ, rfl, hX, hb⟩
          replace HBA := Lib.hid (HBA.out.trans (hb.mono HBA.out.size))
          replace XM := Lib.hid (XM.out.keeps hb)
          have XQ := Lib.hid hX
          clear hb hX
          go_wp2_with fail
          refine (GRT.out _ _ _ XQ.out).mono ?_
          rintro e w32 ⟨rfl, hb⟩
          replace HBA := Lib.hid (HBA.out.trans (hb.mono HBA.out.size))
          replace XM := Lib.hid (XM.out.keeps hb)
          clear hb
          go_wp2_with fail
          refine (GRI.out _ _ _ XM.out).mono ?_
          rintro e w33 ⟨rfl, hb⟩
          replace HBA := Lib.hid (HBA.out.trans (hb.mono HBA.out.size))
          clear hb
          go_wp2_with fail
          go_meet
          exact ⟨rfl, HBA.out⟩
        case rest =>
          obtain ⟨w34, rfl⟩ : ∃ z : World, z = wc := ⟨_, rfl⟩
          obtain ⟨rfl, hb⟩ := hcut
          replace XX := Lib.hid (XX.out.keeps hb)
          replace XZ := Lib.hid (XZ.out.keeps hb)
          replace HBW := Lib.hid (HBW.out.trans (hb.mono HBW.out.size))
          clear hb XM GRI GTM HTM
          cases hg : g with
          | false =>
            go_wp2
            go_ret
            exact ⟨rfl, HBW.out⟩
          | true =>
            have hzx := HZX.out hg
            clear hg HZX
            by_cases h1 : rZ ≤ rX
            · have hd1 : decide (rZ ≤ rX) = true := by simpa using h1
              go_wp2_with fail
              refine (GRZ.out _ _ _ XZ.out).mono ?_
              rintro e w35 ⟨rfl, hb⟩
              replace XX := Lib.hid (XX.out.keeps hb)
              replace XZ := Lib.hid (XZ.out.keeps hb)
              replace HBW := Lib.hid (HBW.out.trans (hb.mono HBW.out.size))
              clear hb
              go_wp2_with fail
              refine (GRX.out _ _ _ XX.out).mono ?_
              rintro e w36 ⟨rfl, hb⟩
              replace XX := Lib.hid (XX.out.keeps hb)
              replace XZ := Lib.hid (XZ.out.keeps hb)
              replace HBW := Lib.hid (HBW.out.trans (hb.mono HBW.out.size))
              clear hb
              go_wp2
              go_ret
              exact ⟨rfl, HBW.out⟩
            · have hd1 : decide (rZ ≤ rX) = false := by simpa using h1
              obtain rfl : rZ = -1 := by omega
              go_wp2_with fail
              refine (GRZ.out _ _ _ XZ.out).mono ?_
              rintro e w35 ⟨rfl, hb⟩
              replace XX := Lib.hid (XX.out.keeps hb)
              replace XZ := Lib.hid (XZ.out.keeps hb)
              replace HBW := Lib.hid (HBW.out.trans (hb.mono HBW.out.size))
              clear hb
              go_wp2_with fail
              refine (GRX.out _ _ _ XX.out).mono ?_
              rintro e w36 ⟨rfl, hb⟩
              replace XX := Lib.hid (XX.out.keeps hb)
              replace XZ := Lib.hid (XZ.out.keeps hb)
              replace HBW := Lib.hid (HBW.out.trans (hb.mono HBW.out.size))
              clear hb
              go_wp2_with fail
              refine (GRZ.out _ _ _ XZ.out).mono ?_
              rintro e w37 ⟨rfl, hb⟩
              replace XX := Lib.hid (XX.out.keeps hb)
              replace XZ := Lib.hid (XZ.out.keeps hb)
              replace HBW := Lib.hid (HBW.out.trans (hb.mono HBW.out.size))
              clear hb
              go_wp2
              go_ret
              exact ⟨rfl, HBW.out⟩

end Go.Proofs.Ythjgpbcdcgagfaa
