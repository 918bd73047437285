/-
  THE WALK of the law on TimesMatrix: the law's own text; spec's and impl's answers are premises (written by genmm.py).
-/
import Derived.Test.YthjgpbcdcgagfaaRaw
import Derived.Deep.RegionHeld3
namespace Go.Proofs.Ythjgpbcdcgagfaa
open Go.RowKit

set_option maxRecDepth 100000 in
set_option maxHeartbeats 8000000 in
theorem exactTimesMatrix_walk (aa : Option Addr) (ca : Nat) (Ma : Lin.Mat) (ab : Option Addr) (cb : Nat) (Mb : Lin.Mat) (w : World) (N : Lin.Mat) (b0 : Bool) (hlMa : Ma.length ≤ 9223372036854775807) (hrMa : ∀ i, i < Ma.length → (Lin.row Ma i).length ≤ 9223372036854775807) (hmMa : Raw w aa Ma) (hlMb : Mb.length ≤ 9223372036854775807) (hrMb : ∀ i, i < Mb.length → (Lin.row Mb i).length ≤ 9223372036854775807) (hmMb : Raw w ab Mb) (hN : (Ma.length + offM Ma Ma.length) + (Mb.length + offM Mb Mb.length) ≤ 1048576 → N.length ≤ 1099511627776 ∧ 1 + offM N N.length ≤ 1099511627776)
    (hs : ∀ (w : World) (g0 : Nat) (q0 : Option Addr) (d0 : Nat) (R0 : List (Nat × Nat)) (g1 : Nat) (q1 : Option Addr) (d1 : Nat) (R1 : List (Nat × Nat)), (Ma.length + offM Ma Ma.length) + (Mb.length + offM Mb Mb.length) ≤ 1048576 → Mx w g0 q0 R0 Ma → Mx w g1 q1 R1 Mb → Calls Try.prog 19 #[.slice q0 Ma.length d0, .slice q1 Mb.length d1] w fun e w' => ∃ v, e = .returned (.tuple #[v, .bool b0]) ∧ HasMx w' w.heap.size v N ∧ Below w.heap.size w w')
    (hi : ∀ (w : World) (g0 : Nat) (q0 : Option Addr) (d0 : Nat) (R0 : List (Nat × Nat)) (g1 : Nat) (q1 : Option Addr) (d1 : Nat) (R1 : List (Nat × Nat)), (Ma.length + offM Ma Ma.length) + (Mb.length + offM Mb Mb.length) ≤ 1048576 → Mx w g0 q0 R0 Ma → Mx w g1 q1 R1 Mb → Calls Try.prog 18 #[.slice q0 Ma.length d0, .slice q1 Mb.length d1] w fun e w' => ∃ v, e = .returned (.tuple #[v, .bool b0]) ∧ HasMx w' w.heap.size v N ∧ Below w.heap.size w w') :
    Calls Try.prog 10 #[.slice aa Ma.length ca, .slice ab Mb.length cb] w fun e w' => e = .returned (.bool true) ∧ Below w.heap.size w w' := by
  have HS := Lib.hid hs
  have HI := Lib.hid hi
  have HMMa := Lib.hid hmMa
  have HRMa := Lib.hid hrMa
  have HLMa := Lib.hid hlMa
  have HMMb := Lib.hid hmMb
  have HRMb := Lib.hid hrMb
  have HLMb := Lib.hid hlMb
  have HN := Lib.hid hN
  clear hs hi hmMa hrMa hlMa hmMb hrMb hlMb hN
  obtain ⟨SMa, hSMa⟩ : ∃ s, Ma.length + offM Ma Ma.length = s := ⟨_, rfl⟩
  obtain ⟨SMb, hSMb⟩ : ∃ s, Mb.length + offM Mb Mb.length = s := ⟨_, rfl⟩
  go_enter Try.func10, Try.ntmps10
  have hc0 := szMx_any aa ca Ma (1048576) _ (rfl : ((1048576 : Nat) : Int) = _) (by omega) HLMa.out HRMa.out w (HMMa.out)
  rw [hSMa] at hc0
  have HC0 := Lib.hid hc0
  clear hc0
  go_wp2_with fail
  refine HC0.out.mono ?_
  rintro e w0_ ⟨⟨hok0, rfl⟩ | ⟨hok0, rfl⟩, hw0⟩
  case inr =>
    subst hw0
    go_wp2
    go_ret
    exact ⟨rfl, Below.refl _ _⟩
  subst hw0
  have hc1 := szMx_any ab cb Mb ((1048576 - SMa)) _ (rfl : (((1048576 - SMa) : Nat) : Int) = _) (by omega) HLMb.out HRMb.out w (HMMb.out)
  rw [hSMb] at hc1
  have HC1 := Lib.hid hc1
  clear hc1
  go_wp2_with fail
  refine HC1.out.mono ?_
  rintro e w1_ ⟨⟨hok1, rfl⟩ | ⟨hok1, rfl⟩, hw1⟩
  case inr =>
    subst hw1
    go_wp2
    go_ret
    exact ⟨rfl, Below.refl _ _⟩
  subst hw1
  have hok : SMa + SMb ≤ 1048576 := by omega
  have HOK : Hid ((Ma.length + offM Ma Ma.length) + (Mb.length + offM Mb Mb.length) ≤ 1048576) := by
    have : (Ma.length + offM Ma Ma.length) + (Mb.length + offM Mb Mb.length) ≤ 1048576 := by omega
    exact this
  have hszMa : Ma.length ≤ 1048576 := by omega
  have HRSMa : Hid (∀ i, i < Ma.length → (Lin.row Ma i).length ≤ 1048576) := by
    have : ∀ i, i < Ma.length → (Lin.row Ma i).length ≤ 1048576 := fun i hi => by
      have := offM_row Ma i hi
      omega
    exact this
  have HOFMa : Hid (offM Ma Ma.length ≤ 1048576) := by
    have : offM Ma Ma.length ≤ 1048576 := by omega
    exact this
  have hszMb : Mb.length ≤ 1048576 := by omega
  have HRSMb : Hid (∀ i, i < Mb.length → (Lin.row Mb i).length ≤ 1048576) := by
    have : ∀ i, i < Mb.length → (Lin.row Mb i).length ≤ 1048576 := fun i hi => by
      have := offM_row Mb i hi
      omega
    exact this
  have HOFMb : Hid (offM Mb Mb.length ≤ 1048576) := by
    have : offM Mb Mb.length ≤ 1048576 := by omega
    exact this
  have HOK2 := Lib.hid hok
  clear hok hSMa hSMb hok0 hok1
  obtain ⟨hN1, hN2⟩ := HN.out HOK.out
  have HNL := Lib.hid hN1
  have HNO := Lib.hid hN2
  clear hN1 hN2
  have hbb : (b0 != b0) = false := by cases b0 <;> rfl
  go_wp2_with fail
  refine (toMx_any aa ca Ma hszMa HRSMa.out _ (HMMa.out)).mono ?_
  rintro e w1 ⟨vs0, rfl, ⟨as0, cs0, gs0, Rs0, rfl, hos0, hrs0, hMs0⟩, hb1⟩
  have hzw1 : w.heap.size ≤ w1.heap.size := hb1.size
  have Bw1 : Hid (Below w.heap.size w w1) := hb1
  clear hb1
  have Xs0 := Lib.hid hMs0
  have Os0 := Lib.hid hos0
  have Ss0 := Lib.hid hrs0
  clear hMs0 hos0 hrs0
  go_wp2_with fail
  refine (toMx_any ab cb Mb hszMb HRSMb.out _ (HMMb.out.keeps Bw1.out)).mono ?_
  rintro e w2 ⟨vs1, rfl, ⟨as1, cs1, gs1, Rs1, rfl, hos1, hrs1, hMs1⟩, hb2⟩
  have hzw2 : w1.heap.size ≤ w2.heap.size := hb2.size
  have Bw2 : Hid (Below w.heap.size w w2) := Bw1.out.trans (hb2.mono (by first | omega | (have := Bw1.out.size; omega)))
  have Xs0_w2 := Lib.hid (Xs0.out.keeps hb2)
  clear hb2
  have Xs1 := Lib.hid hMs1
  have Os1 := Lib.hid hos1
  have Ss1 := Lib.hid hrs1
  clear hMs1 hos1 hrs1
  go_wp2_with fail
  refine (HS.out _ _ _ _ _ _ _ _ _ HOK.out Xs0_w2.out Xs1.out).mono ?_
  rintro e w3 ⟨vW, rfl, ⟨aW, cW, gW, RW, rfl, hoW, hrW, hMW⟩, hb3⟩
  have hzw3 : w2.heap.size ≤ w3.heap.size := hb3.size
  have Bw3 : Hid (Below w.heap.size w w3) := Bw2.out.trans (hb3.mono (by first | omega | (have := Bw2.out.size; omega)))
  have Xs0_w3 := Lib.hid (Xs0_w2.out.keeps hb3)
  clear Xs0_w2
  have Xs1_w3 := Lib.hid (Xs1.out.keeps hb3)
  clear hb3
  have XW := Lib.hid hMW
  have OW := Lib.hid hoW
  have SW := Lib.hid hrW
  clear hMW hoW hrW
  go_wp2_with fail
  refine (toMx_any aa ca Ma hszMa HRSMa.out _ (HMMa.out.keeps Bw3.out)).mono ?_
  rintro e w4 ⟨vx0, rfl, ⟨ax0, cx0, gx0, Rx0, rfl, hox0, hrx0, hMx0⟩, hb4⟩
  have hzw4 : w3.heap.size ≤ w4.heap.size := hb4.size
  have Bw4 : Hid (Below w.heap.size w w4) := Bw3.out.trans (hb4.mono (by first | omega | (have := Bw3.out.size; omega)))
  have XW_w4 := Lib.hid (XW.out.keeps hb4)
  clear hb4
  have Xx0 := Lib.hid hMx0
  have Ox0 := Lib.hid hox0
  have Sx0 := Lib.hid hrx0
  clear hMx0 hox0 hrx0
  go_wp2_with fail
  refine (toMx_any ab cb Mb hszMb HRSMb.out _ (HMMb.out.keeps Bw4.out)).mono ?_
  rintro e w5 ⟨vx1, rfl, ⟨ax1, cx1, gx1, Rx1, rfl, hox1, hrx1, hMx1⟩, hb5⟩
  have hzw5 : w4.heap.size ≤ w5.heap.size := hb5.size
  have Bw5 : Hid (Below w.heap.size w w5) := Bw4.out.trans (hb5.mono (by first | omega | (have := Bw4.out.size; omega)))
  have XW_w5 := Lib.hid (XW_w4.out.keeps hb5)
  clear XW_w4
  have Xx0_w5 := Lib.hid (Xx0.out.keeps hb5)
  clear hb5
  have Xx1 := Lib.hid hMx1
  have Ox1 := Lib.hid hox1
  have Sx1 := Lib.hid hrx1
  clear hMx1 hox1 hrx1
  go_wp2_with fail
  refine (HI.out _ _ _ _ _ _ _ _ _ HOK.out Xx0_w5.out Xx1.out).mono ?_
  rintro e w6 ⟨vG, rfl, ⟨aG, cG, gG, RG, rfl, hoG, hrG, hMG⟩, hb6⟩
  have hzw6 : w5.heap.size ≤ w6.heap.size := hb6.size
  have Bw6 : Hid (Below w.heap.size w w6) := Bw5.out.trans (hb6.mono (by first | omega | (have := Bw5.out.size; omega)))
  have XW_w6 := Lib.hid (XW_w5.out.keeps hb6)
  clear XW_w5
  have Xx0_w6 := Lib.hid (Xx0_w5.out.keeps hb6)
  clear Xx0_w5
  have Xx1_w6 := Lib.hid (Xx1.out.keeps hb6)
  clear hb6
  have XG := Lib.hid hMG
  have OG := Lib.hid hoG
  have SG := Lib.hid hrG
  clear hMG hoG hrG
  go_wp2_with fail
  refine (eqMx_any _ _ _ _ _ _ _ _ N HNL.out (by have := HNO.out; omega) _ XG.out XW_w6.out).mono ?_
  rintro e w7 ⟨rfl, hb7⟩
  have hzw7 : w6.heap.size ≤ w7.heap.size := hb7.size
  have Bw7 : Hid (Below w.heap.size w w7) := Bw6.out.trans (hb7.mono (by first | omega | (have := Bw6.out.size; omega)))
  have XW_w7 := Lib.hid (XW_w6.out.keeps hb7)
  clear XW_w6
  have Xx0_w7 := Lib.hid (Xx0_w6.out.keeps hb7)
  clear Xx0_w6
  have Xx1_w7 := Lib.hid (Xx1_w6.out.keeps hb7)
  clear Xx1_w6
  have XG_w7 := Lib.hid (XG.out.keeps hb7)
  clear hb7
  go_wp2_with fail
  refine (toMx_any aa ca Ma hszMa HRSMa.out _ (HMMa.out.keeps Bw7.out)).mono ?_
  rintro e w8 ⟨vt0, rfl, ⟨at0, ct0, gt0, Rt0, rfl, hot0, hrt0, hMt0⟩, hb8⟩
  have hzw8 : w7.heap.size ≤ w8.heap.size := hb8.size
  have Bw8 : Hid (Below w.heap.size w w8) := Bw7.out.trans (hb8.mono (by first | omega | (have := Bw7.out.size; omega)))
  have XW_w8 := Lib.hid (XW_w7.out.keeps hb8)
  clear XW_w7
  have Xx0_w8 := Lib.hid (Xx0_w7.out.keeps hb8)
  clear Xx0_w7
  have Xx1_w8 := Lib.hid (Xx1_w7.out.keeps hb8)
  clear Xx1_w7
  have XG_w8 := Lib.hid (XG_w7.out.keeps hb8)
  clear XG_w7
  clear hb8
  have Xt0 := Lib.hid hMt0
  have Ot0 := Lib.hid hot0
  have St0 := Lib.hid hrt0
  clear hMt0 hot0 hrt0
  go_wp2_with fail
  refine (eqMx_any _ _ _ _ _ _ _ _ Ma (by omega) (by have := HOFMa.out; omega) _ Xx0_w8.out Xt0.out).mono ?_
  rintro e w9 ⟨rfl, hb9⟩
  have hzw9 : w8.heap.size ≤ w9.heap.size := hb9.size
  have Bw9 : Hid (Below w.heap.size w w9) := Bw8.out.trans (hb9.mono (by first | omega | (have := Bw8.out.size; omega)))
  have XW_w9 := Lib.hid (XW_w8.out.keeps hb9)
  clear XW_w8
  have Xx0_w9 := Lib.hid (Xx0_w8.out.keeps hb9)
  clear Xx0_w8
  have Xx1_w9 := Lib.hid (Xx1_w8.out.keeps hb9)
  clear Xx1_w8
  have XG_w9 := Lib.hid (XG_w8.out.keeps hb9)
  clear XG_w8
  have Xt0_w9 := Lib.hid (Xt0.out.keeps hb9)
  clear hb9
  go_wp2_with fail
  refine (toMx_any ab cb Mb hszMb HRSMb.out _ (HMMb.out.keeps Bw9.out)).mono ?_
  rintro e w10 ⟨vt1, rfl, ⟨at1, ct1, gt1, Rt1, rfl, hot1, hrt1, hMt1⟩, hb10⟩
  have hzw10 : w9.heap.size ≤ w10.heap.size := hb10.size
  have Bw10 : Hid (Below w.heap.size w w10) := Bw9.out.trans (hb10.mono (by first | omega | (have := Bw9.out.size; omega)))
  have XW_w10 := Lib.hid (XW_w9.out.keeps hb10)
  clear XW_w9
  have Xx0_w10 := Lib.hid (Xx0_w9.out.keeps hb10)
  clear Xx0_w9
  have Xx1_w10 := Lib.hid (Xx1_w9.out.keeps hb10)
  clear Xx1_w9
  have XG_w10 := Lib.hid (XG_w9.out.keeps hb10)
  clear XG_w9
  clear hb10
  have Xt1 := Lib.hid hMt1
  have Ot1 := Lib.hid hot1
  have St1 := Lib.hid hrt1
  clear hMt1 hot1 hrt1
  go_wp2_with fail
  refine (eqMx_any _ _ _ _ _ _ _ _ Mb (by omega) (by have := HOFMb.out; omega) _ Xx1_w10.out Xt1.out).mono ?_
  rintro e w11 ⟨rfl, hb11⟩
  have hzw11 : w10.heap.size ≤ w11.heap.size := hb11.size
  have Bw11 : Hid (Below w.heap.size w w11) := Bw10.out.trans (hb11.mono (by first | omega | (have := Bw10.out.size; omega)))
  have XW_w11 := Lib.hid (XW_w10.out.keeps hb11)
  clear XW_w10
  have Xx0_w11 := Lib.hid (Xx0_w10.out.keeps hb11)
  clear Xx0_w10
  have Xx1_w11 := Lib.hid (Xx1_w10.out.keeps hb11)
  clear Xx1_w10
  have XG_w11 := Lib.hid (XG_w10.out.keeps hb11)
  clear XG_w10
  have Xt1_w11 := Lib.hid (Xt1.out.keeps hb11)
  clear hb11
  go_wp2_with fail
  refine (markMx_any _ _ _ _ Ma (1) _ (by first | rfl | omega) (by omega) (by have := HOFMa.out; have := HOFMa.out; have := HOFMb.out;  omega) _ Xx0_w11.out).mono ?_
  rintro e w12 ⟨rfl, hM12m, hO12⟩
  have hzw12 : w11.heap.size ≤ w12.heap.size := hO12.size
  have XW_w12 := Lib.hid (XW_w11.out.only hO12 (fun h hm => by have q1 := Sx0.out _ hm; have q2 := OW.out h; omega) (fun g hg hm => by have q1 := Sx0.out _ hm; have q2 := SW.out _ hg; omega))
  clear XW_w11
  have Xx1_w12 := Lib.hid (Xx1_w11.out.only hO12 (fun h hm => by have q1 := Sx0.out _ hm; have q2 := Ox1.out h; omega) (fun g hg hm => by have q1 := Sx0.out _ hm; have q2 := Sx1.out _ hg; omega))
  clear Xx1_w11
  have XG_w12 := Lib.hid (XG_w11.out.only hO12 (fun h hm => by have q1 := Sx0.out _ hm; have q2 := OG.out h; omega) (fun g hg hm => by have q1 := Sx0.out _ hm; have q2 := SG.out _ hg; omega))
  clear XG_w11
  have Bw12 : Hid (Below w.heap.size w w12) := Bw11.out.trans (hO12.below (B := w.heap.size) (fun g hg => by have := Sx0.out _ hg; omega) (by omega))
  clear hM12m hO12
  obtain ⟨u12, hu12⟩ : ∃ t, 1 + offM Ma Ma.length = t := ⟨_, rfl⟩
  have HU12 := Lib.hid hu12
  rw [hu12]
  have hn12 : u12 ≤ 3000000 := by have := HOFMa.out; have := HOFMb.out;  omega
  clear hu12
  go_wp2_with fail
  refine (markMx_any _ _ _ _ Mb (u12) _ (by first | rfl | omega) (by omega) (by have := HOFMb.out; have := HOFMa.out; have := HOFMb.out;  omega) _ Xx1_w12.out).mono ?_
  rintro e w13 ⟨rfl, hM13m, hO13⟩
  have hzw13 : w12.heap.size ≤ w13.heap.size := hO13.size
  have XW_w13 := Lib.hid (XW_w12.out.only hO13 (fun h hm => by have q1 := Sx1.out _ hm; have q2 := OW.out h; omega) (fun g hg hm => by have q1 := Sx1.out _ hm; have q2 := SW.out _ hg; omega))
  clear XW_w12
  have XG_w13 := Lib.hid (XG_w12.out.only hO13 (fun h hm => by have q1 := Sx1.out _ hm; have q2 := OG.out h; omega) (fun g hg hm => by have q1 := Sx1.out _ hm; have q2 := SG.out _ hg; omega))
  clear XG_w12
  have Bw13 : Hid (Below w.heap.size w w13) := Bw12.out.trans (hO13.below (B := w.heap.size) (fun g hg => by have := Sx1.out _ hg; omega) (by omega))
  clear hM13m hO13
  obtain ⟨u13, hu13⟩ : ∃ t, u12 + offM Mb Mb.length = t := ⟨_, rfl⟩
  have HU13 := Lib.hid hu13
  rw [hu13]
  have hn13 : u13 ≤ 3000000 := by have := HOFMa.out; have := HOFMb.out; have := HU12.out;  omega
  clear hu13
  have hneg : decide ((u13 : Int) < 0) = false := by simp
  go_wp2_with fail
  refine (eqMx_any _ _ _ _ _ _ _ _ N HNL.out (by have := HNO.out; omega) _ XG_w13.out XW_w13.out).mono ?_
  rintro e w14 ⟨rfl, hb14⟩
  have hzw14 : w13.heap.size ≤ w14.heap.size := hb14.size
  have Bw14 : Hid (Below w.heap.size w w14) := Bw13.out.trans (hb14.mono (by first | omega | (have := Bw13.out.size; omega)))
  have XW_w14 := Lib.hid (XW_w13.out.keeps hb14)
  clear XW_w13
  have XG_w14 := Lib.hid (XG_w13.out.keeps hb14)
  clear XG_w13
  clear hb14
  go_wp2_with fail
  refine (markMx_any _ _ _ _ N 1 _ rfl HNL.out HNO.out _ XG_w14.out).mono ?_
  rintro e w15 ⟨rfl, hMm, hOm⟩
  have hzw15 : w14.heap.size ≤ w15.heap.size := hOm.size
  have XW_w15 := Lib.hid (XW_w14.out.only hOm (fun h hm => by have q1 := SG.out _ hm; have q2 := OW.out h; omega) (fun g hg hm => by have q1 := SG.out _ hm; have q2 := SW.out _ hg; omega))
  clear XW_w14
  have XG_w15 := Lib.hid hMm
  clear XG_w14
  have Bw15 : Hid (Below w.heap.size w w15) := Bw14.out.trans (hOm.below (B := w.heap.size) (fun g hg => by have := SG.out _ hg; omega) (by omega))
  clear hMm hOm
  obtain ⟨t, ht⟩ : ∃ t, 1 + offM N N.length = t := ⟨_, rfl⟩
  have HT := Lib.hid ht
  rw [ht]
  clear ht
  go_wp2_with fail
  refine (heldMx_any _ _ _ _ N 1 _ rfl HNL.out HNO.out _ XG_w15.out).mono ?_
  rintro e w16 ⟨rfl, hb16⟩
  have hzw16 : w15.heap.size ≤ w16.heap.size := hb16.size
  have Bw16 : Hid (Below w.heap.size w w16) := Bw15.out.trans (hb16.mono (by first | omega | (have := Bw15.out.size; omega)))
  have XW_w16 := Lib.hid (XW_w15.out.keeps hb16)
  clear XW_w15
  have XG_w16 := Lib.hid (XG_w15.out.keeps hb16)
  clear XG_w15
  clear hb16
  rw [HT.out]
  have hneg2 : decide ((t : Int) < 0) = false := by simp
  go_wp2_with fail
  refine (toMx_any aa ca Ma hszMa HRSMa.out _ (HMMa.out.keeps Bw16.out)).mono ?_
  rintro e w17 ⟨vh0, rfl, ⟨ah0, ch0, gh0, Rh0, rfl, hoh0, hrh0, hMh0⟩, hb17⟩
  have hzw17 : w16.heap.size ≤ w17.heap.size := hb17.size
  have Bw17 : Hid (Below w.heap.size w w17) := Bw16.out.trans (hb17.mono (by first | omega | (have := Bw16.out.size; omega)))
  have XW_w17 := Lib.hid (XW_w16.out.keeps hb17)
  clear XW_w16
  have XG_w17 := Lib.hid (XG_w16.out.keeps hb17)
  clear XG_w16
  clear hb17
  have Xh0 := Lib.hid hMh0
  have Oh0 := Lib.hid hoh0
  have Sh0 := Lib.hid hrh0
  clear hMh0 hoh0 hrh0
  go_wp2_with fail
  refine (toMx_any ab cb Mb hszMb HRSMb.out _ (HMMb.out.keeps Bw17.out)).mono ?_
  rintro e w18 ⟨vh1, rfl, ⟨ah1, ch1, gh1, Rh1, rfl, hoh1, hrh1, hMh1⟩, hb18⟩
  have hzw18 : w17.heap.size ≤ w18.heap.size := hb18.size
  have Bw18 : Hid (Below w.heap.size w w18) := Bw17.out.trans (hb18.mono (by first | omega | (have := Bw17.out.size; omega)))
  have XW_w18 := Lib.hid (XW_w17.out.keeps hb18)
  clear XW_w17
  have XG_w18 := Lib.hid (XG_w17.out.keeps hb18)
  clear XG_w17
  have Xh0_w18 := Lib.hid (Xh0.out.keeps hb18)
  clear hb18
  have Xh1 := Lib.hid hMh1
  have Oh1 := Lib.hid hoh1
  have Sh1 := Lib.hid hrh1
  clear hMh1 hoh1 hrh1
  go_wp2_with fail
  refine (HI.out _ _ _ _ _ _ _ _ _ HOK.out Xh0_w18.out Xh1.out).mono ?_
  rintro e w19 ⟨vH, rfl, ⟨aH, cH, gH, RH, rfl, hoH, hrH, hMH⟩, hb19⟩
  have hzw19 : w18.heap.size ≤ w19.heap.size := hb19.size
  have Bw19 : Hid (Below w.heap.size w w19) := Bw18.out.trans (hb19.mono (by first | omega | (have := Bw18.out.size; omega)))
  have XW_w19 := Lib.hid (XW_w18.out.keeps hb19)
  clear XW_w18
  have XG_w19 := Lib.hid (XG_w18.out.keeps hb19)
  clear XG_w18
  have Xh0_w19 := Lib.hid (Xh0_w18.out.keeps hb19)
  clear Xh0_w18
  have Xh1_w19 := Lib.hid (Xh1.out.keeps hb19)
  clear hb19
  have XH := Lib.hid hMH
  have OH := Lib.hid hoH
  have SH := Lib.hid hrH
  clear hMH hoH hrH
  go_wp2_with fail
  refine (eqMx_any _ _ _ _ _ _ _ _ N HNL.out (by have := HNO.out; omega) _ XH.out XW_w19.out).mono ?_
  rintro e w20 ⟨rfl, hb20⟩
  have hzw20 : w19.heap.size ≤ w20.heap.size := hb20.size
  have Bw20 : Hid (Below w.heap.size w w20) := Bw19.out.trans (hb20.mono (by first | omega | (have := Bw19.out.size; omega)))
  have XW_w20 := Lib.hid (XW_w19.out.keeps hb20)
  clear XW_w19
  have XG_w20 := Lib.hid (XG_w19.out.keeps hb20)
  clear XG_w19
  have XH_w20 := Lib.hid (XH.out.keeps hb20)
  clear hb20
  go_wp2_with fail
  refine (heldMx_any _ _ _ _ N 1 _ rfl HNL.out HNO.out _ XG_w20.out).mono ?_
  rintro e w21 ⟨rfl, hb21⟩
  have hzw21 : w20.heap.size ≤ w21.heap.size := hb21.size
  have Bw21 : Hid (Below w.heap.size w w21) := Bw20.out.trans (hb21.mono (by first | omega | (have := Bw20.out.size; omega)))
  have XW_w21 := Lib.hid (XW_w20.out.keeps hb21)
  clear XW_w20
  have XG_w21 := Lib.hid (XG_w20.out.keeps hb21)
  clear XG_w20
  have XH_w21 := Lib.hid (XH_w20.out.keeps hb21)
  clear XH_w20
  clear hb21
  rw [HT.out]
  go_wp2
  go_ret
  exact ⟨rfl, Bw21.out⟩

end Go.Proofs.Ythjgpbcdcgagfaa
