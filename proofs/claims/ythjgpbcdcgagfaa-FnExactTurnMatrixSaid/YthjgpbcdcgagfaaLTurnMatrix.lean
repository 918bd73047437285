/-
  THE WALK of the law on TurnMatrix: the law's own text; spec's and impl's answers are premises (written by genmm.py).
-/
import Derived.Test.YthjgpbcdcgagfaaRaw
import Derived.Deep.RegionHeld3
namespace Go.Proofs.Ythjgpbcdcgagfaa
open Go.RowKit

set_option maxRecDepth 100000 in
set_option maxHeartbeats 8000000 in
theorem exactTurnMatrix_walk (aa : Option Addr) (ca : Nat) (Ma : Lin.Mat) (w : World) (N : Lin.Mat) (hlMa : Ma.length ≤ 9223372036854775807) (hrMa : ∀ i, i < Ma.length → (Lin.row Ma i).length ≤ 9223372036854775807) (hmMa : Raw w aa Ma) (hN : (Ma.length + offM Ma Ma.length) ≤ 1048576 → N.length ≤ 1099511627776 ∧ 1 + offM N N.length ≤ 1099511627776)
    (hs : ∀ (w : World) (g0 : Nat) (q0 : Option Addr) (d0 : Nat) (R0 : List (Nat × Nat)), (Ma.length + offM Ma Ma.length) ≤ 1048576 → Mx w g0 q0 R0 Ma → Calls Try.prog 26 #[.slice q0 Ma.length d0] w fun e w' => ∃ v, e = .returned v ∧ HasMx w' w.heap.size v N ∧ Below w.heap.size w w')
    (hi : ∀ (w : World) (g0 : Nat) (q0 : Option Addr) (d0 : Nat) (R0 : List (Nat × Nat)), (Ma.length + offM Ma Ma.length) ≤ 1048576 → Mx w g0 q0 R0 Ma → Calls Try.prog 16 #[.slice q0 Ma.length d0] w fun e w' => ∃ v, e = .returned v ∧ HasMx w' w.heap.size v N ∧ Below w.heap.size w w') :
    Calls Try.prog 9 #[.slice aa Ma.length ca] w fun e w' => e = .returned (.bool true) ∧ Below w.heap.size w w' := by
  have HS := Lib.hid hs
  have HI := Lib.hid hi
  have HMMa := Lib.hid hmMa
  have HRMa := Lib.hid hrMa
  have HLMa := Lib.hid hlMa
  have HN := Lib.hid hN
  clear hs hi hmMa hrMa hlMa hN
  obtain ⟨SMa, hSMa⟩ : ∃ s, Ma.length + offM Ma Ma.length = s := ⟨_, rfl⟩
  go_enter Try.func9, Try.ntmps9
  have hc0 := szMx_any aa ca Ma (1048576) _ (rfl : ((1048576 : Nat) : Int) = _) (by omega) HLMa.out HRMa.out w (HMMa.out)
  rw [hSMa] at hc0
  have HC0 := Lib.hid hc0
  clear hc0
  go_wp2_with fail
  refine HC0.out.mono ?_
  rintro e w0_ ⟨⟨hok0, rfl⟩ | ⟨hok0, rfl⟩, hw0⟩
  case inr =>
    subst hw0
    go_wp2
    go_ret
    exact ⟨rfl, Below.refl _ _⟩
  subst hw0
  have hok : SMa ≤ 1048576 := by omega
  have HOK : Hid ((Ma.length + offM Ma Ma.length) ≤ 1048576) := by
    have : (Ma.length + offM Ma Ma.length) ≤ 1048576 := by omega
    exact this
  have hszMa : Ma.length ≤ 1048576 := by omega
  have HRSMa : Hid (∀ i, i < Ma.length → (Lin.row Ma i).length ≤ 1048576) := by
    have : ∀ i, i < Ma.length → (Lin.row Ma i).length ≤ 1048576 := fun i hi => by
      have := offM_row Ma i hi
      omega
    exact this
  have HOFMa : Hid (offM Ma Ma.length ≤ 1048576) := by
    have : offM Ma Ma.length ≤ 1048576 := by omega
    exact this
  have HOK2 := Lib.hid hok
  clear hok hSMa hok0
  obtain ⟨hN1, hN2⟩ := HN.out HOK.out
  have HNL := Lib.hid hN1
  have HNO := Lib.hid hN2
  clear hN1 hN2
  go_wp2_with fail
  refine (toMx_any aa ca Ma hszMa HRSMa.out _ (HMMa.out)).mono ?_
  rintro e w1 ⟨vs0, rfl, ⟨as0, cs0, gs0, Rs0, rfl, hos0, hrs0, hMs0⟩, hb1⟩
  have hzw1 : w.heap.size ≤ w1.heap.size := hb1.size
  have Bw1 : Hid (Below w.heap.size w w1) := hb1
  clear hb1
  have Xs0 := Lib.hid hMs0
  have Os0 := Lib.hid hos0
  have Ss0 := Lib.hid hrs0
  clear hMs0 hos0 hrs0
  go_wp2_with fail
  refine (HS.out _ _ _ _ _ HOK.out Xs0.out).mono ?_
  rintro e w2 ⟨vW, rfl, ⟨aW, cW, gW, RW, rfl, hoW, hrW, hMW⟩, hb2⟩
  have hzw2 : w1.heap.size ≤ w2.heap.size := hb2.size
  have Bw2 : Hid (Below w.heap.size w w2) := Bw1.out.trans (hb2.mono (by first | omega | (have := Bw1.out.size; omega)))
  have Xs0_w2 := Lib.hid (Xs0.out.keeps hb2)
  clear hb2
  have XW := Lib.hid hMW
  have OW := Lib.hid hoW
  have SW := Lib.hid hrW
  clear hMW hoW hrW
  go_wp2_with fail
  refine (toMx_any aa ca Ma hszMa HRSMa.out _ (HMMa.out.keeps Bw2.out)).mono ?_
  rintro e w3 ⟨vx0, rfl, ⟨ax0, cx0, gx0, Rx0, rfl, hox0, hrx0, hMx0⟩, hb3⟩
  have hzw3 : w2.heap.size ≤ w3.heap.size := hb3.size
  have Bw3 : Hid (Below w.heap.size w w3) := Bw2.out.trans (hb3.mono (by first | omega | (have := Bw2.out.size; omega)))
  have XW_w3 := Lib.hid (XW.out.keeps hb3)
  clear hb3
  have Xx0 := Lib.hid hMx0
  have Ox0 := Lib.hid hox0
  have Sx0 := Lib.hid hrx0
  clear hMx0 hox0 hrx0
  go_wp2_with fail
  refine (HI.out _ _ _ _ _ HOK.out Xx0.out).mono ?_
  rintro e w4 ⟨vG, rfl, ⟨aG, cG, gG, RG, rfl, hoG, hrG, hMG⟩, hb4⟩
  have hzw4 : w3.heap.size ≤ w4.heap.size := hb4.size
  have Bw4 : Hid (Below w.heap.size w w4) := Bw3.out.trans (hb4.mono (by first | omega | (have := Bw3.out.size; omega)))
  have XW_w4 := Lib.hid (XW_w3.out.keeps hb4)
  clear XW_w3
  have Xx0_w4 := Lib.hid (Xx0.out.keeps hb4)
  clear hb4
  have XG := Lib.hid hMG
  have OG := Lib.hid hoG
  have SG := Lib.hid hrG
  clear hMG hoG hrG
  go_wp2_with fail
  refine (eqMx_any _ _ _ _ _ _ _ _ N HNL.out (by have := HNO.out; omega) _ XG.out XW_w4.out).mono ?_
  rintro e w5 ⟨rfl, hb5⟩
  have hzw5 : w4.heap.size ≤ w5.heap.size := hb5.size
  have Bw5 : Hid (Below w.heap.size w w5) := Bw4.out.trans (hb5.mono (by first | omega | (have := Bw4.out.size; omega)))
  have XW_w5 := Lib.hid (XW_w4.out.keeps hb5)
  clear XW_w4
  have Xx0_w5 := Lib.hid (Xx0_w4.out.keeps hb5)
  clear Xx0_w4
  have XG_w5 := Lib.hid (XG.out.keeps hb5)
  clear hb5
  go_wp2_with fail
  refine (toMx_any aa ca Ma hszMa HRSMa.out _ (HMMa.out.keeps Bw5.out)).mono ?_
  rintro e w6 ⟨vt0, rfl, ⟨at0, ct0, gt0, Rt0, rfl, hot0, hrt0, hMt0⟩, hb6⟩
  have hzw6 : w5.heap.size ≤ w6.heap.size := hb6.size
  have Bw6 : Hid (Below w.heap.size w w6) := Bw5.out.trans (hb6.mono (by first | omega | (have := Bw5.out.size; omega)))
  have XW_w6 := Lib.hid (XW_w5.out.keeps hb6)
  clear XW_w5
  have Xx0_w6 := Lib.hid (Xx0_w5.out.keeps hb6)
  clear Xx0_w5
  have XG_w6 := Lib.hid (XG_w5.out.keeps hb6)
  clear XG_w5
  clear hb6
  have Xt0 := Lib.hid hMt0
  have Ot0 := Lib.hid hot0
  have St0 := Lib.hid hrt0
  clear hMt0 hot0 hrt0
  go_wp2_with fail
  refine (eqMx_any _ _ _ _ _ _ _ _ Ma (by omega) (by have := HOFMa.out; omega) _ Xx0_w6.out Xt0.out).mono ?_
  rintro e w7 ⟨rfl, hb7⟩
  have hzw7 : w6.heap.size ≤ w7.heap.size := hb7.size
  have Bw7 : Hid (Below w.heap.size w w7) := Bw6.out.trans (hb7.mono (by first | omega | (have := Bw6.out.size; omega)))
  have XW_w7 := Lib.hid (XW_w6.out.keeps hb7)
  clear XW_w6
  have Xx0_w7 := Lib.hid (Xx0_w6.out.keeps hb7)
  clear Xx0_w6
  have XG_w7 := Lib.hid (XG_w6.out.keeps hb7)
  clear XG_w6
  have Xt0_w7 := Lib.hid (Xt0.out.keeps hb7)
  clear hb7
  go_wp2_with fail
  refine (markMx_any _ _ _ _ Ma (1) _ (by first | rfl | omega) (by omega) (by have := HOFMa.out; have := HOFMa.out;  omega) _ Xx0_w7.out).mono ?_
  rintro e w8 ⟨rfl, hM8m, hO8⟩
  have hzw8 : w7.heap.size ≤ w8.heap.size := hO8.size
  have XW_w8 := Lib.hid (XW_w7.out.only hO8 (fun h hm => by have q1 := Sx0.out _ hm; have q2 := OW.out h; omega) (fun g hg hm => by have q1 := Sx0.out _ hm; have q2 := SW.out _ hg; omega))
  clear XW_w7
  have XG_w8 := Lib.hid (XG_w7.out.only hO8 (fun h hm => by have q1 := Sx0.out _ hm; have q2 := OG.out h; omega) (fun g hg hm => by have q1 := Sx0.out _ hm; have q2 := SG.out _ hg; omega))
  clear XG_w7
  have Bw8 : Hid (Below w.heap.size w w8) := Bw7.out.trans (hO8.below (B := w.heap.size) (fun g hg => by have := Sx0.out _ hg; omega) (by omega))
  clear hM8m hO8
  obtain ⟨u8, hu8⟩ : ∃ t, 1 + offM Ma Ma.length = t := ⟨_, rfl⟩
  have HU8 := Lib.hid hu8
  rw [hu8]
  have hn8 : u8 ≤ 3000000 := by have := HOFMa.out;  omega
  clear hu8
  have hneg : decide ((u8 : Int) < 0) = false := by simp
  go_wp2_with fail
  refine (eqMx_any _ _ _ _ _ _ _ _ N HNL.out (by have := HNO.out; omega) _ XG_w8.out XW_w8.out).mono ?_
  rintro e w9 ⟨rfl, hb9⟩
  have hzw9 : w8.heap.size ≤ w9.heap.size := hb9.size
  have Bw9 : Hid (Below w.heap.size w w9) := Bw8.out.trans (hb9.mono (by first | omega | (have := Bw8.out.size; omega)))
  have XW_w9 := Lib.hid (XW_w8.out.keeps hb9)
  clear XW_w8
  have XG_w9 := Lib.hid (XG_w8.out.keeps hb9)
  clear XG_w8
  clear hb9
  go_wp2_with fail
  refine (markMx_any _ _ _ _ N 1 _ rfl HNL.out HNO.out _ XG_w9.out).mono ?_
  rintro e w10 ⟨rfl, hMm, hOm⟩
  have hzw10 : w9.heap.size ≤ w10.heap.size := hOm.size
  have XW_w10 := Lib.hid (XW_w9.out.only hOm (fun h hm => by have q1 := SG.out _ hm; have q2 := OW.out h; omega) (fun g hg hm => by have q1 := SG.out _ hm; have q2 := SW.out _ hg; omega))
  clear XW_w9
  have XG_w10 := Lib.hid hMm
  clear XG_w9
  have Bw10 : Hid (Below w.heap.size w w10) := Bw9.out.trans (hOm.below (B := w.heap.size) (fun g hg => by have := SG.out _ hg; omega) (by omega))
  clear hMm hOm
  obtain ⟨t, ht⟩ : ∃ t, 1 + offM N N.length = t := ⟨_, rfl⟩
  have HT := Lib.hid ht
  rw [ht]
  clear ht
  go_wp2_with fail
  refine (heldMx_any _ _ _ _ N 1 _ rfl HNL.out HNO.out _ XG_w10.out).mono ?_
  rintro e w11 ⟨rfl, hb11⟩
  have hzw11 : w10.heap.size ≤ w11.heap.size := hb11.size
  have Bw11 : Hid (Below w.heap.size w w11) := Bw10.out.trans (hb11.mono (by first | omega | (have := Bw10.out.size; omega)))
  have XW_w11 := Lib.hid (XW_w10.out.keeps hb11)
  clear XW_w10
  have XG_w11 := Lib.hid (XG_w10.out.keeps hb11)
  clear XG_w10
  clear hb11
  rw [HT.out]
  have hneg2 : decide ((t : Int) < 0) = false := by simp
  go_wp2_with fail
  refine (toMx_any aa ca Ma hszMa HRSMa.out _ (HMMa.out.keeps Bw11.out)).mono ?_
  rintro e w12 ⟨vh0, rfl, ⟨ah0, ch0, gh0, Rh0, rfl, hoh0, hrh0, hMh0⟩, hb12⟩
  have hzw12 : w11.heap.size ≤ w12.heap.size := hb12.size
  have Bw12 : Hid (Below w.heap.size w w12) := Bw11.out.trans (hb12.mono (by first | omega | (have := Bw11.out.size; omega)))
  have XW_w12 := Lib.hid (XW_w11.out.keeps hb12)
  clear XW_w11
  have XG_w12 := Lib.hid (XG_w11.out.keeps hb12)
  clear XG_w11
  clear hb12
  have Xh0 := Lib.hid hMh0
  have Oh0 := Lib.hid hoh0
  have Sh0 := Lib.hid hrh0
  clear hMh0 hoh0 hrh0
  go_wp2_with fail
  refine (HI.out _ _ _ _ _ HOK.out Xh0.out).mono ?_
  rintro e w13 ⟨vH, rfl, ⟨aH, cH, gH, RH, rfl, hoH, hrH, hMH⟩, hb13⟩
  have hzw13 : w12.heap.size ≤ w13.heap.size := hb13.size
  have Bw13 : Hid (Below w.heap.size w w13) := Bw12.out.trans (hb13.mono (by first | omega | (have := Bw12.out.size; omega)))
  have XW_w13 := Lib.hid (XW_w12.out.keeps hb13)
  clear XW_w12
  have XG_w13 := Lib.hid (XG_w12.out.keeps hb13)
  clear XG_w12
  have Xh0_w13 := Lib.hid (Xh0.out.keeps hb13)
  clear hb13
  have XH := Lib.hid hMH
  have OH := Lib.hid hoH
  have SH := Lib.hid hrH
  clear hMH hoH hrH
  go_wp2_with fail
  refine (eqMx_any _ _ _ _ _ _ _ _ N HNL.out (by have := HNO.out; omega) _ XH.out XW_w13.out).mono ?_
  rintro e w14 ⟨rfl, hb14⟩
  have hzw14 : w13.heap.size ≤ w14.heap.size := hb14.size
  have Bw14 : Hid (Below w.heap.size w w14) := Bw13.out.trans (hb14.mono (by first | omega | (have := Bw13.out.size; omega)))
  have XW_w14 := Lib.hid (XW_w13.out.keeps hb14)
  clear XW_w13
  have XG_w14 := Lib.hid (XG_w13.out.keeps hb14)
  clear XG_w13
  have XH_w14 := Lib.hid (XH.out.keeps hb14)
  clear hb14
  go_wp2_with fail
  refine (heldMx_any _ _ _ _ N 1 _ rfl HNL.out HNO.out _ XG_w14.out).mono ?_
  rintro e w15 ⟨rfl, hb15⟩
  have hzw15 : w14.heap.size ≤ w15.heap.size := hb15.size
  have Bw15 : Hid (Below w.heap.size w w15) := Bw14.out.trans (hb15.mono (by first | omega | (have := Bw14.out.size; omega)))
  have XW_w15 := Lib.hid (XW_w14.out.keeps hb15)
  clear XW_w14
  have XG_w15 := Lib.hid (XG_w14.out.keeps hb15)
  clear XG_w14
  have XH_w15 := Lib.hid (XH_w14.out.keeps hb15)
  clear XH_w14
  clear hb15
  rw [HT.out]
  go_wp2
  go_ret
  exact ⟨rfl, Bw15.out⟩

end Go.Proofs.Ythjgpbcdcgagfaa
