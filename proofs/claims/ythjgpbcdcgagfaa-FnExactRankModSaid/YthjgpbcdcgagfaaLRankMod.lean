/-
  THE WALK of the law on RankMod: the law's own text; spec's and impl's answers are premises (written by genmm.py).
-/
import Derived.Test.YthjgpbcdcgagfaaRaw
import Derived.Deep.RegionHeld3
namespace Go.Proofs.Ythjgpbcdcgagfaa
open Go.RowKit

set_option maxRecDepth 100000 in
set_option maxHeartbeats 8000000 in
theorem exactRankMod_walk (aa : Option Addr) (ca : Nat) (Ma : Lin.Mat) (zb : Int) (w : World) (r0 : Int) (hlMa : Ma.length ≤ 9223372036854775807) (hrMa : ∀ i, i < Ma.length → (Lin.row Ma i).length ≤ 9223372036854775807) (hmMa : Raw w aa Ma)
    (hs : ∀ (w : World) (g0 : Nat) (q0 : Option Addr) (d0 : Nat) (R0 : List (Nat × Nat)), (Ma.length + offM Ma Ma.length) ≤ 1048576 → Mx w g0 q0 R0 Ma → Calls Try.prog 25 #[.slice q0 Ma.length d0, .int .i64 zb] w fun e w' => e = .returned (.int .i64 r0) ∧ Below w.heap.size w w')
    (hi : ∀ (w : World) (g0 : Nat) (q0 : Option Addr) (d0 : Nat) (R0 : List (Nat × Nat)), (Ma.length + offM Ma Ma.length) ≤ 1048576 → Mx w g0 q0 R0 Ma → Calls Try.prog 24 #[.slice q0 Ma.length d0, .int .i64 zb] w fun e w' => e = .returned (.int .i64 r0) ∧ Below w.heap.size w w') :
    Calls Try.prog 8 #[.slice aa Ma.length ca, .int .i64 zb] w fun e w' => e = .returned (.bool true) ∧ Below w.heap.size w w' := by
  have HS := Lib.hid hs
  have HI := Lib.hid hi
  have HMMa := Lib.hid hmMa
  have HRMa := Lib.hid hrMa
  have HLMa := Lib.hid hlMa
  clear hs hi hmMa hrMa hlMa
  obtain ⟨SMa, hSMa⟩ : ∃ s, Ma.length + offM Ma Ma.length = s := ⟨_, rfl⟩
  go_enter Try.func8, Try.ntmps8
  have hc0 := szMx_any aa ca Ma (1048576) _ (rfl : ((1048576 : Nat) : Int) = _) (by omega) HLMa.out HRMa.out w (HMMa.out)
  rw [hSMa] at hc0
  have HC0 := Lib.hid hc0
  clear hc0
  go_wp2_with fail
  refine HC0.out.mono ?_
  rintro e w0_ ⟨⟨hok0, rfl⟩ | ⟨hok0, rfl⟩, hw0⟩
  case inr =>
    subst hw0
    go_wp2
    go_ret
    exact ⟨rfl, Below.refl _ _⟩
  subst hw0
  have hok : SMa ≤ 1048576 := by omega
  have HOK : Hid ((Ma.length + offM Ma Ma.length) ≤ 1048576) := by
    have : (Ma.length + offM Ma Ma.length) ≤ 1048576 := by omega
    exact this
  have hszMa : Ma.length ≤ 1048576 := by omega
  have HRSMa : Hid (∀ i, i < Ma.length → (Lin.row Ma i).length ≤ 1048576) := by
    have : ∀ i, i < Ma.length → (Lin.row Ma i).length ≤ 1048576 := fun i hi => by
      have := offM_row Ma i hi
      omega
    exact this
  have HOFMa : Hid (offM Ma Ma.length ≤ 1048576) := by
    have : offM Ma Ma.length ≤ 1048576 := by omega
    exact this
  have HOK2 := Lib.hid hok
  clear hok hSMa hok0
  go_wp2_with fail
  refine (toMx_any aa ca Ma hszMa HRSMa.out _ (HMMa.out)).mono ?_
  rintro e w1 ⟨vs0, rfl, ⟨as0, cs0, gs0, Rs0, rfl, hos0, hrs0, hMs0⟩, hb1⟩
  have hzw1 : w.heap.size ≤ w1.heap.size := hb1.size
  have Bw1 : Hid (Below w.heap.size w w1) := hb1
  clear hb1
  have Xs0 := Lib.hid hMs0
  have Os0 := Lib.hid hos0
  have Ss0 := Lib.hid hrs0
  clear hMs0 hos0 hrs0
  go_wp2_with fail
  refine (HS.out _ _ _ _ _ HOK.out Xs0.out).mono ?_
  rintro e w2 ⟨rfl, hb2⟩
  have hzw2 : w1.heap.size ≤ w2.heap.size := hb2.size
  have Bw2 : Hid (Below w.heap.size w w2) := Bw1.out.trans (hb2.mono (by first | omega | (have := Bw1.out.size; omega)))
  have Xs0_w2 := Lib.hid (Xs0.out.keeps hb2)
  clear hb2
  go_wp2_with fail
  refine (toMx_any aa ca Ma hszMa HRSMa.out _ (HMMa.out.keeps Bw2.out)).mono ?_
  rintro e w3 ⟨vx0, rfl, ⟨ax0, cx0, gx0, Rx0, rfl, hox0, hrx0, hMx0⟩, hb3⟩
  have hzw3 : w2.heap.size ≤ w3.heap.size := hb3.size
  have Bw3 : Hid (Below w.heap.size w w3) := Bw2.out.trans (hb3.mono (by first | omega | (have := Bw2.out.size; omega)))
  clear hb3
  have Xx0 := Lib.hid hMx0
  have Ox0 := Lib.hid hox0
  have Sx0 := Lib.hid hrx0
  clear hMx0 hox0 hrx0
  go_wp2_with fail
  refine (HI.out _ _ _ _ _ HOK.out Xx0.out).mono ?_
  rintro e w4 ⟨rfl, hb4⟩
  have hzw4 : w3.heap.size ≤ w4.heap.size := hb4.size
  have Bw4 : Hid (Below w.heap.size w w4) := Bw3.out.trans (hb4.mono (by first | omega | (have := Bw3.out.size; omega)))
  have Xx0_w4 := Lib.hid (Xx0.out.keeps hb4)
  clear hb4
  go_wp2_with fail
  refine (toMx_any aa ca Ma hszMa HRSMa.out _ (HMMa.out.keeps Bw4.out)).mono ?_
  rintro e w5 ⟨vt0, rfl, ⟨at0, ct0, gt0, Rt0, rfl, hot0, hrt0, hMt0⟩, hb5⟩
  have hzw5 : w4.heap.size ≤ w5.heap.size := hb5.size
  have Bw5 : Hid (Below w.heap.size w w5) := Bw4.out.trans (hb5.mono (by first | omega | (have := Bw4.out.size; omega)))
  have Xx0_w5 := Lib.hid (Xx0_w4.out.keeps hb5)
  clear Xx0_w4
  clear hb5
  have Xt0 := Lib.hid hMt0
  have Ot0 := Lib.hid hot0
  have St0 := Lib.hid hrt0
  clear hMt0 hot0 hrt0
  go_wp2_with fail
  refine (eqMx_any _ _ _ _ _ _ _ _ Ma (by omega) (by have := HOFMa.out; omega) _ Xx0_w5.out Xt0.out).mono ?_
  rintro e w6 ⟨rfl, hb6⟩
  have hzw6 : w5.heap.size ≤ w6.heap.size := hb6.size
  have Bw6 : Hid (Below w.heap.size w w6) := Bw5.out.trans (hb6.mono (by first | omega | (have := Bw5.out.size; omega)))
  have Xx0_w6 := Lib.hid (Xx0_w5.out.keeps hb6)
  clear Xx0_w5
  have Xt0_w6 := Lib.hid (Xt0.out.keeps hb6)
  clear hb6
  go_wp2
  go_ret
  exact ⟨rfl, Bw6.out⟩

end Go.Proofs.Ythjgpbcdcgagfaa
