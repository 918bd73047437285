/-
  THE WALK of the law on counts of faces.
-/
import Derived.Test.YtlggglegoonapaaDrawB
import Derived.Test.YtlggglegoonapaaCntC
import Derived.Test.YtlggglegoonapaaWDel
import Derived.Test.YtlggglegoonapaaWPure2
import Derived.Deep.RegionHeld3
import Derived.IntWalk
namespace Go.Proofs.Ytlggglegoonapaa
open Go.RowKit
open Sets

theorem specCounts_b (n : Int) (a : Option Addr) (c : Nat) (xs F : List Int) (hF : counts (faces n xs) = F) (hlen : xs.length ≤ 1099511627776) (w : World) (h : Ints w a xs) :
    Calls Try.prog 18 #[cx n (.slice a xs.length c)] w fun e w' => ∃ v, e = .returned v ∧ OwnInts w' w.heap.size v F ∧ Below w.heap.size w w' := by
  subst hF; exact specCounts_any n a c xs hlen w h
theorem implCounts_b (n : Int) (a : Option Addr) (c : Nat) (xs F : List Int) (hF : counts (faces n xs) = F) (hcap : xs.length ≤ c) (hlen : xs.length ≤ 1099511627776) (w : World) (h : Ints w a xs) :
    Calls Try.prog 14 #[cx n (.slice a xs.length c)] w fun e w' => ∃ v, e = .returned v ∧ HasInts w' w.heap.size v F ∧ Below w.heap.size w w' := by
  subst hF; exact implCounts_any n a c xs hcap hlen w h

theorem implSized_len (n : Int) (a : Option Addr) (c : Nat) (xs : List Int) (hcap : xs.length ≤ c) (hlen : xs.length ≤ 1099511627776) (q : Int) (z : Nat) (hz : (sized q (faces n xs)).length = z) (w : World) (h : Ints w a xs) :
    Calls Try.prog 25 #[cx n (.slice a xs.length c), .int .i64 q] w fun e w' => ∃ a' c', e = .returned (.slice a' z c') ∧ Below w.heap.size w w' := by
  subst hz
  refine (implSized_any n a c xs hcap hlen q w h).mono ?_
  rintro e w' ⟨v, rfl, hO, hb⟩
  obtain ⟨pa, pc0, pg, rfl, _⟩ := HasInts.ata hO hb.size
  exact ⟨_, _, rfl, hb⟩
theorem specFaces_len (n : Int) (a : Option Addr) (c : Nat) (xs : List Int) (hlen : xs.length ≤ 1099511627776) (z : Nat) (hz : (faces n xs).length = z) (w : World) (h : Ints w a xs) :
    Calls Try.prog 34 #[cx n (.slice a xs.length c)] w fun e w' => ∃ a' c', e = .returned (.slice a' z c') ∧ Below w.heap.size w w' := by
  subst hz
  refine (specFaces_any n a c xs hlen w h).mono ?_
  rintro e w' ⟨v, rfl, hO, hb⟩
  obtain ⟨pa, pc0, pg, rfl, _⟩ := OwnInts.ata hO hb.size
  exact ⟨_, _, rfl, hb⟩
theorem implEuler_b (n : Int) (a : Option Addr) (c : Nat) (xs : List Int) (hcap : xs.length ≤ c) (hlen : xs.length ≤ 1099511627776) (s : Int) (hs : eul (faces n xs) = s) (w : World) (h : Ints w a xs) :
    Calls Try.prog 21 #[cx n (.slice a xs.length c)] w fun e w' => e = .returned (.int .i64 s) ∧ Below w.heap.size w w' := by
  subst hs; exact implEuler_any n a c xs hcap hlen w h
theorem implUsed_b (n : Int) (a : Option Addr) (c : Nat) (xs : List Int) (hcap : xs.length ≤ c) (hlen : xs.length ≤ 1099511627776) (s : Int) (hs : used n xs = s) (w : World) (h : Ints w a xs) :
    Calls Try.prog 27 #[cx n (.slice a xs.length c)] w fun e w' => e = .returned (.int .i64 s) ∧ Below w.heap.size w w' := by
  subst hs; exact implUsed_any n a c xs hcap hlen w h
theorem specSize_b (x s : Int) (hs : sizeZ x = s) (w : World) : Calls Try.prog 37 #[.int .i64 x] w fun e w' => e = .returned (.int .i64 s) ∧ Below w.heap.size w w' := by
  subst hs
  refine (specSizeOf_any x w).mono ?_
  rintro e w' ⟨rfl, rfl⟩
  exact ⟨rfl, Below.refl _ _⟩

set_option maxRecDepth 100000 in
set_option maxHeartbeats 8000000 in
theorem counts_walk (a : Option Addr) (n c : Nat) (hn : n ≤ 9223372036854775807) (w : World) (hc : Code w a n) :
    Calls Try.prog 3 #[.slice a n c] w fun e w' => e = .returned (.bool true) ∧ Below w.heap.size w w' := by
  have HC := Lib.hid hc
  clear hc
  by_cases hbig : 1048576 < (n : Int)
  · go_enter Try.func3, Try.ntmps3
    go_wp2
    go_ret
    exact ⟨rfl, Below.refl _ _⟩
  · go_enter Try.func3, Try.ntmps3
    go_wp2_with (go_at_call 12; go_in)
    refine (drawCounts_any a n c (by omega) _ HC.out).mono ?_
    rintro e w1 ⟨Nc, v, xs, rfl, hlx, hO, hb⟩
    obtain ⟨ax, kx, gx, rfl, hkx, _, hr, _⟩ := OwnInts.ata hO hb.size
    have hba : Below w1.heap.size w1 (w1.alloc (.cells #[.int .i64 Nc, .slice ax xs.length kx] 26)) := (Below.refl _ _).alloc (Nat.le_refl _) _
    have HX1 := Lib.hid (hr.ints.keeps hba)
    have B1 : Hid (Below w.heap.size w (w1.alloc (.cells #[.int .i64 Nc, .slice ax xs.length kx] 26))) := hb.trans (hba.mono hb.size)
    have T1 := Lib.hid (Two.new w1 (.int .i64 Nc) (.slice ax xs.length kx) 26)
    clear hO hr hb hba
    obtain ⟨F, hF⟩ : ∃ F, counts (faces Nc xs) = F := ⟨_, rfl⟩
    have HFE := Lib.hid hF
    have hF7 : F.length ≤ 1099511627776 := by rw [← hF, counts_length]; exact Nat.le_trans (top_le _) (by decide)
    clear hF
    obtain ⟨s0, s1, s2, s3, s4⟩ := T1.out
    go_wp2_with fail
    refine (implCounts_b Nc _ _ xs F HFE.out hkx (Nat.le_trans hlx (by decide)) _ HX1.out).mono ?_
    rintro e w2 ⟨v, rfl, hO, hb⟩
    obtain ⟨fa, fc, fg, rfl, _, _, hr, _⟩ := hO
    have HF2 := Lib.hid hr
    have HX2 := Lib.hid (HX1.out.keeps hb)
    have B2 : Hid (Below w.heap.size w w2) := B1.out.trans (hb.mono B1.out.size)
    have T2 := Lib.hid (Two.keeps T1.out hb)
    clear hr hb HX1 T1 s0 s1 s2 s3 s4
    go_wp2_with fail
    refine (drawSized_any a n c (by omega) _ (HC.out.keeps B2.out)).mono ?_
    rintro e w3 ⟨Nd, v, ys, kd, rfl, hly, hO, hb⟩
    obtain ⟨ay, ky, gy, rfl, hky, _, hr, _⟩ := OwnInts.ata hO hb.size
    have hba : Below w3.heap.size w3 (w3.alloc (.cells #[.int .i64 Nd, .slice ay ys.length ky] 26)) := (Below.refl _ _).alloc (Nat.le_refl _) _
    have HY3 := Lib.hid (hr.ints.keeps hba)
    have HX3 := Lib.hid ((HX2.out.keeps hb).keeps hba)
    have HF3 := Lib.hid ((HF2.out.keeps hb).keeps hba)
    have B3 : Hid (Below w.heap.size w (w3.alloc (.cells #[.int .i64 Nd, .slice ay ys.length ky] 26))) := (B2.out.trans (hb.mono B2.out.size)).trans (hba.mono (Nat.le_trans B2.out.size hb.size))
    have T3 := Lib.hid (Two.keeps (Two.keeps T2.out hb) hba)
    have U3 := Lib.hid (Two.new w3 (.int .i64 Nd) (.slice ay ys.length ky) 26)
    clear hO hr hb hba HX2 HF2 T2
    go_wp2_with fail
    refine (drawDegree_any a n c (by omega) _ (HC.out.keeps B3.out)).mono ?_
    rintro e w4 ⟨Ne, v, zs, ke, rfl, hlz, hO, hb⟩
    obtain ⟨az, kz, gz, rfl, hkz, _, hr, _⟩ := OwnInts.ata hO hb.size
    have hba : Below w4.heap.size w4 (w4.alloc (.cells #[.int .i64 Ne, .slice az zs.length kz] 26)) := (Below.refl _ _).alloc (Nat.le_refl _) _
    have hz4 := hr.ints.keeps hba
    have hy4 := (HY3.out.keeps hb).keeps hba
    have hx4 := (HX3.out.keeps hb).keeps hba
    have hf4 := (HF3.out.keeps hb).keeps hba
    have hB4 : Below w.heap.size w (w4.alloc (.cells #[.int .i64 Ne, .slice az zs.length kz] 26)) := (B3.out.trans (hb.mono B3.out.size)).trans (hba.mono (Nat.le_trans B3.out.size hb.size))
    have ht3 := Two.keeps (Two.keeps T3.out hb) hba
    have ht5 := Two.keeps (Two.keeps U3.out hb) hba
    have ht7 := Two.new w4 (.int .i64 Ne) (.slice az zs.length kz) 26
    have hs7 : (sized kd (faces Nd ys)).length ≤ 1099511627776 := Nat.le_trans (sized_length _ _) (Nat.le_trans (faces_le _ _) (by decide))
    clear hO hr hb hba HX3 HY3 HF3 T3 U3
    obtain ⟨b3, hb3⟩ : ∃ b3, w1.heap.size = b3 := ⟨_, rfl⟩
    obtain ⟨b5, hb5⟩ : ∃ b5, w3.heap.size = b5 := ⟨_, rfl⟩
    obtain ⟨b7, hb7⟩ : ∃ b7, w4.heap.size = b7 := ⟨_, rfl⟩
    go_wp2_with fail
    rw [hb3] at ht3
    try rw [hb3]
    rw [hb5] at ht5
    try rw [hb5]
    rw [hb7] at ht7
    try rw [hb7]
    obtain ⟨W, hW⟩ : ∃ W, w4.alloc (.cells #[.int .i64 Ne, .slice az zs.length kz] 26) = W := ⟨_, rfl⟩
    rw [hW] at hz4 hy4 hx4 hf4 hB4 ht3 ht5 ht7 ⊢
    have HZ := Lib.hid hz4
    have HY := Lib.hid hy4
    have HX := Lib.hid hx4
    have HF := Lib.hid hf4
    have HB := Lib.hid hB4
    have T3 := Lib.hid ht3
    have T5 := Lib.hid ht5
    have T7 := Lib.hid ht7
    have HBC := Lib.hid (bdrew1 W)
    clear hz4 hy4 hx4 hf4 hB4 ht3 ht5 ht7 hb3 hb5 hb7 hW B1 B2 B3
    go_region_held3 (fun w' => w'.cell? ⟨b3, 0, none⟩ = some (.int .i64 Nc) ∧ w'.cell? ⟨b3, 1, none⟩ = some (.slice ax xs.length kx) ∧ w'.cell? ⟨b5, 0, none⟩ = some (.int .i64 Nd) ∧ w'.cell? ⟨b5, 1, none⟩ = some (.slice ay ys.length ky) ∧ w'.cell? ⟨b7, 0, none⟩ = some (.int .i64 Ne) ∧ w'.cell? ⟨b7, 1, none⟩ = some (.slice az zs.length kz) ∧ Below W.heap.size W w') (first | (exact ⟨(T3.out.keeps HBC.out).2.1, (T3.out.keeps HBC.out).2.2.1, (T5.out.keeps HBC.out).2.1, (T5.out.keeps HBC.out).2.2.1, (T7.out.keeps HBC.out).2.1, (T7.out.keeps HBC.out).2.2.1, HBC.out⟩)) (first | (go_at_call 18; with_reducible refine (specCounts_b Nc _ _ xs F HFE.out (Nat.le_trans hlx (by decide)) _ (HX.out.keeps HBC.out)).mono ?_; rintro e wN ⟨v, rfl, hO, hbN⟩; obtain ⟨sa, sc, sg, rfl, _, _, hsp, _⟩ := OwnInts.ata hO hbN.size; have HSP := Lib.hid hsp; clear hO hsp; have HBC := Lib.hid (HBC.out.trans (hbN.mono HBC.out.size)); clear hbN) | (go_at_call 17; with_reducible refine (sameInt_any _ _ _ _ F hF7 _ (HF.out.keeps HBC.out).ints HSP.out.ints).mono ?_; rintro e wN ⟨rfl, hbN⟩; have HBC := Lib.hid (HBC.out.trans (hbN.mono HBC.out.size)); clear hbN) | (go_at_call 19; with_reducible refine (implDim_any Nc _ _ xs hkx (Nat.le_trans hlx (by decide)) _ (HX.out.keeps HBC.out)).mono ?_; rintro e wN ⟨rfl, hbN⟩; have HBC := Lib.hid (HBC.out.trans (hbN.mono HBC.out.size)); clear hbN) | (go_at_call 20; with_reducible refine (specDim_any Nc _ _ xs (Nat.le_trans hlx (by decide)) _ (HX.out.keeps HBC.out)).mono ?_; rintro e wN ⟨rfl, hbN⟩; have HBC := Lib.hid (HBC.out.trans (hbN.mono HBC.out.size)); clear hbN) | (go_at_call 21; with_reducible refine (implEuler_any Nc _ _ xs hkx (Nat.le_trans hlx (by decide)) _ (HX.out.keeps HBC.out)).mono ?_; rintro e wN ⟨rfl, hbN⟩; have HBC := Lib.hid (HBC.out.trans (hbN.mono HBC.out.size)); clear hbN) | (go_at_call 22; with_reducible refine (specEuler_any Nc _ _ xs (Nat.le_trans hlx (by decide)) _ (HX.out.keeps HBC.out)).mono ?_; rintro e wN ⟨rfl, hbN⟩; have HBC := Lib.hid (HBC.out.trans (hbN.mono HBC.out.size)); clear hbN) | (go_at_call 23; with_reducible refine (implPure_any Nc _ _ xs hkx (Nat.le_trans hlx (by decide)) _ (HX.out.keeps HBC.out)).mono ?_; rintro e wN ⟨rfl, hbN⟩; have HBC := Lib.hid (HBC.out.trans (hbN.mono HBC.out.size)); clear hbN) | (go_at_call 24; with_reducible refine (specPure_any Nc _ _ xs (Nat.le_trans hlx (by decide)) _ (HX.out.keeps HBC.out)).mono ?_; rintro e wN ⟨rfl, hbN⟩; have HBC := Lib.hid (HBC.out.trans (hbN.mono HBC.out.size)); clear hbN) | (go_at_call 25; with_reducible refine (implSized_any Nd _ _ ys hky (Nat.le_trans hly (by decide)) kd _ (HY.out.keeps HBC.out)).mono ?_; rintro e wN ⟨v, rfl, hO, hbN⟩; obtain ⟨pa, pc0, pg, rfl, _, _, hsp, _⟩ := HasInts.ata hO hbN.size; have HSQ := Lib.hid hsp; clear hO hsp; have HBC := Lib.hid (HBC.out.trans (hbN.mono HBC.out.size)); clear hbN) | (go_at_call 26; with_reducible refine (specSized_any Nd _ _ ys (Nat.le_trans hly (by decide)) kd _ (HY.out.keeps HBC.out)).mono ?_; rintro e wN ⟨v, rfl, hO, hbN⟩; obtain ⟨ra, rc, rg, rfl, _, _, hsp, _⟩ := OwnInts.ata hO hbN.size; have HSR := Lib.hid hsp; have HSQ := Lib.hid (HSQ.out.keeps hbN); clear hO hsp; have HBC := Lib.hid (HBC.out.trans (hbN.mono HBC.out.size)); clear hbN) | (go_at_call 17; with_reducible refine (sameInt_any _ _ _ _ (sized kd (faces Nd ys)) hs7 _ HSQ.out.ints HSR.out.ints).mono ?_; rintro e wN ⟨rfl, hbN⟩; have HBC := Lib.hid (HBC.out.trans (hbN.mono HBC.out.size)); clear hbN) | (go_at_call 27; with_reducible refine (implUsed_any Nc _ _ xs hkx (Nat.le_trans hlx (by decide)) _ (HX.out.keeps HBC.out)).mono ?_; rintro e wN ⟨rfl, hbN⟩; have HBC := Lib.hid (HBC.out.trans (hbN.mono HBC.out.size)); clear hbN) | (go_at_call 28; with_reducible refine (specUsed_any Nc _ _ xs (Nat.le_trans hlx (by decide)) _ (HX.out.keeps HBC.out)).mono ?_; rintro e wN ⟨rfl, hbN⟩; have HBC := Lib.hid (HBC.out.trans (hbN.mono HBC.out.size)); clear hbN) | (go_at_call 29; with_reducible refine (implSimplex_any Nc _ _ xs hkx (Nat.le_trans hlx (by decide)) _ (HX.out.keeps HBC.out)).mono ?_; rintro e wN ⟨rfl, hbN⟩; have HBC := Lib.hid (HBC.out.trans (hbN.mono HBC.out.size)); clear hbN) | (go_at_call 30; with_reducible refine (specSimplex_any Nc _ _ xs (Nat.le_trans hlx (by decide)) _ (HX.out.keeps HBC.out)).mono ?_; rintro e wN ⟨rfl, hbN⟩; have HBC := Lib.hid (HBC.out.trans (hbN.mono HBC.out.size)); clear hbN) | (go_at_call 31; with_reducible refine (implDegree_any Ne _ _ zs hkz (Nat.le_trans hlz (by decide)) ke _ (HZ.out.keeps HBC.out)).mono ?_; rintro e wN ⟨rfl, hbN⟩; have HBC := Lib.hid (HBC.out.trans (hbN.mono HBC.out.size)); clear hbN) | (go_at_call 32; with_reducible refine (specDegree_any Ne _ _ zs (Nat.le_trans hlz (by decide)) ke _ (HZ.out.keeps HBC.out)).mono ?_; rintro e wN ⟨rfl, hbN⟩; have HBC := Lib.hid (HBC.out.trans (hbN.mono HBC.out.size)); clear hbN))
    have HBW := HBC
    clear HBC HSP HSQ HSR
    have HFA : Hid (∀ k, k < F.length → F.getD k 0 = (cnt k (faces Nc xs) : Int)) := by
      have : ∀ k, k < F.length → F.getD k 0 = (cnt k (faces Nc xs) : Int) := fun k hk => by
        rw [← HFE.out] at hk ⊢
        exact counts_at _ k (by rw [counts_length] at hk; exact hk)
      exact this
    have hF7s : F.length ≤ 7 := by rw [← HFE.out, counts_length]; exact top_le _
    clear HY HZ T5 T7 hs7
    go_wp2
    go_loopw [9] (fun i wr => ∃ k : Nat, k ≤ F.length ∧ i = .int .i64 (k : Int) ∧ Below W.heap.size W wr) (fun i _ => F.length - (intOf i).toNat)
    case atStart => exact ⟨0, Nat.zero_le _, rfl, HBW.out⟩
    case round =>
      clear HBW
      obtain ⟨k, hk, rfl, hBr⟩ := hrel
      have HBR := Lib.hid hBr
      clear hBr
      by_cases hlt : k < F.length
      · obtain ⟨z, hz⟩ : ∃ z, cnt k (faces Nc xs) = z := ⟨_, rfl⟩
        have hfk := HFA.out k hlt
        rw [hz] at hfk
        have HZE := Lib.hid hfk
        have HZS : Hid ((sized (k : Int) (faces Nc xs)).length = z) := by
          have : (sized (k : Int) (faces Nc xs)).length = z := by rw [sized_cnt]; exact hz
          exact this
        obtain ⟨ea, _, _, _⟩ := HF.out k hlt
        obtain rfl := ea
        have HCK : Hid (∀ w' : World, Below W.heap.size W w' → w'.cell? ⟨fg, k, none⟩ = some (.int .i64 (z : Int))) := by
          have : ∀ w' : World, Below W.heap.size W w' → w'.cell? ⟨fg, k, none⟩ = some (.int .i64 (z : Int)) := fun w' hb => by
            have h := ((HF.out.keeps hb) k hlt).2.2.1
            rwa [HZE.out] at h
          exact this
        have hki : (k : Int) < (F.length : Int) := by omega
        have HBC := Lib.hid HBR.out.drew
        clear hz hfk
        go_wp2_with fail
        go_region_held3 (fun w' => w'.cell? ⟨fg, k, none⟩ = some (.int .i64 (z : Int)) ∧ w'.cell? ⟨b3, 0, none⟩ = some (.int .i64 Nc) ∧ w'.cell? ⟨b3, 1, none⟩ = some (.slice ax xs.length kx) ∧ Below W.heap.size W w') (first | (exact ⟨HCK.out _ HBC.out, (T3.out.keeps HBC.out).2.1, (T3.out.keeps HBC.out).2.2.1, HBC.out⟩)) (first | (go_at_call 25; with_reducible refine (implSized_len Nc _ _ xs hkx (Nat.le_trans hlx (by decide)) (k : Int) z HZS.out _ (HX.out.keeps HBC.out)).mono ?_; rintro e wN ⟨qa, qc, rfl, hbN⟩; have HBC := Lib.hid (HBC.out.trans (hbN.mono HBC.out.size)); clear hbN))
        go_wp2
        go_roundw
        case rel => exact ⟨k + 1, by omega, by go_num, HBC.out⟩
        case measure => simp [intOf]; omega
      · obtain ⟨d, hd⟩ : ∃ d, dimZ Nc xs = d := ⟨_, rfl⟩
        obtain ⟨l, hl⟩ : ∃ l, (faces Nc xs).length = l := ⟨_, rfl⟩
        obtain ⟨eu, heu⟩ : ∃ eu, eul (faces Nc xs) = eu := ⟨_, rfl⟩
        obtain ⟨up, hup⟩ : ∃ up, used Nc xs = up := ⟨_, rfl⟩
        obtain ⟨u, hu⟩ : ∃ u, sizeZ up = u := ⟨_, rfl⟩
        have hd2 : (F.length : Int) = d + 2 := by rw [← HFE.out, counts_dim, hd]
        have hdr := dim_range Nc xs
        rw [hd] at hdr
        have hw2 : IntKind.i64.wrap (d + 2) = (F.length : Int) := by rw [IntWalk.i64_in _ (by omega), hd2]
        have HTOT : Hid (tsumK F F.length = (l : Int)) := by
          have : tsumK F F.length = (l : Int) := by rw [← HFE.out, counts_total, hl]
          exact this
        have HSGN : Hid (ssumK F F.length = eu) := by
          have : ssumK F F.length = eu := by rw [← HFE.out, counts_signed, heu]
          exact this
        have HAT : Hid ((if 1 < F.length then F.getD 1 0 else 0) = u) := by
          have : (if 1 < F.length then F.getD 1 0 else 0) = u := by
            rw [← hu, ← hup, ← cnt1_size]
            split
            · exact HFA.out 1 (by assumption)
            · rename_i h1
              rw [ge_top (faces Nc xs) 1 (by rw [← HFE.out, counts_length] at h1; omega)]; rfl
          exact this
        have HFX : Hid (∀ j, j < F.length → 0 ≤ F.getD j 0 ∧ F.getD j 0 ≤ 64) := by
          have : ∀ j, j < F.length → 0 ≤ F.getD j 0 ∧ F.getD j 0 ≤ 64 := fun j hj => by
            rw [HFA.out j hj]
            have := cnt_le j (faces Nc xs)
            have := faces_le Nc xs
            omega
          exact this
        have HD := Lib.hid hd
        have HLL := Lib.hid hl
        have HEU := Lib.hid heu
        have HUP := Lib.hid hup
        have HSZ := Lib.hid hu
        have HBC := Lib.hid HBR.out.drew
        clear hd hl heu hup hu hd2
        go_wp2_with fail
        go_region_held3 (fun w' => w'.cell? ⟨b3, 0, none⟩ = some (.int .i64 Nc) ∧ w'.cell? ⟨b3, 1, none⟩ = some (.slice ax xs.length kx) ∧ Below W.heap.size W w') (first | (exact ⟨(T3.out.keeps HBC.out).2.1, (T3.out.keeps HBC.out).2.2.1, HBC.out⟩)) (first | (go_at_call 19; with_reducible refine (implDim_b Nc _ _ xs d HD.out hkx (Nat.le_trans hlx (by decide)) _ (HX.out.keeps HBC.out)).mono ?_; rintro e wN ⟨rfl, hbN⟩; have HBC := Lib.hid (HBC.out.trans (hbN.mono HBC.out.size)); clear hbN) | (go_at_call 33; with_reducible refine (total_b _ _ F (l : Int) HTOT.out hF7s HFX.out _ (HF.out.keeps HBC.out).ints).mono ?_; rintro e wN ⟨rfl, hbN⟩; have HBC := Lib.hid (HBC.out.trans (hbN.mono HBC.out.size)); clear hbN) | (go_at_call 34; with_reducible refine (specFaces_len Nc _ _ xs (Nat.le_trans hlx (by decide)) l HLL.out _ (HX.out.keeps HBC.out)).mono ?_; rintro e wN ⟨qa, qc, rfl, hbN⟩; have HBC := Lib.hid (HBC.out.trans (hbN.mono HBC.out.size)); clear hbN) | (go_at_call 35; with_reducible refine (signed_b _ _ F eu HSGN.out hF7s HFX.out _ (HF.out.keeps HBC.out).ints).mono ?_; rintro e wN ⟨rfl, hbN⟩; have HBC := Lib.hid (HBC.out.trans (hbN.mono HBC.out.size)); clear hbN) | (go_at_call 21; with_reducible refine (implEuler_b Nc _ _ xs hkx (Nat.le_trans hlx (by decide)) eu HEU.out _ (HX.out.keeps HBC.out)).mono ?_; rintro e wN ⟨rfl, hbN⟩; have HBC := Lib.hid (HBC.out.trans (hbN.mono HBC.out.size)); clear hbN) | (go_at_call 36; with_reducible refine (at22_b _ _ F u HAT.out hF7s _ (HF.out.keeps HBC.out).ints).mono ?_; rintro e wN ⟨rfl, hbN⟩; have HBC := Lib.hid (HBC.out.trans (hbN.mono HBC.out.size)); clear hbN) | (go_at_call 27; with_reducible refine (implUsed_b Nc _ _ xs hkx (Nat.le_trans hlx (by decide)) up HUP.out _ (HX.out.keeps HBC.out)).mono ?_; rintro e wN ⟨rfl, hbN⟩; have HBC := Lib.hid (HBC.out.trans (hbN.mono HBC.out.size)); clear hbN) | (go_at_call 37; with_reducible refine (specSize_b up u HSZ.out _).mono ?_; rintro e wN ⟨rfl, hbN⟩; have HBC := Lib.hid (HBC.out.trans (hbN.mono HBC.out.size)); clear hbN))
        go_wp2
        go_ret
        exact ⟨rfl, HB.out.trans (HBC.out.mono HB.out.size)⟩

end Go.Proofs.Ytlggglegoonapaa
