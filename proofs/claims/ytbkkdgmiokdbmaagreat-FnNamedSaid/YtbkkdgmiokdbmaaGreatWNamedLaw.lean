/-
  THE WALK of the law on names (written by gennamlaw.py).
-/
import Derived.Test.YtbkkdgmiokdbmaaGreatWNamedR16
import Derived.Test.YtbkkdgmiokdbmaaGreatWNamedR18
import Derived.Deep.DeepCutAuto
namespace Go.Proofs.YtbkkdgmiokdbmaaGreat
open Go.RowKit
open Sets Nam

theorem pow_less (q : Nat) (hq : q < 7) : wrap64 (wrap64 (2 ^ q) - 1) = ((2 ^ q - 1 : Nat) : Int) := by
  have hqq : q = 0 ∨ q = 1 ∨ q = 2 ∨ q = 3 ∨ q = 4 ∨ q = 5 ∨ q = 6 := by omega
  rcases hqq with rfl | rfl | rfl | rfl | rfl | rfl | rfl <;> simp [wrap64]

set_option maxRecDepth 1000000 in
set_option maxHeartbeats 16000000 in
theorem named_walk (JRen : ∀ (n : Int) (a : Option Addr) (c : Nat) (xs : List Int) (b : Option Addr) (c2 : Nat) (ns : List Int), xs.length ≤ c → xs.length ≤ 1099511627776 → ns.length ≤ 1099511627776 → ∀ W : World, Ints W a xs → Ints W b ns → Calls Tryz.prog 6 #[cx n (.slice a xs.length c), .slice b ns.length c2] W fun e w' => ∃ v, e = .returned (.tuple #[cx (oN (renCO n xs ns)) v, .bool (renCO n xs ns).isSome]) ∧ OwnInts w' W.heap.size v (oL (renCO n xs ns)) ∧ Below W.heap.size W w')
    (JSet : ∀ (s : Int) (a : Option Addr) (c : Nat) (xs : List Int), xs.length ≤ 1099511627776 → ∀ W : World, Ints W a xs → Calls Tryz.prog 9 #[.int .i64 s, .slice a xs.length c] W fun e w' => e = .returned (.tuple #[.int .i64 (((renSO s xs).getD 0 : Nat) : Int), .bool (renSO s xs).isSome]) ∧ Below W.heap.size W w')
    (JCan : ∀ (n : Int) (a : Option Addr) (c : Nat) (xs : List Int), xs.length ≤ c → xs.length ≤ 1099511627776 → ∀ W : World, Ints W a xs → Calls Tryz.prog 12 #[cx n (.slice a xs.length c)] W fun e w' => ∃ v, e = .returned (.tuple #[cx (oN (canonCO n xs)) v, .bool (canonCO n xs).isSome]) ∧ HasInts w' W.heap.size v (oL (canonCO n xs)) ∧ Below W.heap.size W w')
    (JAl : ∀ (na : Int) (pa : Option Addr) (ca : Nat) (xa : List Int) (nb : Int) (pb : Option Addr) (cb : Nat) (xb : List Int), xa.length ≤ ca → xb.length ≤ cb → xa.length ≤ 1099511627776 → xb.length ≤ 1099511627776 → ∀ W : World, Ints W pa xa → Ints W pb xb → Calls Tryz.prog 19 #[cx na (.slice pa xa.length ca), cx nb (.slice pb xb.length cb)] W fun e w' => e = .returned (.bool (alikeB na xa nb xb)) ∧ Below W.heap.size W w')
    (JCl : ∀ (n : Int) (a : Option Addr) (c : Nat) (xs : List Int), xs.length ≤ c → xs.length ≤ 1099511627776 → ∀ W : World, Ints W a xs → Calls Tryz.prog 16 #[cx n (.slice a xs.length c)] W fun e w' => ∃ v, e = .returned v ∧ OwnInts w' W.heap.size v (clsO n xs) ∧ Below W.heap.size W w')
    (JSym : ∀ (n : Int) (a : Option Addr) (c : Nat) (xs : List Int), xs.length ≤ c → xs.length ≤ 1099511627776 → ∀ W : World, Ints W a xs → Calls Tryz.prog 17 #[cx n (.slice a xs.length c)] W fun e w' => e = .returned (.int .i64 (symCount n xs : Nat)) ∧ Below W.heap.size W w')
    (a : Option Addr) (n c : Nat) (hn : n ≤ 9223372036854775807) (w : World) (hc : Code w a n) :
    Calls Tryz.prog 3 #[.slice a n c] w fun e w' => e = .returned (.bool true) ∧ Below w.heap.size w w' := by
  have HC := Lib.hid hc
  clear hc
  by_cases hbig : 1048576 < (n : Int)
  · go_enter Tryz.func3, Tryz.ntmps3
    go_wp2
    go_ret
    exact ⟨rfl, Below.refl _ _⟩
  have KRen := Lib.hid JRen
  have KSet := Lib.hid JSet
  have KCan := Lib.hid JCan
  have KAl := Lib.hid JAl
  have KCl := Lib.hid JCl
  have KSym := Lib.hid JSym
  clear JRen JSet JCan JAl JCl JSym
  go_enter Tryz.func3, Tryz.ntmps3
  go_wp2_with (go_at_call 4; go_in)
  refine (drawRenC_any a n c (by omega) _ HC.out).mono ?_
  rintro e w1 ⟨N1, v, u, x1, xU, rfl, hx1, hxU, hO, hO2, hb⟩
  obtain ⟨a1, c1, rfl, hc1, hz1, hr⟩ := OwnInts.atn hO hb.size
  obtain ⟨aU, cU, rfl, hcU, hzU, hr2⟩ := OwnInts.atn hO2 hb.size
  have hl1 : x1.length ≤ 1099511627776 := Nat.le_trans hx1 (by decide)
  have hlU : xU.length ≤ 1099511627776 := Nat.le_trans hxU (by decide)
  have hba : Below w1.heap.size w1 (w1.alloc (.cells #[.int .i64 N1, .slice a1 x1.length c1] 26)) := (Below.refl _ _).alloc (Nat.le_refl _) _
  have HBW : Hid (Below w.heap.size w (w1.alloc (.cells #[.int .i64 N1, .slice a1 x1.length c1] 26))) := hb.trans (hba.mono hb.size)
  have BX1 := Lib.hid (Bx.new (n := N1) (c := c1) hr 26)
  clear hO hO2 hr hb
  have HIU := Lib.hid (hr2.keeps hba)
  clear hr2 hba
  obtain ⟨NR, hN⟩ : ∃ z, oN (renCO N1 x1 xU) = z := ⟨_, rfl⟩
  obtain ⟨LR, hL⟩ : ∃ z, oL (renCO N1 x1 xU) = z := ⟨_, rfl⟩
  obtain ⟨BR, hB⟩ : ∃ z, (renCO N1 x1 xU).isSome = z := ⟨_, rfl⟩
  have hlR : LR.length ≤ 1099511627776 := by rw [← hL]; exact Nat.le_trans (ren_le _ _ _) (by decide)
  have hG := fun W h h2 => KRen.out N1 a1 c1 x1 aU cU xU hc1 hl1 hlU W h h2
  have hS := fun W h h2 => specRenameC_any N1 a1 c1 x1 aU cU xU hcU hl1 hlU W h h2
  simp only [hN, hL, hB] at hS hG
  have SR := Lib.hid hS
  have GR := Lib.hid hG
  have ENR := Lib.hid hN
  have ELR := Lib.hid hL
  have EBR := Lib.hid hB
  clear hS hG hN hL hB
  obtain ⟨t0, t1, t2, t3, t4⟩ := BX1.out.1
  go_wp2_with fail
  refine (GR.out _ BX1.out.2 HIU.out).mono ?_
  rintro e w2 ⟨v, rfl, hO, hb⟩
  obtain ⟨a2, c2, rfl, hc2, hz2, hr⟩ := OwnInts.atn hO hb.size
  have hba : Below w2.heap.size w2 (w2.alloc (.cells #[.int .i64 NR, .slice a2 LR.length c2] 26)) := (Below.refl _ _).alloc (Nat.le_refl _) _
  replace BX1 := Lib.hid ((BX1.out.keeps hb).keeps hba)
  replace HIU := Lib.hid ((HIU.out.keeps hb).keeps hba)
  replace HBW : Hid (Below w.heap.size w (w2.alloc (.cells #[.int .i64 NR, .slice a2 LR.length c2] 26))) := (HBW.out.trans (hb.mono HBW.out.size)).trans (hba.mono (Nat.le_trans HBW.out.size hb.size))
  have BX2 := Lib.hid (Bx.new (n := NR) (c := c2) hr 26)
  clear hO hr hb hba t0 t1 t2 t3 t4
  obtain ⟨t0, t1, t2, t3, t4⟩ := BX1.out.1
  go_wp2_with fail
  refine (SR.out _ BX1.out.2 HIU.out).mono ?_
  rintro e w3 ⟨v, rfl, hO, hb⟩
  obtain ⟨a3, c3, rfl, hc3, hz3, hr⟩ := OwnInts.atn hO hb.size
  have hba : Below w3.heap.size w3 (w3.alloc (.cells #[.int .i64 NR, .slice a3 LR.length c3] 26)) := (Below.refl _ _).alloc (Nat.le_refl _) _
  replace BX1 := Lib.hid ((BX1.out.keeps hb).keeps hba)
  replace BX2 := Lib.hid ((BX2.out.keeps hb).keeps hba)
  replace HIU := Lib.hid ((HIU.out.keeps hb).keeps hba)
  replace HBW : Hid (Below w.heap.size w (w3.alloc (.cells #[.int .i64 NR, .slice a3 LR.length c3] 26))) := (HBW.out.trans (hb.mono HBW.out.size)).trans (hba.mono (Nat.le_trans HBW.out.size hb.size))
  have BX3 := Lib.hid (Bx.new (n := NR) (c := c3) hr 26)
  clear hO hr hb hba t0 t1 t2 t3 t4
  clear SR GR
  go_wp2_with fail
  refine (drawRenSet_any a n c (by omega) _ (HC.out.keeps HBW.out)).mono ?_
  rintro e wT ⟨sN, v, xT, rfl, hxT, hO, hb⟩
  obtain ⟨aT, cT, rfl, hcT, hzT, hr⟩ := OwnInts.atn hO hb.size
  have hlT : xT.length ≤ 1099511627776 := Nat.le_trans hxT (by decide)
  replace BX1 := Lib.hid (BX1.out.keeps hb)
  replace BX2 := Lib.hid (BX2.out.keeps hb)
  replace BX3 := Lib.hid (BX3.out.keeps hb)
  replace HIU := Lib.hid (HIU.out.keeps hb)
  replace HBW := Lib.hid (HBW.out.trans (hb.mono HBW.out.size))
  have HIT := Lib.hid hr
  clear hO hr hb
  obtain ⟨zS, hZ⟩ : ∃ z, (((renSO sN xT).getD 0 : Nat) : Int) = z := ⟨_, rfl⟩
  obtain ⟨BS, hB⟩ : ∃ z, (renSO sN xT).isSome = z := ⟨_, rfl⟩
  have hG := fun W h => KSet.out sN aT cT xT hlT W h
  have hS := fun W h => specRenameSet_any sN aT cT xT hcT hlT W h
  simp only [hZ, hB] at hS hG
  have SS := Lib.hid hS
  have GS := Lib.hid hG
  clear hS hG hZ hB
  go_wp2_with fail
  refine (GS.out _ HIT.out).mono ?_
  rintro e wSG ⟨rfl, hb⟩
  replace BX1 := Lib.hid (BX1.out.keeps hb)
  replace BX2 := Lib.hid (BX2.out.keeps hb)
  replace BX3 := Lib.hid (BX3.out.keeps hb)
  replace HIU := Lib.hid (HIU.out.keeps hb)
  replace HIT := Lib.hid (HIT.out.keeps hb)
  replace HBW := Lib.hid (HBW.out.trans (hb.mono HBW.out.size))
  clear hb
  go_wp2_with fail
  refine (SS.out _ HIT.out).mono ?_
  rintro e wSS ⟨rfl, hb⟩
  replace BX1 := Lib.hid (BX1.out.keeps hb)
  replace BX2 := Lib.hid (BX2.out.keeps hb)
  replace BX3 := Lib.hid (BX3.out.keeps hb)
  replace HIU := Lib.hid (HIU.out.keeps hb)
  replace HIT := Lib.hid (HIT.out.keeps hb)
  replace HBW := Lib.hid (HBW.out.trans (hb.mono HBW.out.size))
  clear hb
  clear SS GS HIT
  clear HIU
  go_wp2_with fail
  refine (drawCanon_any a n c (by omega) _ (HC.out.keeps HBW.out)).mono ?_
  rintro e w4 ⟨N4, v, x4, rfl, hx4, hO, hb⟩
  obtain ⟨a4, c4, rfl, hc4, hz4, hr⟩ := OwnInts.atn hO hb.size
  have hl4 : x4.length ≤ 1099511627776 := Nat.le_trans hx4 (by decide)
  have hba : Below w4.heap.size w4 (w4.alloc (.cells #[.int .i64 N4, .slice a4 x4.length c4] 26)) := (Below.refl _ _).alloc (Nat.le_refl _) _
  replace BX1 := Lib.hid ((BX1.out.keeps hb).keeps hba)
  replace BX2 := Lib.hid ((BX2.out.keeps hb).keeps hba)
  replace BX3 := Lib.hid ((BX3.out.keeps hb).keeps hba)
  replace HBW : Hid (Below w.heap.size w (w4.alloc (.cells #[.int .i64 N4, .slice a4 x4.length c4] 26))) := (HBW.out.trans (hb.mono HBW.out.size)).trans (hba.mono (Nat.le_trans HBW.out.size hb.size))
  have BX4 := Lib.hid (Bx.new (n := N4) (c := c4) hr 26)
  clear hO hr hb hba
  obtain ⟨NC, hN⟩ : ∃ z, oN (canonCO N4 x4) = z := ⟨_, rfl⟩
  obtain ⟨LC, hL⟩ : ∃ z, oL (canonCO N4 x4) = z := ⟨_, rfl⟩
  obtain ⟨BC, hB⟩ : ∃ z, (canonCO N4 x4).isSome = z := ⟨_, rfl⟩
  have hlC : LC.length ≤ 1099511627776 := by rw [← hL]; exact Nat.le_trans (canon_le _ _) (by decide)
  have hG := fun W h => KCan.out N4 a4 c4 x4 hc4 hl4 W h
  have hS := fun W h => specCanon_any N4 a4 c4 x4 hl4 W h
  simp only [hN, hL, hB] at hS hG
  have SC := Lib.hid hS
  have GC := Lib.hid hG
  have ENC := Lib.hid hN
  have ELC := Lib.hid hL
  have EBC := Lib.hid hB
  clear hS hG hN hL hB
  obtain ⟨t0, t1, t2, t3, t4⟩ := BX4.out.1
  go_wp2_with fail
  refine (GC.out _ BX4.out.2).mono ?_
  rintro e w5 ⟨v, rfl, hO, hb⟩
  obtain ⟨a5, c5, _, rfl, hc5, _, hr0, _⟩ := hO
  have hr := hr0.ints
  have hba : Below w5.heap.size w5 (w5.alloc (.cells #[.int .i64 NC, .slice a5 LC.length c5] 26)) := (Below.refl _ _).alloc (Nat.le_refl _) _
  replace BX1 := Lib.hid ((BX1.out.keeps hb).keeps hba)
  replace BX2 := Lib.hid ((BX2.out.keeps hb).keeps hba)
  replace BX3 := Lib.hid ((BX3.out.keeps hb).keeps hba)
  replace BX4 := Lib.hid ((BX4.out.keeps hb).keeps hba)
  replace HBW : Hid (Below w.heap.size w (w5.alloc (.cells #[.int .i64 NC, .slice a5 LC.length c5] 26))) := (HBW.out.trans (hb.mono HBW.out.size)).trans (hba.mono (Nat.le_trans HBW.out.size hb.size))
  have BX5 := Lib.hid (Bx.new (n := NC) (c := c5) hr 26)
  clear hr0 hr hb hba t0 t1 t2 t3 t4
  obtain ⟨t0, t1, t2, t3, t4⟩ := BX4.out.1
  go_wp2_with fail
  refine (SC.out _ BX4.out.2).mono ?_
  rintro e w6 ⟨v, rfl, hO, hb⟩
  obtain ⟨a6, c6, _, rfl, hc6, _, hr0, _⟩ := hO
  have hr := hr0.ints
  have hba : Below w6.heap.size w6 (w6.alloc (.cells #[.int .i64 NC, .slice a6 LC.length c6] 26)) := (Below.refl _ _).alloc (Nat.le_refl _) _
  replace BX1 := Lib.hid ((BX1.out.keeps hb).keeps hba)
  replace BX2 := Lib.hid ((BX2.out.keeps hb).keeps hba)
  replace BX3 := Lib.hid ((BX3.out.keeps hb).keeps hba)
  replace BX4 := Lib.hid ((BX4.out.keeps hb).keeps hba)
  replace BX5 := Lib.hid ((BX5.out.keeps hb).keeps hba)
  replace HBW : Hid (Below w.heap.size w (w6.alloc (.cells #[.int .i64 NC, .slice a6 LC.length c6] 26))) := (HBW.out.trans (hb.mono HBW.out.size)).trans (hba.mono (Nat.le_trans HBW.out.size hb.size))
  have BX6 := Lib.hid (Bx.new (n := NC) (c := c6) hr 26)
  clear hr0 hr hb hba t0 t1 t2 t3 t4
  clear SC GC
  go_wp2_with fail
  refine (drawAlike_any a n c (by omega) _ (HC.out.keeps HBW.out)).mono ?_
  rintro e w7 ⟨N7, N8, v, u, x7, x8, rfl, hx7, hx8, hO, hO2, hb⟩
  obtain ⟨a7, c7, rfl, hc7, hz7, hr⟩ := OwnInts.atn hO hb.size
  obtain ⟨a8, c8, rfl, hc8, hz8, hr2⟩ := OwnInts.atn hO2 hb.size
  have hl7 : x7.length ≤ 1099511627776 := Nat.le_trans hx7 (by decide)
  have hl8 : x8.length ≤ 1099511627776 := Nat.le_trans hx8 (by decide)
  have hb1 : Below w7.heap.size w7 (w7.alloc (.cells #[.int .i64 N7, .slice a7 x7.length c7] 26)) := (Below.refl _ _).alloc (Nat.le_refl _) _
  have hb2 : Below (w7.alloc (.cells #[.int .i64 N7, .slice a7 x7.length c7] 26)).heap.size (w7.alloc (.cells #[.int .i64 N7, .slice a7 x7.length c7] 26)) ((w7.alloc (.cells #[.int .i64 N7, .slice a7 x7.length c7] 26)).alloc (.cells #[.int .i64 N8, .slice a8 x8.length c8] 26)) := (Below.refl _ _).alloc (Nat.le_refl _) _
  have hba : Below w7.heap.size w7 ((w7.alloc (.cells #[.int .i64 N7, .slice a7 x7.length c7] 26)).alloc (.cells #[.int .i64 N8, .slice a8 x8.length c8] 26)) := hb1.alloc hb1.size _
  replace BX1 := Lib.hid ((BX1.out.keeps hb).keeps hba)
  replace BX2 := Lib.hid ((BX2.out.keeps hb).keeps hba)
  replace BX3 := Lib.hid ((BX3.out.keeps hb).keeps hba)
  replace BX4 := Lib.hid ((BX4.out.keeps hb).keeps hba)
  replace BX5 := Lib.hid ((BX5.out.keeps hb).keeps hba)
  replace BX6 := Lib.hid ((BX6.out.keeps hb).keeps hba)
  replace HBW : Hid (Below w.heap.size w ((w7.alloc (.cells #[.int .i64 N7, .slice a7 x7.length c7] 26)).alloc (.cells #[.int .i64 N8, .slice a8 x8.length c8] 26))) := (HBW.out.trans (hb.mono HBW.out.size)).trans (hba.mono (Nat.le_trans HBW.out.size hb.size))
  have BX7 := Lib.hid ((Bx.new (n := N7) (c := c7) hr 26).keeps hb2)
  have hbx := Bx.new (n := N8) (c := c8) (hr2.keeps hb1) 26
  rw [World.size_alloc] at hbx
  have BX8 := Lib.hid hbx
  clear hO hO2 hr hr2 hb hb1 hb2 hba hbx
  go_wp2_with fail
  refine (drawClasses_any a n c (by omega) _ (HC.out.keeps HBW.out)).mono ?_
  rintro e w9 ⟨N9, v, x9, rfl, hx9, hO, hb⟩
  obtain ⟨a9, c9, rfl, hc9, hz9, hr⟩ := OwnInts.atn hO hb.size
  have hl9 : x9.length ≤ 1099511627776 := Nat.le_trans hx9 (by decide)
  have hba : Below w9.heap.size w9 (w9.alloc (.cells #[.int .i64 N9, .slice a9 x9.length c9] 26)) := (Below.refl _ _).alloc (Nat.le_refl _) _
  replace BX1 := Lib.hid ((BX1.out.keeps hb).keeps hba)
  replace BX2 := Lib.hid ((BX2.out.keeps hb).keeps hba)
  replace BX3 := Lib.hid ((BX3.out.keeps hb).keeps hba)
  replace BX4 := Lib.hid ((BX4.out.keeps hb).keeps hba)
  replace BX5 := Lib.hid ((BX5.out.keeps hb).keeps hba)
  replace BX6 := Lib.hid ((BX6.out.keeps hb).keeps hba)
  replace BX7 := Lib.hid ((BX7.out.keeps hb).keeps hba)
  replace BX8 := Lib.hid ((BX8.out.keeps hb).keeps hba)
  replace HBW : Hid (Below w.heap.size w (w9.alloc (.cells #[.int .i64 N9, .slice a9 x9.length c9] 26))) := (HBW.out.trans (hb.mono HBW.out.size)).trans (hba.mono (Nat.le_trans HBW.out.size hb.size))
  have BX9 := Lib.hid (Bx.new (n := N9) (c := c9) hr 26)
  clear hO hr hb hba
  obtain ⟨C, hCV⟩ : ∃ C, clsO N9 x9 = C := ⟨_, rfl⟩
  have hC64 : C.length ≤ 1048576 := by rw [← hCV]; exact clsO_le _ _
  have hCl : C.length ≤ 1099511627776 := Nat.le_trans hC64 (by decide)
  obtain ⟨y, hy⟩ : ∃ y, symCount N9 x9 = y := ⟨_, rfl⟩
  have hG := fun W h => KCl.out N9 a9 c9 x9 hc9 hl9 W h
  have hS := fun W h => KSym.out N9 a9 c9 x9 hc9 hl9 W h
  simp only [hCV] at hG
  simp only [hy] at hS
  have GCL := Lib.hid hG
  have GSY := Lib.hid hS
  have HCV := Lib.hid hCV
  have HY := Lib.hid hy
  clear hG hS hCV hy
  obtain ⟨t0, t1, t2, t3, t4⟩ := BX9.out.1
  go_wp2_with fail
  refine (GCL.out _ BX9.out.2).mono ?_
  rintro e wC ⟨v, rfl, hO, hb⟩
  obtain ⟨aC, cC, rfl, hcC, hzC, hr⟩ := OwnInts.atn hO hb.size
  replace BX1 := Lib.hid (BX1.out.keeps hb)
  replace BX2 := Lib.hid (BX2.out.keeps hb)
  replace BX3 := Lib.hid (BX3.out.keeps hb)
  replace BX4 := Lib.hid (BX4.out.keeps hb)
  replace BX5 := Lib.hid (BX5.out.keeps hb)
  replace BX6 := Lib.hid (BX6.out.keeps hb)
  replace BX7 := Lib.hid (BX7.out.keeps hb)
  replace BX8 := Lib.hid (BX8.out.keeps hb)
  replace BX9 := Lib.hid (BX9.out.keeps hb)
  replace HBW := Lib.hid (HBW.out.trans (hb.mono HBW.out.size))
  have HIC := Lib.hid hr
  clear hO hr hb t0 t1 t2 t3 t4
  obtain ⟨t0, t1, t2, t3, t4⟩ := BX9.out.1
  go_wp2_with fail
  refine (GSY.out _ BX9.out.2).mono ?_
  rintro e wY ⟨rfl, hb⟩
  replace BX1 := Lib.hid (BX1.out.keeps hb)
  replace BX2 := Lib.hid (BX2.out.keeps hb)
  replace BX3 := Lib.hid (BX3.out.keeps hb)
  replace BX4 := Lib.hid (BX4.out.keeps hb)
  replace BX5 := Lib.hid (BX5.out.keeps hb)
  replace BX6 := Lib.hid (BX6.out.keeps hb)
  replace BX7 := Lib.hid (BX7.out.keeps hb)
  replace BX8 := Lib.hid (BX8.out.keeps hb)
  replace BX9 := Lib.hid (BX9.out.keeps hb)
  replace HIC := Lib.hid (HIC.out.keeps hb)
  replace HBW := Lib.hid (HBW.out.trans (hb.mono HBW.out.size))
  clear hb t0 t1 t2 t3 t4 GCL GSY
  go_upto_region 16 with fail
  refine named_r16 BX2.out BX3.out BX5.out BX6.out BX7.out BX8.out BX9.out hl7 hl8 hl9 hlC hlR HIC.out hCl HCV.out HY.out hc7 hc8 KAl.out ?_
  intro v86 v87 v88 v89 v90 v91 v92 v93 v94 v95 v96 v97 v98 v99 v100 v101 v102 v103 v104 v105 v106 v107 v108 v109 v110 v111 v112 v113 v114 v115 v116 v117 v118 v119 v120 v121 v122 v123 v124 v125 v126 v127 v128 v129 v130 v131 v132 v133 v134 v135 v136 w16 hb
  clear BX3 BX6 BX7 BX8
  replace BX1 := Lib.hid (BX1.out.keeps hb)
  replace BX2 := Lib.hid (BX2.out.keeps hb)
  replace BX4 := Lib.hid (BX4.out.keeps hb)
  replace BX5 := Lib.hid (BX5.out.keeps hb)
  replace BX9 := Lib.hid (BX9.out.keeps hb)
  replace HIC := Lib.hid (HIC.out.keeps hb)
  replace HBW := Lib.hid (HBW.out.trans (hb.mono HBW.out.size))
  clear hb
  go_upto_region 18 with fail
  have hRS : BR = true → (renCO N1 x1 xU).isSome = true := fun h => by rw [EBR.out]; exact h
  have hRF : BR = true → counts (faces NR LR) = counts (faces N1 x1) := fun h => by have h2 := (renCO_same (hRS h)).1; rwa [ENR.out, ELR.out] at h2
  have hRH : BR = true → holF 3 (faces NR LR) (top (faces NR LR)) = holF 3 (faces N1 x1) (top (faces N1 x1)) := fun h => by have h2 := (renCO_same (hRS h)).2; rwa [ENR.out, ELR.out] at h2
  refine named_r18 BX1.out BX2.out hl1 hlR hRF hRH ?_
  intro v138 v139 v140 v141 v142 v143 v144 v145 v146 v147 v148 v149 v150 v151 v152 v153 w18 hb
  clear BX1 BX2 hRS hRF hRH ENR ELR EBR KRen KSet KCan KCl KSym
  replace BX4 := Lib.hid (BX4.out.keeps hb)
  replace BX5 := Lib.hid (BX5.out.keeps hb)
  replace BX9 := Lib.hid (BX9.out.keeps hb)
  replace HIC := Lib.hid (HIC.out.keeps hb)
  replace HBW := Lib.hid (HBW.out.trans (hb.mono HBW.out.size))
  clear hb
  cases hBC : BC with
  | false =>
    obtain ⟨G, hG⟩ : ∃ G, isC N9 x9 = G := ⟨_, rfl⟩
    have HG := Lib.hid hG
    clear hG
    obtain ⟨t0, t1, t2, t3, t4⟩ := BX9.out.1
    go_wp2_with fail
    refine (specIsC_b N9 a9 c9 x9 G HG.out hl9 _ BX9.out.2).mono ?_
    rintro e w22 ⟨rfl, hb⟩
    replace BX4 := Lib.hid (BX4.out.keeps hb)
    replace BX5 := Lib.hid (BX5.out.keeps hb)
    replace BX9 := Lib.hid (BX9.out.keeps hb)
    replace HIC := Lib.hid (HIC.out.keeps hb)
    replace HBW := Lib.hid (HBW.out.trans (hb.mono HBW.out.size))
    clear hb t0 t1 t2 t3 t4
    cases G with
    | false =>
      have hy0 : y = 0 := by rw [← HY.out, symCount_no HG.out]
      have hC0 : C = [] := by rw [← HCV.out]; unfold clsO; rw [if_neg (by rw [HG.out]; simp)]
      subst hy0
      subst hC0
      go_wp2
      go_ret
      exact ⟨rfl, HBW.out⟩
    | true =>
      obtain ⟨m, hNm, hm1, hm6⟩ := isC_cast HG.out
      subst hNm
      have hCe : C = classes m x9 := by rw [← HCV.out]; unfold clsO; rw [if_pos HG.out, Int.toNat_natCast]
      have hye : y = (symL m x9).length := by rw [← HY.out, symCount_yes HG.out, Int.toNat_natCast]
      have hy1 : 1 ≤ y := by rw [hye]; exact sym_pos HG.out
      have hstep : ∀ k, k < C.length → ∃ t : Nat, C.getD k 0 = (t : Int) ∧ t < 64 ∧ 0 < pc t ∧ sumC C k < 64 ∧ sumC C k &&& t = 0 ∧ y % pc t = 0 ∧ sumC C (k + 1) = sumC C k + t ∧ sumC C k + t < 64 := fun k hk => by subst hCe; subst hye; exact cls_step HG.out hk
      have hsum : sumC C C.length = 2 ^ m - 1 := by subst hCe; exact classes_sum HG.out
      have HST := Lib.hid hstep
      have HSUM := Lib.hid hsum
      clear hCe hye hstep hsum HCV HY
      obtain ⟨t0, t1, t2, t3, t4⟩ := BX9.out.1
      go_wp2
      go_loopw [25, 26] (fun s i wr => ∃ k : Nat, k ≤ C.length ∧ i = .int .i64 (k : Int) ∧ s = .int .i64 ((sumC C k : Nat) : Int) ∧ Below w22.heap.size w22 wr) (fun _ i _ => C.length - (intOf i).toNat)
      case atStart => exact ⟨0, Nat.zero_le _, rfl, rfl, Below.refl _ _⟩
      case round =>
        obtain ⟨k, hk, rfl, rfl, hB⟩ := hrel
        have HB := Lib.hid hB
        clear hB t0 t1 t2 t3 t4
        by_cases hlt : k < C.length
        · obtain ⟨b1, o1, rfl, g1⟩ := (HIC.out.keeps HB.out) k hlt
          obtain ⟨t, ht, ht6, hp1, hs6, hand, hrem, hnext, hst⟩ := HST.out k hlt
          rw [ht] at g1
          obtain ⟨p, hp⟩ : ∃ p, pc t = p := ⟨_, rfl⟩
          obtain ⟨S, hS⟩ : ∃ S, sumC C k = S := ⟨_, rfl⟩
          rw [hp] at hp1 hrem
          rw [hS] at hs6 hand hnext hst
          try rw [hS]
          have hand2 : bits BinOp.and IntKind.i64 (S : Int) (t : Int) = 0 := by rw [and_nat S t hs6 ht6, hand]; rfl
          have hrem2 : Int.tmod (y : Int) (p : Int) = 0 := by rw [← Int.ofNat_tmod, hrem]; rfl
          have hadd : wrap64 ((S : Int) + (t : Int)) = ((S + t : Nat) : Int) := by rw [show (S : Int) + (t : Int) = ((S + t : Nat) : Int) by simp]; exact IntWalk.wrap64_in _ (by omega)
          have HP := Lib.hid hp
          have HNX := Lib.hid hnext
          have HAND := Lib.hid hand
          have HREM := Lib.hid hrem
          clear hp hnext hand hrem ht
          go_wp2_with fail
          refine (sizeNat t p ht6 HP.out _).mono ?_
          rintro e w28 ⟨rfl, rfl⟩
          go_wp2
          go_roundw
          case rel => exact ⟨k + 1, by omega, by go_num, by rw [HNX.out, hadd], HB.out⟩
          case measure => simp [intOf]; omega
        · have E := Lib.hid (show k = C.length by omega)
          have hS : sumC C k = 2 ^ m - 1 := by rw [E.out]; exact HSUM.out
          rw [hS]
          have hpow : wrap64 (wrap64 (2 ^ m) - 1) = ((2 ^ m - 1 : Nat) : Int) := pow_less m (by omega)
          obtain ⟨t0, t1, t2, t3, t4⟩ := (BX9.out.keeps HB.out).1
          have hy2 : decide ((1 : Int) ≤ (y : Int)) = true := decide_eq_true (by omega)
          clear hS
          go_wp2
          go_ret
          exact ⟨rfl, HBW.out.trans (HB.out.mono HBW.out.size)⟩
  | true =>
    have hC4 : isC N4 x4 = true := by have h := EBC.out; rw [hBC] at h; revert h; unfold canonCO; by_cases e : isC N4 x4 = true
                                      · intro _; exact e
                                      · rw [if_neg e]; intro h; cases h
    have hal := canon_alike hC4
    rw [ENC.out, ELC.out] at hal
    have hka := KAl.out NC a5 c5 LC N4 a4 c4 x4 hc5 hc4 hlC hl4
    simp only [hal] at hka
    have HKA := Lib.hid hka
    clear hC4 hal hka
    obtain ⟨t0, t1, t2, t3, t4⟩ := BX4.out.1
    obtain ⟨s0, s1, s2, s3, s4⟩ := BX5.out.1
    go_wp2_with fail
    refine (HKA.out _ BX5.out.2 BX4.out.2).mono ?_
    rintro e w20 ⟨rfl, hb⟩
    replace BX4 := Lib.hid (BX4.out.keeps hb)
    replace BX5 := Lib.hid (BX5.out.keeps hb)
    replace BX9 := Lib.hid (BX9.out.keeps hb)
    replace HIC := Lib.hid (HIC.out.keeps hb)
    replace HBW := Lib.hid (HBW.out.trans (hb.mono HBW.out.size))
    clear hb t0 t1 t2 t3 t4 s0 s1 s2 s3 s4
    obtain ⟨G, hG⟩ : ∃ G, isC N9 x9 = G := ⟨_, rfl⟩
    have HG := Lib.hid hG
    clear hG
    obtain ⟨t0, t1, t2, t3, t4⟩ := BX9.out.1
    go_wp2_with fail
    refine (specIsC_b N9 a9 c9 x9 G HG.out hl9 _ BX9.out.2).mono ?_
    rintro e w22 ⟨rfl, hb⟩
    replace BX4 := Lib.hid (BX4.out.keeps hb)
    replace BX5 := Lib.hid (BX5.out.keeps hb)
    replace BX9 := Lib.hid (BX9.out.keeps hb)
    replace HIC := Lib.hid (HIC.out.keeps hb)
    replace HBW := Lib.hid (HBW.out.trans (hb.mono HBW.out.size))
    clear hb t0 t1 t2 t3 t4
    cases G with
    | false =>
      have hy0 : y = 0 := by rw [← HY.out, symCount_no HG.out]
      have hC0 : C = [] := by rw [← HCV.out]; unfold clsO; rw [if_neg (by rw [HG.out]; simp)]
      subst hy0
      subst hC0
      go_wp2
      go_ret
      exact ⟨rfl, HBW.out⟩
    | true =>
      obtain ⟨m, hNm, hm1, hm6⟩ := isC_cast HG.out
      subst hNm
      have hCe : C = classes m x9 := by rw [← HCV.out]; unfold clsO; rw [if_pos HG.out, Int.toNat_natCast]
      have hye : y = (symL m x9).length := by rw [← HY.out, symCount_yes HG.out, Int.toNat_natCast]
      have hy1 : 1 ≤ y := by rw [hye]; exact sym_pos HG.out
      have hstep : ∀ k, k < C.length → ∃ t : Nat, C.getD k 0 = (t : Int) ∧ t < 64 ∧ 0 < pc t ∧ sumC C k < 64 ∧ sumC C k &&& t = 0 ∧ y % pc t = 0 ∧ sumC C (k + 1) = sumC C k + t ∧ sumC C k + t < 64 := fun k hk => by subst hCe; subst hye; exact cls_step HG.out hk
      have hsum : sumC C C.length = 2 ^ m - 1 := by subst hCe; exact classes_sum HG.out
      have HST := Lib.hid hstep
      have HSUM := Lib.hid hsum
      clear hCe hye hstep hsum HCV HY
      obtain ⟨t0, t1, t2, t3, t4⟩ := BX9.out.1
      go_wp2
      go_loopw [25, 26] (fun s i wr => ∃ k : Nat, k ≤ C.length ∧ i = .int .i64 (k : Int) ∧ s = .int .i64 ((sumC C k : Nat) : Int) ∧ Below w22.heap.size w22 wr) (fun _ i _ => C.length - (intOf i).toNat)
      case atStart => exact ⟨0, Nat.zero_le _, rfl, rfl, Below.refl _ _⟩
      case round =>
        obtain ⟨k, hk, rfl, rfl, hB⟩ := hrel
        have HB := Lib.hid hB
        clear hB t0 t1 t2 t3 t4
        by_cases hlt : k < C.length
        · obtain ⟨b1, o1, rfl, g1⟩ := (HIC.out.keeps HB.out) k hlt
          obtain ⟨t, ht, ht6, hp1, hs6, hand, hrem, hnext, hst⟩ := HST.out k hlt
          rw [ht] at g1
          obtain ⟨p, hp⟩ : ∃ p, pc t = p := ⟨_, rfl⟩
          obtain ⟨S, hS⟩ : ∃ S, sumC C k = S := ⟨_, rfl⟩
          rw [hp] at hp1 hrem
          rw [hS] at hs6 hand hnext hst
          try rw [hS]
          have hand2 : bits BinOp.and IntKind.i64 (S : Int) (t : Int) = 0 := by rw [and_nat S t hs6 ht6, hand]; rfl
          have hrem2 : Int.tmod (y : Int) (p : Int) = 0 := by rw [← Int.ofNat_tmod, hrem]; rfl
          have hadd : wrap64 ((S : Int) + (t : Int)) = ((S + t : Nat) : Int) := by rw [show (S : Int) + (t : Int) = ((S + t : Nat) : Int) by simp]; exact IntWalk.wrap64_in _ (by omega)
          have HP := Lib.hid hp
          have HNX := Lib.hid hnext
          have HAND := Lib.hid hand
          have HREM := Lib.hid hrem
          clear hp hnext hand hrem ht
          go_wp2_with fail
          refine (sizeNat t p ht6 HP.out _).mono ?_
          rintro e w28 ⟨rfl, rfl⟩
          go_wp2
          go_roundw
          case rel => exact ⟨k + 1, by omega, by go_num, by rw [HNX.out, hadd], HB.out⟩
          case measure => simp [intOf]; omega
        · have E := Lib.hid (show k = C.length by omega)
          have hS : sumC C k = 2 ^ m - 1 := by rw [E.out]; exact HSUM.out
          rw [hS]
          have hpow : wrap64 (wrap64 (2 ^ m) - 1) = ((2 ^ m - 1 : Nat) : Int) := pow_less m (by omega)
          obtain ⟨t0, t1, t2, t3, t4⟩ := (BX9.out.keeps HB.out).1
          have hy2 : decide ((1 : Int) ≤ (y : Int)) = true := decide_eq_true (by omega)
          clear hS
          go_wp2
          go_ret
          exact ⟨rfl, HBW.out.trans (HB.out.mono HBW.out.size)⟩

end Go.Proofs.YtbkkdgmiokdbmaaGreat
