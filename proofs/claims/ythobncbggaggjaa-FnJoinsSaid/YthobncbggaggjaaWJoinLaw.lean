/-
  THE WALK of the law on joins (written by genjoinlaw.py).
-/
import Derived.Test.YthobncbggaggjaaWJoinR18
import Derived.Test.YthobncbggaggjaaWJoinR20
import Derived.Test.YthobncbggaggjaaWJoinR22
import Derived.Test.YthobncbggaggjaaWJoinR29
import Derived.Test.YthobncbggaggjaaWDrawCx10
import Derived.Deep.DeepCutAuto
namespace Go.Proofs.Ythobncbggaggjaa
open Go.RowKit
open Sets Lin Hom Join

set_option maxRecDepth 1000000 in
set_option maxHeartbeats 16000000 in
theorem joins_walk (IJoin : ∀ (n m : Int) (a b : Option Addr) (c d : Nat) (xs ys : List Int), xs.length ≤ c → ys.length ≤ d → xs.length ≤ 1099511627776 → ys.length ≤ 1099511627776 → ∀ W : World, Ints W a xs → Ints W b ys → Calls Try.prog 12 #[cx n (.slice a xs.length c), cx m (.slice b ys.length d)] W fun e w' => ∃ v, e = .returned (.tuple #[cx (oN (joinO n m xs ys)) v, .bool (joinO n m xs ys).isSome]) ∧ HasInts w' W.heap.size v (oL (joinO n m xs ys)) ∧ Below W.heap.size W w')
    (IDis : ∀ (n m : Int) (a b : Option Addr) (c d : Nat) (xs ys : List Int), xs.length ≤ c → ys.length ≤ d → xs.length ≤ 1099511627776 → ys.length ≤ 1099511627776 → ∀ W : World, Ints W a xs → Ints W b ys → Calls Try.prog 15 #[cx n (.slice a xs.length c), cx m (.slice b ys.length d)] W fun e w' => ∃ v, e = .returned (.tuple #[cx (oN (disO n m xs ys)) v, .bool (disO n m xs ys).isSome]) ∧ HasInts w' W.heap.size v (oL (disO n m xs ys)) ∧ Below W.heap.size W w')
    (ICone : ∀ (n : Int) (a : Option Addr) (c : Nat) (xs : List Int), xs.length ≤ c → xs.length ≤ 1099511627776 → ∀ W : World, Ints W a xs → Calls Try.prog 18 #[cx n (.slice a xs.length c)] W fun e w' => ∃ v, e = .returned (.tuple #[cx (oN (joinO n 1 xs [1])) v, .bool (joinO n 1 xs [1]).isSome]) ∧ HasInts w' W.heap.size v (oL (joinO n 1 xs [1])) ∧ Below W.heap.size W w')
    (ISusp : ∀ (n : Int) (a : Option Addr) (c : Nat) (xs : List Int), xs.length ≤ c → xs.length ≤ 1099511627776 → ∀ W : World, Ints W a xs → Calls Try.prog 20 #[cx n (.slice a xs.length c)] W fun e w' => ∃ v, e = .returned (.tuple #[cx (oN (joinO n 2 xs [1, 2])) v, .bool (joinO n 2 xs [1, 2]).isSome]) ∧ HasInts w' W.heap.size v (oL (joinO n 2 xs [1, 2])) ∧ Below W.heap.size W w')
    (IPts : ∀ (n : Int) (a : Option Addr) (c : Nat) (xs : List Int), xs.length ≤ c → xs.length ≤ 1099511627776 → ∀ W : World, Ints W a xs → Calls Try.prog 27 #[cx n (.slice a xs.length c)] W fun e w' => e = .returned (.int .i64 (conePts n xs : Nat)) ∧ Below W.heap.size W w')
    (ICross : ∀ (k : Int) (W : World), Calls Try.prog 24 #[.int .i64 k] W fun e w' => ∃ v, e = .returned (.tuple #[cx (oN (crossO k)) v, .bool (crossO k).isSome]) ∧ HasInts w' W.heap.size v (oL (crossO k)) ∧ Below W.heap.size W w')
    (a : Option Addr) (n c : Nat) (hn : n ≤ 9223372036854775807) (w : World) (hc : Code w a n) :
    Calls Try.prog 3 #[.slice a n c] w fun e w' => e = .returned (.bool true) ∧ Below w.heap.size w w' := by
  have HC := Lib.hid hc
  clear hc
  by_cases hbig : 1048576 < (n : Int)
  · go_enter Try.func3, Try.ntmps3
    go_wp2
    go_ret
    exact ⟨rfl, Below.refl _ _⟩
  have JJoin := Lib.hid IJoin
  have JDis := Lib.hid IDis
  have JCone := Lib.hid ICone
  have JSusp := Lib.hid ISusp
  have JPts := Lib.hid IPts
  have JCross := Lib.hid ICross
  clear IJoin IDis ICone ISusp IPts ICross
  go_enter Try.func3, Try.ntmps3
  go_wp2_with (go_at_call 10; go_in)
  refine (drawJoin_any a n c (by omega) _ HC.out).mono ?_
  rintro e w1 ⟨N1, N2, v, u, x1, x2, rfl, hx1, hx2, hO, hO2, hb⟩
  obtain ⟨a1, c1, rfl, hc1, hz1, hr⟩ := OwnInts.atn hO hb.size
  obtain ⟨a2, c2, rfl, hc2, hz2, hr2⟩ := OwnInts.atn hO2 hb.size
  have hl1 : x1.length ≤ 1099511627776 := Nat.le_trans hx1 (by decide)
  have hl2 : x2.length ≤ 1099511627776 := Nat.le_trans hx2 (by decide)
  have hb1 : Below w1.heap.size w1 (w1.alloc (.cells #[.int .i64 N1, .slice a1 x1.length c1] 26)) := (Below.refl _ _).alloc (Nat.le_refl _) _
  have hb2 : Below (w1.alloc (.cells #[.int .i64 N1, .slice a1 x1.length c1] 26)).heap.size (w1.alloc (.cells #[.int .i64 N1, .slice a1 x1.length c1] 26)) ((w1.alloc (.cells #[.int .i64 N1, .slice a1 x1.length c1] 26)).alloc (.cells #[.int .i64 N2, .slice a2 x2.length c2] 26)) := (Below.refl _ _).alloc (Nat.le_refl _) _
  have hba : Below w1.heap.size w1 ((w1.alloc (.cells #[.int .i64 N1, .slice a1 x1.length c1] 26)).alloc (.cells #[.int .i64 N2, .slice a2 x2.length c2] 26)) := hb1.alloc hb1.size _
  have HBW : Hid (Below w.heap.size w ((w1.alloc (.cells #[.int .i64 N1, .slice a1 x1.length c1] 26)).alloc (.cells #[.int .i64 N2, .slice a2 x2.length c2] 26))) := hb.trans (hba.mono hb.size)
  have BX1 := Lib.hid ((Bx.new (n := N1) (c := c1) hr 26).keeps hb2)
  have hbx := Bx.new (n := N2) (c := c2) (hr2.keeps hb1) 26
  rw [World.size_alloc] at hbx
  have BX2 := Lib.hid hbx
  clear hO hO2 hr hr2 hb hb1 hb2 hba hbx
  obtain ⟨NJ, hN⟩ : ∃ z, oN (joinO N1 N2 x1 x2) = z := ⟨_, rfl⟩
  obtain ⟨LJ, hL⟩ : ∃ z, oL (joinO N1 N2 x1 x2) = z := ⟨_, rfl⟩
  obtain ⟨BJ, hB⟩ : ∃ z, (joinO N1 N2 x1 x2).isSome = z := ⟨_, rfl⟩
  have hlJ : LJ.length ≤ 1099511627776 := by rw [← hL]; exact joinR_le _ _ _ _
  have hS := fun W hx hy => specJoin_any N1 N2 a1 a2 c1 c2 x1 x2 hl1 hl2 W hx hy
  have hG := JJoin.out N1 N2 a1 a2 c1 c2 x1 x2 hc1 hc2 hl1 hl2
  simp only [hN, hL, hB] at hS hG
  have SJ := Lib.hid hS
  have GJ := Lib.hid hG
  have ENJ := Lib.hid hN
  have ELJ := Lib.hid hL
  have EBJ := Lib.hid hB
  clear hS hG hN hL hB
  obtain ⟨t0, t1, t2, t3, t4⟩ := BX1.out.1
  obtain ⟨u0, u1, u2, u3, u4⟩ := BX2.out.1
  go_wp2_with fail
  refine (GJ.out _ BX1.out.2 BX2.out.2).mono ?_
  rintro e w3 ⟨v, rfl, hO, hb⟩
  obtain ⟨a3, c3, _, rfl, hc3, _, hr0, _⟩ := hO
  have hr := hr0.ints
  have hba : Below w3.heap.size w3 (w3.alloc (.cells #[.int .i64 NJ, .slice a3 LJ.length c3] 26)) := (Below.refl _ _).alloc (Nat.le_refl _) _
  replace BX1 := Lib.hid ((BX1.out.keeps hb).keeps hba)
  replace BX2 := Lib.hid ((BX2.out.keeps hb).keeps hba)
  replace HBW : Hid (Below w.heap.size w (w3.alloc (.cells #[.int .i64 NJ, .slice a3 LJ.length c3] 26))) := (HBW.out.trans (hb.mono HBW.out.size)).trans (hba.mono (Nat.le_trans HBW.out.size hb.size))
  have BX3 := Lib.hid (Bx.new (n := NJ) (c := c3) hr 26)
  clear hr0 hr hb hba t0 t1 t2 t3 t4 u0 u1 u2 u3 u4
  obtain ⟨t0, t1, t2, t3, t4⟩ := BX1.out.1
  obtain ⟨u0, u1, u2, u3, u4⟩ := BX2.out.1
  go_wp2_with fail
  refine (SJ.out _ BX1.out.2 BX2.out.2).mono ?_
  rintro e w4 ⟨v, rfl, hO, hb⟩
  obtain ⟨a4, c4, rfl, hc4, hz4, hr⟩ := OwnInts.atn hO hb.size
  have hba : Below w4.heap.size w4 (w4.alloc (.cells #[.int .i64 NJ, .slice a4 LJ.length c4] 26)) := (Below.refl _ _).alloc (Nat.le_refl _) _
  replace BX1 := Lib.hid ((BX1.out.keeps hb).keeps hba)
  replace BX2 := Lib.hid ((BX2.out.keeps hb).keeps hba)
  replace BX3 := Lib.hid ((BX3.out.keeps hb).keeps hba)
  replace HBW : Hid (Below w.heap.size w (w4.alloc (.cells #[.int .i64 NJ, .slice a4 LJ.length c4] 26))) := (HBW.out.trans (hb.mono HBW.out.size)).trans (hba.mono (Nat.le_trans HBW.out.size hb.size))
  have BX4 := Lib.hid (Bx.new (n := NJ) (c := c4) hr 26)
  clear hO hr hb hba t0 t1 t2 t3 t4 u0 u1 u2 u3 u4
  clear SJ GJ
  go_wp2_with fail
  refine (drawDis_any a n c (by omega) _ (HC.out.keeps HBW.out)).mono ?_
  rintro e w5 ⟨N5, N6, v, u, x5, x6, rfl, hx5, hx6, hO, hO2, hb⟩
  obtain ⟨a5, c5, rfl, hc5, hz5, hr⟩ := OwnInts.atn hO hb.size
  obtain ⟨a6, c6, rfl, hc6, hz6, hr2⟩ := OwnInts.atn hO2 hb.size
  have hl5 : x5.length ≤ 1099511627776 := Nat.le_trans hx5 (by decide)
  have hl6 : x6.length ≤ 1099511627776 := Nat.le_trans hx6 (by decide)
  have hb1 : Below w5.heap.size w5 (w5.alloc (.cells #[.int .i64 N5, .slice a5 x5.length c5] 26)) := (Below.refl _ _).alloc (Nat.le_refl _) _
  have hb2 : Below (w5.alloc (.cells #[.int .i64 N5, .slice a5 x5.length c5] 26)).heap.size (w5.alloc (.cells #[.int .i64 N5, .slice a5 x5.length c5] 26)) ((w5.alloc (.cells #[.int .i64 N5, .slice a5 x5.length c5] 26)).alloc (.cells #[.int .i64 N6, .slice a6 x6.length c6] 26)) := (Below.refl _ _).alloc (Nat.le_refl _) _
  have hba : Below w5.heap.size w5 ((w5.alloc (.cells #[.int .i64 N5, .slice a5 x5.length c5] 26)).alloc (.cells #[.int .i64 N6, .slice a6 x6.length c6] 26)) := hb1.alloc hb1.size _
  replace BX1 := Lib.hid ((BX1.out.keeps hb).keeps hba)
  replace BX2 := Lib.hid ((BX2.out.keeps hb).keeps hba)
  replace BX3 := Lib.hid ((BX3.out.keeps hb).keeps hba)
  replace BX4 := Lib.hid ((BX4.out.keeps hb).keeps hba)
  replace HBW : Hid (Below w.heap.size w ((w5.alloc (.cells #[.int .i64 N5, .slice a5 x5.length c5] 26)).alloc (.cells #[.int .i64 N6, .slice a6 x6.length c6] 26))) := (HBW.out.trans (hb.mono HBW.out.size)).trans (hba.mono (Nat.le_trans HBW.out.size hb.size))
  have BX5 := Lib.hid ((Bx.new (n := N5) (c := c5) hr 26).keeps hb2)
  have hbx := Bx.new (n := N6) (c := c6) (hr2.keeps hb1) 26
  rw [World.size_alloc] at hbx
  have BX6 := Lib.hid hbx
  clear hO hO2 hr hr2 hb hb1 hb2 hba hbx
  obtain ⟨NU, hN⟩ : ∃ z, oN (disO N5 N6 x5 x6) = z := ⟨_, rfl⟩
  obtain ⟨LU, hL⟩ : ∃ z, oL (disO N5 N6 x5 x6) = z := ⟨_, rfl⟩
  obtain ⟨BU, hB⟩ : ∃ z, (disO N5 N6 x5 x6).isSome = z := ⟨_, rfl⟩
  have hlU : LU.length ≤ 1099511627776 := by rw [← hL]; exact disR_le _ _ _ _
  have hS := fun W hx hy => specDis_any N5 N6 a5 a6 c5 c6 x5 x6 hl5 hl6 W hx hy
  have hG := JDis.out N5 N6 a5 a6 c5 c6 x5 x6 hc5 hc6 hl5 hl6
  simp only [hN, hL, hB] at hS hG
  have SU := Lib.hid hS
  have GU := Lib.hid hG
  have ENU := Lib.hid hN
  have ELU := Lib.hid hL
  have EBU := Lib.hid hB
  clear hS hG hN hL hB
  obtain ⟨t0, t1, t2, t3, t4⟩ := BX5.out.1
  obtain ⟨u0, u1, u2, u3, u4⟩ := BX6.out.1
  go_wp2_with fail
  refine (GU.out _ BX5.out.2 BX6.out.2).mono ?_
  rintro e w7 ⟨v, rfl, hO, hb⟩
  obtain ⟨a7, c7, _, rfl, hc7, _, hr0, _⟩ := hO
  have hr := hr0.ints
  have hba : Below w7.heap.size w7 (w7.alloc (.cells #[.int .i64 NU, .slice a7 LU.length c7] 26)) := (Below.refl _ _).alloc (Nat.le_refl _) _
  replace BX1 := Lib.hid ((BX1.out.keeps hb).keeps hba)
  replace BX2 := Lib.hid ((BX2.out.keeps hb).keeps hba)
  replace BX3 := Lib.hid ((BX3.out.keeps hb).keeps hba)
  replace BX4 := Lib.hid ((BX4.out.keeps hb).keeps hba)
  replace BX5 := Lib.hid ((BX5.out.keeps hb).keeps hba)
  replace BX6 := Lib.hid ((BX6.out.keeps hb).keeps hba)
  replace HBW : Hid (Below w.heap.size w (w7.alloc (.cells #[.int .i64 NU, .slice a7 LU.length c7] 26))) := (HBW.out.trans (hb.mono HBW.out.size)).trans (hba.mono (Nat.le_trans HBW.out.size hb.size))
  have BX7 := Lib.hid (Bx.new (n := NU) (c := c7) hr 26)
  clear hr0 hr hb hba t0 t1 t2 t3 t4 u0 u1 u2 u3 u4
  obtain ⟨t0, t1, t2, t3, t4⟩ := BX5.out.1
  obtain ⟨u0, u1, u2, u3, u4⟩ := BX6.out.1
  go_wp2_with fail
  refine (SU.out _ BX5.out.2 BX6.out.2).mono ?_
  rintro e w8 ⟨v, rfl, hO, hb⟩
  obtain ⟨a8, c8, rfl, hc8, hz8, hr⟩ := OwnInts.atn hO hb.size
  have hba : Below w8.heap.size w8 (w8.alloc (.cells #[.int .i64 NU, .slice a8 LU.length c8] 26)) := (Below.refl _ _).alloc (Nat.le_refl _) _
  replace BX1 := Lib.hid ((BX1.out.keeps hb).keeps hba)
  replace BX2 := Lib.hid ((BX2.out.keeps hb).keeps hba)
  replace BX3 := Lib.hid ((BX3.out.keeps hb).keeps hba)
  replace BX4 := Lib.hid ((BX4.out.keeps hb).keeps hba)
  replace BX5 := Lib.hid ((BX5.out.keeps hb).keeps hba)
  replace BX6 := Lib.hid ((BX6.out.keeps hb).keeps hba)
  replace BX7 := Lib.hid ((BX7.out.keeps hb).keeps hba)
  replace HBW : Hid (Below w.heap.size w (w8.alloc (.cells #[.int .i64 NU, .slice a8 LU.length c8] 26))) := (HBW.out.trans (hb.mono HBW.out.size)).trans (hba.mono (Nat.le_trans HBW.out.size hb.size))
  have BX8 := Lib.hid (Bx.new (n := NU) (c := c8) hr 26)
  clear hO hr hb hba t0 t1 t2 t3 t4 u0 u1 u2 u3 u4
  clear SU GU
  clear BX5 BX6
  go_wp2_with fail
  refine (drawCone_any a n c (by omega) _ (HC.out.keeps HBW.out)).mono ?_
  rintro e w9 ⟨N9, v, x9, rfl, hx9, hO, hb⟩
  obtain ⟨a9, c9, rfl, hc9, hz9, hr⟩ := OwnInts.atn hO hb.size
  have hl9 : x9.length ≤ 1099511627776 := Nat.le_trans hx9 (by decide)
  have hba : Below w9.heap.size w9 (w9.alloc (.cells #[.int .i64 N9, .slice a9 x9.length c9] 26)) := (Below.refl _ _).alloc (Nat.le_refl _) _
  replace BX1 := Lib.hid ((BX1.out.keeps hb).keeps hba)
  replace BX2 := Lib.hid ((BX2.out.keeps hb).keeps hba)
  replace BX3 := Lib.hid ((BX3.out.keeps hb).keeps hba)
  replace BX4 := Lib.hid ((BX4.out.keeps hb).keeps hba)
  replace BX7 := Lib.hid ((BX7.out.keeps hb).keeps hba)
  replace BX8 := Lib.hid ((BX8.out.keeps hb).keeps hba)
  replace HBW : Hid (Below w.heap.size w (w9.alloc (.cells #[.int .i64 N9, .slice a9 x9.length c9] 26))) := (HBW.out.trans (hb.mono HBW.out.size)).trans (hba.mono (Nat.le_trans HBW.out.size hb.size))
  have BX9 := Lib.hid (Bx.new (n := N9) (c := c9) hr 26)
  clear hO hr hb hba
  obtain ⟨NC, hN⟩ : ∃ z, oN (joinO N9 1 x9 [1]) = z := ⟨_, rfl⟩
  obtain ⟨LC, hL⟩ : ∃ z, oL (joinO N9 1 x9 [1]) = z := ⟨_, rfl⟩
  obtain ⟨BC, hB⟩ : ∃ z, (joinO N9 1 x9 [1]).isSome = z := ⟨_, rfl⟩
  have hlC : LC.length ≤ 1099511627776 := by rw [← hL]; exact joinR_le _ _ _ _
  have hS := fun W hx => specCone_any N9 a9 c9 x9 hl9 W hx
  have hG := JCone.out N9 a9 c9 x9 hc9 hl9
  simp only [hN, hL, hB] at hS hG
  have SC := Lib.hid hS
  have GC := Lib.hid hG
  have ENC := Lib.hid hN
  have ELC := Lib.hid hL
  have EBC := Lib.hid hB
  clear hS hG hN hL hB
  obtain ⟨t0, t1, t2, t3, t4⟩ := BX9.out.1
  go_wp2_with fail
  refine (GC.out _ BX9.out.2).mono ?_
  rintro e w10 ⟨v, rfl, hO, hb⟩
  obtain ⟨a10, c10, _, rfl, hc10, _, hr0, _⟩ := hO
  have hr := hr0.ints
  have hba : Below w10.heap.size w10 (w10.alloc (.cells #[.int .i64 NC, .slice a10 LC.length c10] 26)) := (Below.refl _ _).alloc (Nat.le_refl _) _
  replace BX1 := Lib.hid ((BX1.out.keeps hb).keeps hba)
  replace BX2 := Lib.hid ((BX2.out.keeps hb).keeps hba)
  replace BX3 := Lib.hid ((BX3.out.keeps hb).keeps hba)
  replace BX4 := Lib.hid ((BX4.out.keeps hb).keeps hba)
  replace BX7 := Lib.hid ((BX7.out.keeps hb).keeps hba)
  replace BX8 := Lib.hid ((BX8.out.keeps hb).keeps hba)
  replace BX9 := Lib.hid ((BX9.out.keeps hb).keeps hba)
  replace HBW : Hid (Below w.heap.size w (w10.alloc (.cells #[.int .i64 NC, .slice a10 LC.length c10] 26))) := (HBW.out.trans (hb.mono HBW.out.size)).trans (hba.mono (Nat.le_trans HBW.out.size hb.size))
  have BX10 := Lib.hid (Bx.new (n := NC) (c := c10) hr 26)
  clear hr0 hr hb hba t0 t1 t2 t3 t4
  obtain ⟨t0, t1, t2, t3, t4⟩ := BX9.out.1
  go_wp2_with fail
  refine (SC.out _ BX9.out.2).mono ?_
  rintro e w11 ⟨v, rfl, hO, hb⟩
  obtain ⟨a11, c11, rfl, hc11, hz11, hr⟩ := OwnInts.atn hO hb.size
  have hba : Below w11.heap.size w11 (w11.alloc (.cells #[.int .i64 NC, .slice a11 LC.length c11] 26)) := (Below.refl _ _).alloc (Nat.le_refl _) _
  replace BX1 := Lib.hid ((BX1.out.keeps hb).keeps hba)
  replace BX2 := Lib.hid ((BX2.out.keeps hb).keeps hba)
  replace BX3 := Lib.hid ((BX3.out.keeps hb).keeps hba)
  replace BX4 := Lib.hid ((BX4.out.keeps hb).keeps hba)
  replace BX7 := Lib.hid ((BX7.out.keeps hb).keeps hba)
  replace BX8 := Lib.hid ((BX8.out.keeps hb).keeps hba)
  replace BX9 := Lib.hid ((BX9.out.keeps hb).keeps hba)
  replace BX10 := Lib.hid ((BX10.out.keeps hb).keeps hba)
  replace HBW : Hid (Below w.heap.size w (w11.alloc (.cells #[.int .i64 NC, .slice a11 LC.length c11] 26))) := (HBW.out.trans (hb.mono HBW.out.size)).trans (hba.mono (Nat.le_trans HBW.out.size hb.size))
  have BX11 := Lib.hid (Bx.new (n := NC) (c := c11) hr 26)
  clear hO hr hb hba t0 t1 t2 t3 t4
  clear SC GC
  obtain ⟨NS, hN⟩ : ∃ z, oN (joinO N9 2 x9 [1, 2]) = z := ⟨_, rfl⟩
  obtain ⟨LS, hL⟩ : ∃ z, oL (joinO N9 2 x9 [1, 2]) = z := ⟨_, rfl⟩
  obtain ⟨BS, hB⟩ : ∃ z, (joinO N9 2 x9 [1, 2]).isSome = z := ⟨_, rfl⟩
  have hlS : LS.length ≤ 1099511627776 := by rw [← hL]; exact joinR_le _ _ _ _
  have hS := fun W hx => specSusp_any N9 a9 c9 x9 hl9 W hx
  have hG := JSusp.out N9 a9 c9 x9 hc9 hl9
  simp only [hN, hL, hB] at hS hG
  have SS := Lib.hid hS
  have GS := Lib.hid hG
  have ENS := Lib.hid hN
  have ELS := Lib.hid hL
  have EBS := Lib.hid hB
  clear hS hG hN hL hB
  obtain ⟨t0, t1, t2, t3, t4⟩ := BX9.out.1
  go_wp2_with fail
  refine (GS.out _ BX9.out.2).mono ?_
  rintro e w12 ⟨v, rfl, hO, hb⟩
  obtain ⟨a12, c12, _, rfl, hc12, _, hr0, _⟩ := hO
  have hr := hr0.ints
  have hba : Below w12.heap.size w12 (w12.alloc (.cells #[.int .i64 NS, .slice a12 LS.length c12] 26)) := (Below.refl _ _).alloc (Nat.le_refl _) _
  replace BX1 := Lib.hid ((BX1.out.keeps hb).keeps hba)
  replace BX2 := Lib.hid ((BX2.out.keeps hb).keeps hba)
  replace BX3 := Lib.hid ((BX3.out.keeps hb).keeps hba)
  replace BX4 := Lib.hid ((BX4.out.keeps hb).keeps hba)
  replace BX7 := Lib.hid ((BX7.out.keeps hb).keeps hba)
  replace BX8 := Lib.hid ((BX8.out.keeps hb).keeps hba)
  replace BX9 := Lib.hid ((BX9.out.keeps hb).keeps hba)
  replace BX10 := Lib.hid ((BX10.out.keeps hb).keeps hba)
  replace BX11 := Lib.hid ((BX11.out.keeps hb).keeps hba)
  replace HBW : Hid (Below w.heap.size w (w12.alloc (.cells #[.int .i64 NS, .slice a12 LS.length c12] 26))) := (HBW.out.trans (hb.mono HBW.out.size)).trans (hba.mono (Nat.le_trans HBW.out.size hb.size))
  have BX12 := Lib.hid (Bx.new (n := NS) (c := c12) hr 26)
  clear hr0 hr hb hba t0 t1 t2 t3 t4
  obtain ⟨t0, t1, t2, t3, t4⟩ := BX9.out.1
  go_wp2_with fail
  refine (SS.out _ BX9.out.2).mono ?_
  rintro e w13 ⟨v, rfl, hO, hb⟩
  obtain ⟨a13, c13, rfl, hc13, hz13, hr⟩ := OwnInts.atn hO hb.size
  have hba : Below w13.heap.size w13 (w13.alloc (.cells #[.int .i64 NS, .slice a13 LS.length c13] 26)) := (Below.refl _ _).alloc (Nat.le_refl _) _
  replace BX1 := Lib.hid ((BX1.out.keeps hb).keeps hba)
  replace BX2 := Lib.hid ((BX2.out.keeps hb).keeps hba)
  replace BX3 := Lib.hid ((BX3.out.keeps hb).keeps hba)
  replace BX4 := Lib.hid ((BX4.out.keeps hb).keeps hba)
  replace BX7 := Lib.hid ((BX7.out.keeps hb).keeps hba)
  replace BX8 := Lib.hid ((BX8.out.keeps hb).keeps hba)
  replace BX9 := Lib.hid ((BX9.out.keeps hb).keeps hba)
  replace BX10 := Lib.hid ((BX10.out.keeps hb).keeps hba)
  replace BX11 := Lib.hid ((BX11.out.keeps hb).keeps hba)
  replace BX12 := Lib.hid ((BX12.out.keeps hb).keeps hba)
  replace HBW : Hid (Below w.heap.size w (w13.alloc (.cells #[.int .i64 NS, .slice a13 LS.length c13] 26))) := (HBW.out.trans (hb.mono HBW.out.size)).trans (hba.mono (Nat.le_trans HBW.out.size hb.size))
  have BX13 := Lib.hid (Bx.new (n := NS) (c := c13) hr 26)
  clear hO hr hb hba t0 t1 t2 t3 t4
  clear SS GS
  go_wp2_with fail
  refine (drawPts_any a n c (by omega) _ (HC.out.keeps HBW.out)).mono ?_
  rintro e w14 ⟨N14, v, x14, rfl, hx14, hO, hb⟩
  obtain ⟨a14, c14, rfl, hc14, hz14, hr⟩ := OwnInts.atn hO hb.size
  have hl14 : x14.length ≤ 1099511627776 := Nat.le_trans hx14 (by decide)
  have hba : Below w14.heap.size w14 (w14.alloc (.cells #[.int .i64 N14, .slice a14 x14.length c14] 26)) := (Below.refl _ _).alloc (Nat.le_refl _) _
  replace BX1 := Lib.hid ((BX1.out.keeps hb).keeps hba)
  replace BX2 := Lib.hid ((BX2.out.keeps hb).keeps hba)
  replace BX3 := Lib.hid ((BX3.out.keeps hb).keeps hba)
  replace BX4 := Lib.hid ((BX4.out.keeps hb).keeps hba)
  replace BX7 := Lib.hid ((BX7.out.keeps hb).keeps hba)
  replace BX8 := Lib.hid ((BX8.out.keeps hb).keeps hba)
  replace BX9 := Lib.hid ((BX9.out.keeps hb).keeps hba)
  replace BX10 := Lib.hid ((BX10.out.keeps hb).keeps hba)
  replace BX11 := Lib.hid ((BX11.out.keeps hb).keeps hba)
  replace BX12 := Lib.hid ((BX12.out.keeps hb).keeps hba)
  replace BX13 := Lib.hid ((BX13.out.keeps hb).keeps hba)
  replace HBW : Hid (Below w.heap.size w (w14.alloc (.cells #[.int .i64 N14, .slice a14 x14.length c14] 26))) := (HBW.out.trans (hb.mono HBW.out.size)).trans (hba.mono (Nat.le_trans HBW.out.size hb.size))
  have BX14 := Lib.hid (Bx.new (n := N14) (c := c14) hr 26)
  clear hO hr hb hba
  go_wp2_with fail
  refine (drawCross_any a n c (by omega) _ (HC.out.keeps HBW.out)).mono ?_
  rintro e wK ⟨k, hk1, hk4, rfl, hb⟩
  replace BX1 := Lib.hid (BX1.out.keeps hb)
  replace BX2 := Lib.hid (BX2.out.keeps hb)
  replace BX3 := Lib.hid (BX3.out.keeps hb)
  replace BX4 := Lib.hid (BX4.out.keeps hb)
  replace BX7 := Lib.hid (BX7.out.keeps hb)
  replace BX8 := Lib.hid (BX8.out.keeps hb)
  replace BX9 := Lib.hid (BX9.out.keeps hb)
  replace BX10 := Lib.hid (BX10.out.keeps hb)
  replace BX11 := Lib.hid (BX11.out.keeps hb)
  replace BX12 := Lib.hid (BX12.out.keeps hb)
  replace BX13 := Lib.hid (BX13.out.keeps hb)
  replace BX14 := Lib.hid (BX14.out.keeps hb)
  replace HBW := Lib.hid (HBW.out.trans (hb.mono HBW.out.size))
  clear hb
  obtain ⟨NM, hN⟩ : ∃ z, oN (crossO k) = z := ⟨_, rfl⟩
  obtain ⟨LM, hL⟩ : ∃ z, oL (crossO k) = z := ⟨_, rfl⟩
  obtain ⟨BM, hB⟩ : ∃ z, (crossO k).isSome = z := ⟨_, rfl⟩
  have hlM : LM.length ≤ 1099511627776 := by rw [← hL]; exact crossR_le _
  have hS := fun W => specCross_any k W
  have hG := fun W => JCross.out k W
  simp only [hN, hL, hB] at hS hG
  have SM := Lib.hid hS
  have GM := Lib.hid hG
  have ENM := Lib.hid hN
  have ELM := Lib.hid hL
  have EBM := Lib.hid hB
  clear hS hG hN hL hB
  go_wp2_with fail
  refine (GM.out _).mono ?_
  rintro e w15 ⟨v, rfl, hO, hb⟩
  obtain ⟨a15, c15, _, rfl, hc15, _, hr0, _⟩ := hO
  have hr := hr0.ints
  have hba : Below w15.heap.size w15 (w15.alloc (.cells #[.int .i64 NM, .slice a15 LM.length c15] 26)) := (Below.refl _ _).alloc (Nat.le_refl _) _
  replace BX1 := Lib.hid ((BX1.out.keeps hb).keeps hba)
  replace BX2 := Lib.hid ((BX2.out.keeps hb).keeps hba)
  replace BX3 := Lib.hid ((BX3.out.keeps hb).keeps hba)
  replace BX4 := Lib.hid ((BX4.out.keeps hb).keeps hba)
  replace BX7 := Lib.hid ((BX7.out.keeps hb).keeps hba)
  replace BX8 := Lib.hid ((BX8.out.keeps hb).keeps hba)
  replace BX9 := Lib.hid ((BX9.out.keeps hb).keeps hba)
  replace BX10 := Lib.hid ((BX10.out.keeps hb).keeps hba)
  replace BX11 := Lib.hid ((BX11.out.keeps hb).keeps hba)
  replace BX12 := Lib.hid ((BX12.out.keeps hb).keeps hba)
  replace BX13 := Lib.hid ((BX13.out.keeps hb).keeps hba)
  replace BX14 := Lib.hid ((BX14.out.keeps hb).keeps hba)
  replace HBW : Hid (Below w.heap.size w (w15.alloc (.cells #[.int .i64 NM, .slice a15 LM.length c15] 26))) := (HBW.out.trans (hb.mono HBW.out.size)).trans (hba.mono (Nat.le_trans HBW.out.size hb.size))
  have BX15 := Lib.hid (Bx.new (n := NM) (c := c15) hr 26)
  clear hr0 hr hb hba
  go_wp2_with fail
  refine (SM.out _).mono ?_
  rintro e w16 ⟨v, rfl, hO, hb⟩
  obtain ⟨a16, c16, rfl, hc16, hz16, hr⟩ := OwnInts.atn hO hb.size
  have hba : Below w16.heap.size w16 (w16.alloc (.cells #[.int .i64 NM, .slice a16 LM.length c16] 26)) := (Below.refl _ _).alloc (Nat.le_refl _) _
  replace BX1 := Lib.hid ((BX1.out.keeps hb).keeps hba)
  replace BX2 := Lib.hid ((BX2.out.keeps hb).keeps hba)
  replace BX3 := Lib.hid ((BX3.out.keeps hb).keeps hba)
  replace BX4 := Lib.hid ((BX4.out.keeps hb).keeps hba)
  replace BX7 := Lib.hid ((BX7.out.keeps hb).keeps hba)
  replace BX8 := Lib.hid ((BX8.out.keeps hb).keeps hba)
  replace BX9 := Lib.hid ((BX9.out.keeps hb).keeps hba)
  replace BX10 := Lib.hid ((BX10.out.keeps hb).keeps hba)
  replace BX11 := Lib.hid ((BX11.out.keeps hb).keeps hba)
  replace BX12 := Lib.hid ((BX12.out.keeps hb).keeps hba)
  replace BX13 := Lib.hid ((BX13.out.keeps hb).keeps hba)
  replace BX14 := Lib.hid ((BX14.out.keeps hb).keeps hba)
  replace BX15 := Lib.hid ((BX15.out.keeps hb).keeps hba)
  replace HBW : Hid (Below w.heap.size w (w16.alloc (.cells #[.int .i64 NM, .slice a16 LM.length c16] 26))) := (HBW.out.trans (hb.mono HBW.out.size)).trans (hba.mono (Nat.le_trans HBW.out.size hb.size))
  have BX16 := Lib.hid (Bx.new (n := NM) (c := c16) hr 26)
  clear hO hr hb hba
  clear SM GM
  obtain ⟨W, hW⟩ : ∃ W, (w16.alloc (.cells #[.int .i64 NM, .slice a16 LM.length c16] 26)) = W := ⟨_, rfl⟩
  rw [hW] at BX1 BX2 BX3 BX4 BX7 BX8 BX9 BX10 BX11 BX12 BX13 BX14 BX15 BX16 HBW
  clear JJoin JDis JCone JSusp JCross HC
  go_upto_region 18 with fail
  try rw [hW]
  clear hW
  refine joins_r18 BX3.out BX4.out BX7.out BX8.out BX10.out BX11.out BX12.out BX13.out BX14.out BX15.out BX16.out hl14 hlC hlJ hlM hlS hlU hc14 JPts.out ?_
  intro v104 v105 v106 v107 v108 v109 v110 v111 v112 v113 v114 v115 v116 v117 v118 v119 v120 v121 v122 v123 v124 v125 v126 v127 v128 v129 v130 v131 v132 v133 v134 v135 v136 v137 v138 v139 v140 v141 v142 v143 v144 v145 v146 v147 v148 v149 v150 v151 v152 v153 v154 v155 v156 v157 v158 v159 v160 v161 v162 w18 hb
  clear BX4 BX7 BX8 BX11 BX13 BX14 BX16
  have BY1 := Lib.hid (BX1.out.keeps hb)
  have BY2 := Lib.hid (BX2.out.keeps hb)
  have BY3 := Lib.hid (BX3.out.keeps hb)
  have BY9 := Lib.hid (BX9.out.keeps hb)
  have BY10 := Lib.hid (BX10.out.keeps hb)
  have BY12 := Lib.hid (BX12.out.keeps hb)
  have BY15 := Lib.hid (BX15.out.keeps hb)
  replace BX1 := BY1
  replace BX2 := BY2
  replace BX3 := BY3
  replace BX9 := BY9
  replace BX10 := BY10
  replace BX12 := BY12
  replace BX15 := BY15
  replace HBW := Lib.hid (HBW.out.trans (hb.mono HBW.out.size))
  clear hb 
  go_upto_region 20 with fail
  refine joins_r20 BX1.out BX2.out BX3.out hl1 hl2 hlJ EBJ.out ENJ.out ELJ.out ?_
  intro v164 v165 v166 v167 v168 v169 v170 v171 v172 v173 v174 v175 v176 w20 hb
  clear BX1 BX2 BX3
  have BY9 := Lib.hid (BX9.out.keeps hb)
  have BY10 := Lib.hid (BX10.out.keeps hb)
  have BY12 := Lib.hid (BX12.out.keeps hb)
  have BY15 := Lib.hid (BX15.out.keeps hb)
  replace BX9 := BY9
  replace BX10 := BY10
  replace BX12 := BY12
  replace BX15 := BY15
  replace HBW := Lib.hid (HBW.out.trans (hb.mono HBW.out.size))
  clear hb 
  go_upto_region 22 with fail
  refine joins_r22 BX9.out BX10.out hl9 hlC hc10 JPts.out EBC.out ENC.out ELC.out ?_
  intro v178 v179 v180 v181 v182 v183 v184 v185 v186 v187 v188 v189 v190 v191 v192 v193 v194 v195 v196 v197 v198 v199 v200 v201 v202 v203 v204 w22 hb
  clear BX10 JPts
  have BY9 := Lib.hid (BX9.out.keeps hb)
  have BY12 := Lib.hid (BX12.out.keeps hb)
  have BY15 := Lib.hid (BX15.out.keeps hb)
  replace BX9 := BY9
  replace BX12 := BY12
  replace BX15 := BY15
  replace HBW := Lib.hid (HBW.out.trans (hb.mono HBW.out.size))
  clear hb 
  have IX9 := Lib.hid BX9.out.2
  have IX12 := Lib.hid BX12.out.2
  have IX15 := Lib.hid BX15.out.2
  obtain ⟨t0, t1, t2, t3, t4⟩ := BX9.out.1
  cases hk : BS with
  | false =>
    have BZ15 := Lib.hid (BX15.out.keeps (Below.refl w22.heap.size w22))
    have HBZ := Lib.hid (HBW.out.trans ((Below.refl w22.heap.size w22).mono HBW.out.size))
    go_upto_region 29 with fail
    refine joins_r29 BZ15.out hlM EBM.out ENM.out ELM.out ?_
    intro z236 z237 z238 z239 z240 z241 z242 z243 z244 z245 z246 z247 z248 z249 z250 w29 hb29
    have HBE := Lib.hid (HBZ.out.trans (hb29.mono HBZ.out.size))
    clear hb29
    go_wp2_with fail
    go_ret
    exact ⟨rfl, HBE.out⟩
  | true =>
    by_cases h0 : 0 < x9.length
    · have hok : joinOk N9 2 x9 [1, 2] = true := by have h := EBS.out; rw [hk] at h; unfold joinO at h; rwa [parts_someJ] at h
      have hp0 : decide ((x9.length : Int) > 0) = true := decide_eq_true (Int.natCast_pos.2 h0)
      have hp1 : decide ((0 : Int) < (x9.length : Int)) = true := decide_eq_true (Int.natCast_pos.2 h0)
      have hp2 : decide (0 < x9.length) = true := decide_eq_true h0
      have hNS : NS = N9 + 2 := by rw [← ENS.out]; unfold joinO partO; rw [if_pos hok]; rfl
      have hLS : LS = maxQ (joinQ N9.toNat (inF x9) (inF [1, 2])) := by rw [← ELS.out]; unfold joinO partO; rw [if_pos hok]; rfl
      have hsl := susp_list hok (List.length_pos_iff.1 h0)
      rw [← hNS, ← hLS] at hsl
      obtain ⟨L, hL⟩ : ∃ L, holF 3 (faces N9 x9) (top (faces N9 x9)) = L := ⟨_, rfl⟩
      have hLn : L.length ≤ 7 := by rw [← hL, holF_length]; exact top_le _
      have hLp : 0 < L.length := by rw [← hL, holF_length, faces_ord ((joinOk_iff _ _ _ _).1 hok).1]; exact top_pos (inF_zero (List.length_pos_iff.1 h0))
      rw [hL] at hsl
      have hH9 : ∀ W : World, Ints W a9 x9 → Calls Try.prog 31 #[cx N9 (.slice a9 x9.length c9), .int .i64 3] W fun e w' => ∃ v, e = .returned v ∧ OwnInts w' W.heap.size v L ∧ Below W.heap.size W w' := fun W h => by
        have h := holesMod_any 3 (.inr (.inl rfl)) N9 a9 c9 x9 hl9 W h
        rwa [hL] at h
      have hH12 : ∀ W : World, Ints W a12 LS → Calls Try.prog 31 #[cx NS (.slice a12 LS.length c12), .int .i64 3] W fun e w' => ∃ v, e = .returned v ∧ OwnInts w' W.heap.size v (0 :: L) ∧ Below W.heap.size W w' := fun W h => by
        have h := holesMod_any 3 (.inr (.inl rfl)) NS a12 c12 LS hlS W h
        rwa [hsl] at h
      have H9 := Lib.hid hH9
      have H12 := Lib.hid hH12
      clear hok hNS hLS hsl hL hH9 hH12 hk h0
      go_wp2_with fail
      refine (H9.out _ IX9.out).mono ?_
      rintro e w25 ⟨v25, rfl, hO, hb⟩
      obtain ⟨a25, c25, g25, rfl, hc25, _, hr25, _⟩ := OwnInts.ata hO hb.size
      have HB25 := Lib.hid hb
      have HR25 := Lib.hid hr25.ints
      clear hO hr25 hb t0 t1 t2 t3 t4
      obtain ⟨t0, t1, t2, t3, t4⟩ := BX12.out.1.keeps HB25.out
      go_wp2_with fail
      refine (H12.out _ (IX12.out.keeps HB25.out)).mono ?_
      rintro e w26 ⟨v26, rfl, hO, hb⟩
      obtain ⟨a26, c26, g26, rfl, hc26, _, hr26, _⟩ := OwnInts.ata hO hb.size
      have HB26 := Lib.hid (HB25.out.trans (hb.mono HB25.out.size))
      have HR26 := Lib.hid (HR25.out.keeps hb)
      obtain ⟨ha26, hz26, hi1⟩ := ints_tail hr26
      subst ha26
      have HI1 := Lib.hid hi1
      obtain ⟨hwl, hq1, hq2, hq3, hq4, hq5⟩ := tail_facts L.length c26 hc26 hLp hLn
      clear hO hr26 hb hi1 t0 t1 t2 t3 t4 hc26
      go_wp2_with fail
      refine (sameInt_any (some ⟨g26, 1, none⟩) a25 (c26 - 1) c25 L (Nat.le_trans hLn (by decide)) _ HI1.out HR26.out).mono ?_
      rintro e w27 ⟨rfl, hb⟩
      have HB27 := Lib.hid (HB26.out.trans (hb.mono HB26.out.size))
      clear hb hwl hq1 hq2 hq3 hq4 hq5 hLp hz26 hp0 hp1 hp2
      have BZ15 := Lib.hid (BX15.out.keeps HB27.out)
      have HBZ := Lib.hid (HBW.out.trans (HB27.out.mono HBW.out.size))
      go_upto_region 29 with fail
      refine joins_r29 BZ15.out hlM EBM.out ENM.out ELM.out ?_
      intro z236 z237 z238 z239 z240 z241 z242 z243 z244 z245 z246 z247 z248 z249 z250 w29 hb29
      have HBE := Lib.hid (HBZ.out.trans (hb29.mono HBZ.out.size))
      clear hb29
      go_wp2_with fail
      go_ret
      exact ⟨rfl, HBE.out⟩
    · have hpx : x9.length = 0 := Nat.eq_zero_of_not_pos h0
      have hp0 : decide ((x9.length : Int) > 0) = false := decide_eq_false (fun h => h0 (Int.natCast_pos.1 h))
      have hp1 : decide ((0 : Int) < (x9.length : Int)) = false := decide_eq_false (fun h => h0 (Int.natCast_pos.1 h))
      have hp2 : decide (0 < x9.length) = false := decide_eq_false h0
      clear hpx hk h0
      have BZ15 := Lib.hid (BX15.out.keeps (Below.refl w22.heap.size w22))
      have HBZ := Lib.hid (HBW.out.trans ((Below.refl w22.heap.size w22).mono HBW.out.size))
      go_upto_region 29 with fail
      refine joins_r29 BZ15.out hlM EBM.out ENM.out ELM.out ?_
      intro z236 z237 z238 z239 z240 z241 z242 z243 z244 z245 z246 z247 z248 z249 z250 w29 hb29
      have HBE := Lib.hid (HBZ.out.trans (hb29.mono HBZ.out.size))
      clear hb29
      go_wp2_with fail
      go_ret
      exact ⟨rfl, HBE.out⟩

end Go.Proofs.Ythobncbggaggjaa
