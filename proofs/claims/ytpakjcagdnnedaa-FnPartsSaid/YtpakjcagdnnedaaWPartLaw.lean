/-
  THE WALK of the law on parts of a complex (written by genpartlaw.py).
-/
import Derived.Test.YtpakjcagdnnedaaWPartB
import Derived.Deep.RegionHeld3
import Derived.IntWalk
namespace Go.Proofs.Ytpakjcagdnnedaa
open Go.RowKit
open Sets

theorem specSizeP_b (x s : Int) (hs : sizeZ x = s) (w : World) : Calls Try.prog 32 #[.int .i64 x] w fun e w' => e = .returned (.int .i64 s) ∧ w = w' := by
  subst hs; exact specSizeOf_any x w
theorem specFacesP_len (n : Int) (a : Option Addr) (c : Nat) (xs : List Int) (hlen : xs.length ≤ 1099511627776) (z : Nat) (hz : (faces n xs).length = z) (w : World) (h : Ints w a xs) :
    Calls Try.prog 31 #[cx n (.slice a xs.length c)] w fun e w' => ∃ a' c', e = .returned (.slice a' z c') ∧ Below w.heap.size w w' := by
  subst hz
  refine (specFaces_any n a c xs hlen w h).mono ?_
  rintro e w' ⟨v, rfl, hO, hb⟩
  obtain ⟨pa, pc0, pg, rfl, _⟩ := OwnInts.ata hO hb.size
  exact ⟨_, _, rfl, hb⟩
theorem bothOk_iff {n m : Int} {xs ys : List Int} : bothOk n m xs ys = true ↔ isC n xs = true ∧ isC m ys = true ∧ n = m := by
  unfold bothOk
  rw [Bool.and_eq_true, Bool.and_eq_true, beq_iff_eq, and_assoc]
theorem size_one {s : Nat} (hs : s < 64) (h : sizeZ (s : Int) = 1) : pc s = 1 := by
  rw [sizeZ_nat s hs] at h; omega

set_option maxRecDepth 100000 in
set_option maxHeartbeats 16000000 in
theorem parts_walk (ILink : ∀ (n : Int) (a : Option Addr) (c : Nat) (xs : List Int) (s : Int), xs.length ≤ c → xs.length ≤ 1099511627776 → ∀ W : World, Ints W a xs → Calls Try.prog 13 #[cx n (.slice a xs.length c), .int .i64 s] W fun e w' => ∃ v, e = .returned (.tuple #[cx (oN (linkO n xs s)) v, .bool (linkO n xs s).isSome]) ∧ HasInts w' W.heap.size v (oL (linkO n xs s)) ∧ Below W.heap.size W w')
    (IStar : ∀ (n : Int) (a : Option Addr) (c : Nat) (xs : List Int) (s : Int), xs.length ≤ c → xs.length ≤ 1099511627776 → ∀ W : World, Ints W a xs → Calls Try.prog 15 #[cx n (.slice a xs.length c), .int .i64 s] W fun e w' => ∃ v, e = .returned (.tuple #[cx (oN (starO n xs s)) v, .bool (starO n xs s).isSome]) ∧ HasInts w' W.heap.size v (oL (starO n xs s)) ∧ Below W.heap.size W w')
    (IDel : ∀ (n : Int) (a : Option Addr) (c : Nat) (xs : List Int) (s : Int), xs.length ≤ c → xs.length ≤ 1099511627776 → ∀ W : World, Ints W a xs → Calls Try.prog 17 #[cx n (.slice a xs.length c), .int .i64 s] W fun e w' => ∃ v, e = .returned (.tuple #[cx (oN (delO n xs s)) v, .bool (delO n xs s).isSome]) ∧ HasInts w' W.heap.size v (oL (delO n xs s)) ∧ Below W.heap.size W w')
    (ISkel : ∀ (n : Int) (a : Option Addr) (c : Nat) (xs : List Int) (s : Int), xs.length ≤ c → xs.length ≤ 1099511627776 → ∀ W : World, Ints W a xs → Calls Try.prog 20 #[cx n (.slice a xs.length c), .int .i64 s] W fun e w' => ∃ v, e = .returned (.tuple #[cx (oN (skelO n xs s)) v, .bool (skelO n xs s).isSome]) ∧ HasInts w' W.heap.size v (oL (skelO n xs s)) ∧ Below W.heap.size W w')
    (IInd : ∀ (n : Int) (a : Option Addr) (c : Nat) (xs : List Int) (s : Int), xs.length ≤ c → xs.length ≤ 1099511627776 → ∀ W : World, Ints W a xs → Calls Try.prog 23 #[cx n (.slice a xs.length c), .int .i64 s] W fun e w' => ∃ v, e = .returned (.tuple #[cx (oN (indO n xs s)) v, .bool (indO n xs s).isSome]) ∧ HasInts w' W.heap.size v (oL (indO n xs s)) ∧ Below W.heap.size W w')
    (IUnion : ∀ (n m : Int) (a b : Option Addr) (c d : Nat) (xs ys : List Int), xs.length ≤ c → ys.length ≤ d → xs.length ≤ 1099511627776 → ys.length ≤ 1099511627776 → ∀ W : World, Ints W a xs → Ints W b ys → Calls Try.prog 26 #[cx n (.slice a xs.length c), cx m (.slice b ys.length d)] W fun e w' => ∃ v, e = .returned (.tuple #[cx (oN (unionO n m xs ys)) v, .bool (unionO n m xs ys).isSome]) ∧ HasInts w' W.heap.size v (oL (unionO n m xs ys)) ∧ Below W.heap.size W w')
    (IMeet : ∀ (n m : Int) (a b : Option Addr) (c d : Nat) (xs ys : List Int), xs.length ≤ c → ys.length ≤ d → xs.length ≤ 1099511627776 → ys.length ≤ 1099511627776 → ∀ W : World, Ints W a xs → Ints W b ys → Calls Try.prog 28 #[cx n (.slice a xs.length c), cx m (.slice b ys.length d)] W fun e w' => ∃ v, e = .returned (.tuple #[cx (oN (meetO n m xs ys)) v, .bool (meetO n m xs ys).isSome]) ∧ HasInts w' W.heap.size v (oL (meetO n m xs ys)) ∧ Below W.heap.size W w')
    (a : Option Addr) (n c : Nat) (hn : n ≤ 9223372036854775807) (w : World) (hc : Code w a n) :
    Calls Try.prog 3 #[.slice a n c] w fun e w' => e = .returned (.bool true) ∧ Below w.heap.size w w' := by
  have HC := Lib.hid hc
  clear hc
  by_cases hbig : 1048576 < (n : Int)
  · go_enter Try.func3, Try.ntmps3
    go_wp2
    go_ret
    exact ⟨rfl, Below.refl _ _⟩
  have JLink := Lib.hid ILink
  have JStar := Lib.hid IStar
  have JDel := Lib.hid IDel
  have JSkel := Lib.hid ISkel
  have JInd := Lib.hid IInd
  have JUnion := Lib.hid IUnion
  have JMeet := Lib.hid IMeet
  clear ILink IStar IDel ISkel IInd IUnion IMeet
  go_enter Try.func3, Try.ntmps3
  go_wp2_with (go_at_call 11; go_in)
  refine (drawStar_any a n c (by omega) _ HC.out).mono ?_
  rintro e w1 ⟨N1, v, x1, s1, rfl, hx1, hO, hb⟩
  obtain ⟨a1, c1, rfl, hc1, hz1, hr⟩ := OwnInts.atn hO hb.size
  have hl1 : x1.length ≤ 1099511627776 := Nat.le_trans hx1 (by decide)
  have hba : Below w1.heap.size w1 (w1.alloc (.cells #[.int .i64 N1, .slice a1 x1.length c1] 26)) := (Below.refl _ _).alloc (Nat.le_refl _) _
  have HBW : Hid (Below w.heap.size w (w1.alloc (.cells #[.int .i64 N1, .slice a1 x1.length c1] 26))) := hb.trans (hba.mono hb.size)
  have BX1 := Lib.hid (Bx.new (n := N1) (c := c1) hr 26)
  clear hO hr hb hba
  obtain ⟨NLink, hN⟩ : ∃ z, oN (linkO N1 x1 s1) = z := ⟨_, rfl⟩
  obtain ⟨LLink, hL⟩ : ∃ z, oL (linkO N1 x1 s1) = z := ⟨_, rfl⟩
  obtain ⟨BLink, hB⟩ : ∃ z, (linkO N1 x1 s1).isSome = z := ⟨_, rfl⟩
  have hle : LLink.length ≤ 1099511627776 := by rw [← hL]; exact Nat.le_trans (partL_le _ _ _) (by decide)
  have hS := fun W h => specLink_any N1 a1 c1 x1 s1 hl1 W h
  have hG := JLink.out N1 a1 c1 x1 s1 hc1 hl1
  simp only [hN, hL, hB] at hS hG
  have SLink := Lib.hid hS
  have GLink := Lib.hid hG
  have ENLink := Lib.hid hN
  have ELLink := Lib.hid hL
  have EBLink := Lib.hid hB
  have hlLink := hle
  clear hS hG hN hL hB hle
  obtain ⟨t0, t1, t2, t3, t4⟩ := BX1.out.1
  go_wp2_with fail
  refine (GLink.out _ BX1.out.2).mono ?_
  rintro e w2 ⟨v, rfl, hO, hb⟩
  obtain ⟨a2, c2, _, rfl, hc2, _, hr0, _⟩ := hO
  have hr := hr0.ints
  have hba : Below w2.heap.size w2 (w2.alloc (.cells #[.int .i64 NLink, .slice a2 LLink.length c2] 26)) := (Below.refl _ _).alloc (Nat.le_refl _) _
  replace BX1 := Lib.hid ((BX1.out.keeps hb).keeps hba)
  replace HBW : Hid (Below w.heap.size w (w2.alloc (.cells #[.int .i64 NLink, .slice a2 LLink.length c2] 26))) := (HBW.out.trans (hb.mono HBW.out.size)).trans (hba.mono (Nat.le_trans HBW.out.size hb.size))
  have BX2 := Lib.hid (Bx.new (n := NLink) (c := c2) hr 26)
  clear hr0 hr hb hba t0 t1 t2 t3 t4
  obtain ⟨t0, t1, t2, t3, t4⟩ := BX1.out.1
  go_wp2_with fail
  refine (SLink.out _ BX1.out.2).mono ?_
  rintro e w3 ⟨v, rfl, hO, hb⟩
  obtain ⟨a3, c3, rfl, hc3, hz3, hr⟩ := OwnInts.atn hO hb.size
  have hba : Below w3.heap.size w3 (w3.alloc (.cells #[.int .i64 NLink, .slice a3 LLink.length c3] 26)) := (Below.refl _ _).alloc (Nat.le_refl _) _
  replace BX1 := Lib.hid ((BX1.out.keeps hb).keeps hba)
  replace BX2 := Lib.hid ((BX2.out.keeps hb).keeps hba)
  replace HBW : Hid (Below w.heap.size w (w3.alloc (.cells #[.int .i64 NLink, .slice a3 LLink.length c3] 26))) := (HBW.out.trans (hb.mono HBW.out.size)).trans (hba.mono (Nat.le_trans HBW.out.size hb.size))
  have BX3 := Lib.hid (Bx.new (n := NLink) (c := c3) hr 26)
  clear hO hr hb hba t0 t1 t2 t3 t4
  clear SLink GLink
  obtain ⟨NStar, hN⟩ : ∃ z, oN (starO N1 x1 s1) = z := ⟨_, rfl⟩
  obtain ⟨LStar, hL⟩ : ∃ z, oL (starO N1 x1 s1) = z := ⟨_, rfl⟩
  obtain ⟨BStar, hB⟩ : ∃ z, (starO N1 x1 s1).isSome = z := ⟨_, rfl⟩
  have hle : LStar.length ≤ 1099511627776 := by rw [← hL]; exact Nat.le_trans (partL_le _ _ _) (by decide)
  have hS := fun W h => specStar_any N1 a1 c1 x1 s1 hl1 W h
  have hG := JStar.out N1 a1 c1 x1 s1 hc1 hl1
  simp only [hN, hL, hB] at hS hG
  have SStar := Lib.hid hS
  have GStar := Lib.hid hG
  have ENStar := Lib.hid hN
  have ELStar := Lib.hid hL
  have EBStar := Lib.hid hB
  have hlStar := hle
  clear hS hG hN hL hB hle
  obtain ⟨t0, t1, t2, t3, t4⟩ := BX1.out.1
  go_wp2_with fail
  refine (GStar.out _ BX1.out.2).mono ?_
  rintro e w4 ⟨v, rfl, hO, hb⟩
  obtain ⟨a4, c4, _, rfl, hc4, _, hr0, _⟩ := hO
  have hr := hr0.ints
  have hba : Below w4.heap.size w4 (w4.alloc (.cells #[.int .i64 NStar, .slice a4 LStar.length c4] 26)) := (Below.refl _ _).alloc (Nat.le_refl _) _
  replace BX1 := Lib.hid ((BX1.out.keeps hb).keeps hba)
  replace BX2 := Lib.hid ((BX2.out.keeps hb).keeps hba)
  replace BX3 := Lib.hid ((BX3.out.keeps hb).keeps hba)
  replace HBW : Hid (Below w.heap.size w (w4.alloc (.cells #[.int .i64 NStar, .slice a4 LStar.length c4] 26))) := (HBW.out.trans (hb.mono HBW.out.size)).trans (hba.mono (Nat.le_trans HBW.out.size hb.size))
  have BX4 := Lib.hid (Bx.new (n := NStar) (c := c4) hr 26)
  clear hr0 hr hb hba t0 t1 t2 t3 t4
  obtain ⟨t0, t1, t2, t3, t4⟩ := BX1.out.1
  go_wp2_with fail
  refine (SStar.out _ BX1.out.2).mono ?_
  rintro e w5 ⟨v, rfl, hO, hb⟩
  obtain ⟨a5, c5, rfl, hc5, hz5, hr⟩ := OwnInts.atn hO hb.size
  have hba : Below w5.heap.size w5 (w5.alloc (.cells #[.int .i64 NStar, .slice a5 LStar.length c5] 26)) := (Below.refl _ _).alloc (Nat.le_refl _) _
  replace BX1 := Lib.hid ((BX1.out.keeps hb).keeps hba)
  replace BX2 := Lib.hid ((BX2.out.keeps hb).keeps hba)
  replace BX3 := Lib.hid ((BX3.out.keeps hb).keeps hba)
  replace BX4 := Lib.hid ((BX4.out.keeps hb).keeps hba)
  replace HBW : Hid (Below w.heap.size w (w5.alloc (.cells #[.int .i64 NStar, .slice a5 LStar.length c5] 26))) := (HBW.out.trans (hb.mono HBW.out.size)).trans (hba.mono (Nat.le_trans HBW.out.size hb.size))
  have BX5 := Lib.hid (Bx.new (n := NStar) (c := c5) hr 26)
  clear hO hr hb hba t0 t1 t2 t3 t4
  clear SStar GStar
  obtain ⟨NDel, hN⟩ : ∃ z, oN (delO N1 x1 s1) = z := ⟨_, rfl⟩
  obtain ⟨LDel, hL⟩ : ∃ z, oL (delO N1 x1 s1) = z := ⟨_, rfl⟩
  obtain ⟨BDel, hB⟩ : ∃ z, (delO N1 x1 s1).isSome = z := ⟨_, rfl⟩
  have hle : LDel.length ≤ 1099511627776 := by rw [← hL]; exact Nat.le_trans (partL_le _ _ _) (by decide)
  have hS := fun W h => specDel_any N1 a1 c1 x1 s1 hl1 W h
  have hG := JDel.out N1 a1 c1 x1 s1 hc1 hl1
  simp only [hN, hL, hB] at hS hG
  have SDel := Lib.hid hS
  have GDel := Lib.hid hG
  have ENDel := Lib.hid hN
  have ELDel := Lib.hid hL
  have EBDel := Lib.hid hB
  have hlDel := hle
  clear hS hG hN hL hB hle
  obtain ⟨t0, t1, t2, t3, t4⟩ := BX1.out.1
  go_wp2_with fail
  refine (GDel.out _ BX1.out.2).mono ?_
  rintro e w6 ⟨v, rfl, hO, hb⟩
  obtain ⟨a6, c6, _, rfl, hc6, _, hr0, _⟩ := hO
  have hr := hr0.ints
  have hba : Below w6.heap.size w6 (w6.alloc (.cells #[.int .i64 NDel, .slice a6 LDel.length c6] 26)) := (Below.refl _ _).alloc (Nat.le_refl _) _
  replace BX1 := Lib.hid ((BX1.out.keeps hb).keeps hba)
  replace BX2 := Lib.hid ((BX2.out.keeps hb).keeps hba)
  replace BX3 := Lib.hid ((BX3.out.keeps hb).keeps hba)
  replace BX4 := Lib.hid ((BX4.out.keeps hb).keeps hba)
  replace BX5 := Lib.hid ((BX5.out.keeps hb).keeps hba)
  replace HBW : Hid (Below w.heap.size w (w6.alloc (.cells #[.int .i64 NDel, .slice a6 LDel.length c6] 26))) := (HBW.out.trans (hb.mono HBW.out.size)).trans (hba.mono (Nat.le_trans HBW.out.size hb.size))
  have BX6 := Lib.hid (Bx.new (n := NDel) (c := c6) hr 26)
  clear hr0 hr hb hba t0 t1 t2 t3 t4
  obtain ⟨t0, t1, t2, t3, t4⟩ := BX1.out.1
  go_wp2_with fail
  refine (SDel.out _ BX1.out.2).mono ?_
  rintro e w7 ⟨v, rfl, hO, hb⟩
  obtain ⟨a7, c7, rfl, hc7, hz7, hr⟩ := OwnInts.atn hO hb.size
  have hba : Below w7.heap.size w7 (w7.alloc (.cells #[.int .i64 NDel, .slice a7 LDel.length c7] 26)) := (Below.refl _ _).alloc (Nat.le_refl _) _
  replace BX1 := Lib.hid ((BX1.out.keeps hb).keeps hba)
  replace BX2 := Lib.hid ((BX2.out.keeps hb).keeps hba)
  replace BX3 := Lib.hid ((BX3.out.keeps hb).keeps hba)
  replace BX4 := Lib.hid ((BX4.out.keeps hb).keeps hba)
  replace BX5 := Lib.hid ((BX5.out.keeps hb).keeps hba)
  replace BX6 := Lib.hid ((BX6.out.keeps hb).keeps hba)
  replace HBW : Hid (Below w.heap.size w (w7.alloc (.cells #[.int .i64 NDel, .slice a7 LDel.length c7] 26))) := (HBW.out.trans (hb.mono HBW.out.size)).trans (hba.mono (Nat.le_trans HBW.out.size hb.size))
  have BX7 := Lib.hid (Bx.new (n := NDel) (c := c7) hr 26)
  clear hO hr hb hba t0 t1 t2 t3 t4
  clear SDel GDel
  go_wp2_with fail
  refine (drawSkeleton_any a n c (by omega) _ (HC.out.keeps HBW.out)).mono ?_
  rintro e w8 ⟨N8, v, x8, s8, rfl, hx8, hO, hb⟩
  obtain ⟨a8, c8, rfl, hc8, hz8, hr⟩ := OwnInts.atn hO hb.size
  have hl8 : x8.length ≤ 1099511627776 := Nat.le_trans hx8 (by decide)
  have hba : Below w8.heap.size w8 (w8.alloc (.cells #[.int .i64 N8, .slice a8 x8.length c8] 26)) := (Below.refl _ _).alloc (Nat.le_refl _) _
  replace BX1 := Lib.hid ((BX1.out.keeps hb).keeps hba)
  replace BX2 := Lib.hid ((BX2.out.keeps hb).keeps hba)
  replace BX3 := Lib.hid ((BX3.out.keeps hb).keeps hba)
  replace BX4 := Lib.hid ((BX4.out.keeps hb).keeps hba)
  replace BX5 := Lib.hid ((BX5.out.keeps hb).keeps hba)
  replace BX6 := Lib.hid ((BX6.out.keeps hb).keeps hba)
  replace BX7 := Lib.hid ((BX7.out.keeps hb).keeps hba)
  replace HBW : Hid (Below w.heap.size w (w8.alloc (.cells #[.int .i64 N8, .slice a8 x8.length c8] 26))) := (HBW.out.trans (hb.mono HBW.out.size)).trans (hba.mono (Nat.le_trans HBW.out.size hb.size))
  have BX8 := Lib.hid (Bx.new (n := N8) (c := c8) hr 26)
  clear hO hr hb hba
  obtain ⟨NSkel, hN⟩ : ∃ z, oN (skelO N8 x8 s8) = z := ⟨_, rfl⟩
  obtain ⟨LSkel, hL⟩ : ∃ z, oL (skelO N8 x8 s8) = z := ⟨_, rfl⟩
  obtain ⟨BSkel, hB⟩ : ∃ z, (skelO N8 x8 s8).isSome = z := ⟨_, rfl⟩
  have hle : LSkel.length ≤ 1099511627776 := by rw [← hL]; exact Nat.le_trans (partL_le _ _ _) (by decide)
  have hS := fun W h => specSkel_any N8 a8 c8 x8 s8 hl8 W h
  have hG := JSkel.out N8 a8 c8 x8 s8 hc8 hl8
  simp only [hN, hL, hB] at hS hG
  have SSkel := Lib.hid hS
  have GSkel := Lib.hid hG
  have ENSkel := Lib.hid hN
  have ELSkel := Lib.hid hL
  have EBSkel := Lib.hid hB
  have hlSkel := hle
  clear hS hG hN hL hB hle
  obtain ⟨t0, t1, t2, t3, t4⟩ := BX8.out.1
  go_wp2_with fail
  refine (GSkel.out _ BX8.out.2).mono ?_
  rintro e w9 ⟨v, rfl, hO, hb⟩
  obtain ⟨a9, c9, _, rfl, hc9, _, hr0, _⟩ := hO
  have hr := hr0.ints
  have hba : Below w9.heap.size w9 (w9.alloc (.cells #[.int .i64 NSkel, .slice a9 LSkel.length c9] 26)) := (Below.refl _ _).alloc (Nat.le_refl _) _
  replace BX1 := Lib.hid ((BX1.out.keeps hb).keeps hba)
  replace BX2 := Lib.hid ((BX2.out.keeps hb).keeps hba)
  replace BX3 := Lib.hid ((BX3.out.keeps hb).keeps hba)
  replace BX4 := Lib.hid ((BX4.out.keeps hb).keeps hba)
  replace BX5 := Lib.hid ((BX5.out.keeps hb).keeps hba)
  replace BX6 := Lib.hid ((BX6.out.keeps hb).keeps hba)
  replace BX7 := Lib.hid ((BX7.out.keeps hb).keeps hba)
  replace BX8 := Lib.hid ((BX8.out.keeps hb).keeps hba)
  replace HBW : Hid (Below w.heap.size w (w9.alloc (.cells #[.int .i64 NSkel, .slice a9 LSkel.length c9] 26))) := (HBW.out.trans (hb.mono HBW.out.size)).trans (hba.mono (Nat.le_trans HBW.out.size hb.size))
  have BX9 := Lib.hid (Bx.new (n := NSkel) (c := c9) hr 26)
  clear hr0 hr hb hba t0 t1 t2 t3 t4
  obtain ⟨t0, t1, t2, t3, t4⟩ := BX8.out.1
  go_wp2_with fail
  refine (SSkel.out _ BX8.out.2).mono ?_
  rintro e w10 ⟨v, rfl, hO, hb⟩
  obtain ⟨a10, c10, rfl, hc10, hz10, hr⟩ := OwnInts.atn hO hb.size
  have hba : Below w10.heap.size w10 (w10.alloc (.cells #[.int .i64 NSkel, .slice a10 LSkel.length c10] 26)) := (Below.refl _ _).alloc (Nat.le_refl _) _
  replace BX1 := Lib.hid ((BX1.out.keeps hb).keeps hba)
  replace BX2 := Lib.hid ((BX2.out.keeps hb).keeps hba)
  replace BX3 := Lib.hid ((BX3.out.keeps hb).keeps hba)
  replace BX4 := Lib.hid ((BX4.out.keeps hb).keeps hba)
  replace BX5 := Lib.hid ((BX5.out.keeps hb).keeps hba)
  replace BX6 := Lib.hid ((BX6.out.keeps hb).keeps hba)
  replace BX7 := Lib.hid ((BX7.out.keeps hb).keeps hba)
  replace BX8 := Lib.hid ((BX8.out.keeps hb).keeps hba)
  replace BX9 := Lib.hid ((BX9.out.keeps hb).keeps hba)
  replace HBW : Hid (Below w.heap.size w (w10.alloc (.cells #[.int .i64 NSkel, .slice a10 LSkel.length c10] 26))) := (HBW.out.trans (hb.mono HBW.out.size)).trans (hba.mono (Nat.le_trans HBW.out.size hb.size))
  have BX10 := Lib.hid (Bx.new (n := NSkel) (c := c10) hr 26)
  clear hO hr hb hba t0 t1 t2 t3 t4
  clear SSkel GSkel
  go_wp2_with fail
  refine (drawInduced_any a n c (by omega) _ (HC.out.keeps HBW.out)).mono ?_
  rintro e w11 ⟨N11, v, x11, s11, rfl, hx11, hO, hb⟩
  obtain ⟨a11, c11, rfl, hc11, hz11, hr⟩ := OwnInts.atn hO hb.size
  have hl11 : x11.length ≤ 1099511627776 := Nat.le_trans hx11 (by decide)
  have hba : Below w11.heap.size w11 (w11.alloc (.cells #[.int .i64 N11, .slice a11 x11.length c11] 26)) := (Below.refl _ _).alloc (Nat.le_refl _) _
  replace BX1 := Lib.hid ((BX1.out.keeps hb).keeps hba)
  replace BX2 := Lib.hid ((BX2.out.keeps hb).keeps hba)
  replace BX3 := Lib.hid ((BX3.out.keeps hb).keeps hba)
  replace BX4 := Lib.hid ((BX4.out.keeps hb).keeps hba)
  replace BX5 := Lib.hid ((BX5.out.keeps hb).keeps hba)
  replace BX6 := Lib.hid ((BX6.out.keeps hb).keeps hba)
  replace BX7 := Lib.hid ((BX7.out.keeps hb).keeps hba)
  replace BX8 := Lib.hid ((BX8.out.keeps hb).keeps hba)
  replace BX9 := Lib.hid ((BX9.out.keeps hb).keeps hba)
  replace BX10 := Lib.hid ((BX10.out.keeps hb).keeps hba)
  replace HBW : Hid (Below w.heap.size w (w11.alloc (.cells #[.int .i64 N11, .slice a11 x11.length c11] 26))) := (HBW.out.trans (hb.mono HBW.out.size)).trans (hba.mono (Nat.le_trans HBW.out.size hb.size))
  have BX11 := Lib.hid (Bx.new (n := N11) (c := c11) hr 26)
  clear hO hr hb hba
  obtain ⟨NInd, hN⟩ : ∃ z, oN (indO N11 x11 s11) = z := ⟨_, rfl⟩
  obtain ⟨LInd, hL⟩ : ∃ z, oL (indO N11 x11 s11) = z := ⟨_, rfl⟩
  obtain ⟨BInd, hB⟩ : ∃ z, (indO N11 x11 s11).isSome = z := ⟨_, rfl⟩
  have hle : LInd.length ≤ 1099511627776 := by rw [← hL]; exact Nat.le_trans (partL_le _ _ _) (by decide)
  have hS := fun W h => specInd_any N11 a11 c11 x11 s11 hl11 W h
  have hG := JInd.out N11 a11 c11 x11 s11 hc11 hl11
  simp only [hN, hL, hB] at hS hG
  have SInd := Lib.hid hS
  have GInd := Lib.hid hG
  have ENInd := Lib.hid hN
  have ELInd := Lib.hid hL
  have EBInd := Lib.hid hB
  have hlInd := hle
  clear hS hG hN hL hB hle
  obtain ⟨t0, t1, t2, t3, t4⟩ := BX11.out.1
  go_wp2_with fail
  refine (GInd.out _ BX11.out.2).mono ?_
  rintro e w12 ⟨v, rfl, hO, hb⟩
  obtain ⟨a12, c12, _, rfl, hc12, _, hr0, _⟩ := hO
  have hr := hr0.ints
  have hba : Below w12.heap.size w12 (w12.alloc (.cells #[.int .i64 NInd, .slice a12 LInd.length c12] 26)) := (Below.refl _ _).alloc (Nat.le_refl _) _
  replace BX1 := Lib.hid ((BX1.out.keeps hb).keeps hba)
  replace BX2 := Lib.hid ((BX2.out.keeps hb).keeps hba)
  replace BX3 := Lib.hid ((BX3.out.keeps hb).keeps hba)
  replace BX4 := Lib.hid ((BX4.out.keeps hb).keeps hba)
  replace BX5 := Lib.hid ((BX5.out.keeps hb).keeps hba)
  replace BX6 := Lib.hid ((BX6.out.keeps hb).keeps hba)
  replace BX7 := Lib.hid ((BX7.out.keeps hb).keeps hba)
  replace BX8 := Lib.hid ((BX8.out.keeps hb).keeps hba)
  replace BX9 := Lib.hid ((BX9.out.keeps hb).keeps hba)
  replace BX10 := Lib.hid ((BX10.out.keeps hb).keeps hba)
  replace BX11 := Lib.hid ((BX11.out.keeps hb).keeps hba)
  replace HBW : Hid (Below w.heap.size w (w12.alloc (.cells #[.int .i64 NInd, .slice a12 LInd.length c12] 26))) := (HBW.out.trans (hb.mono HBW.out.size)).trans (hba.mono (Nat.le_trans HBW.out.size hb.size))
  have BX12 := Lib.hid (Bx.new (n := NInd) (c := c12) hr 26)
  clear hr0 hr hb hba t0 t1 t2 t3 t4
  obtain ⟨t0, t1, t2, t3, t4⟩ := BX11.out.1
  go_wp2_with fail
  refine (SInd.out _ BX11.out.2).mono ?_
  rintro e w13 ⟨v, rfl, hO, hb⟩
  obtain ⟨a13, c13, rfl, hc13, hz13, hr⟩ := OwnInts.atn hO hb.size
  have hba : Below w13.heap.size w13 (w13.alloc (.cells #[.int .i64 NInd, .slice a13 LInd.length c13] 26)) := (Below.refl _ _).alloc (Nat.le_refl _) _
  replace BX1 := Lib.hid ((BX1.out.keeps hb).keeps hba)
  replace BX2 := Lib.hid ((BX2.out.keeps hb).keeps hba)
  replace BX3 := Lib.hid ((BX3.out.keeps hb).keeps hba)
  replace BX4 := Lib.hid ((BX4.out.keeps hb).keeps hba)
  replace BX5 := Lib.hid ((BX5.out.keeps hb).keeps hba)
  replace BX6 := Lib.hid ((BX6.out.keeps hb).keeps hba)
  replace BX7 := Lib.hid ((BX7.out.keeps hb).keeps hba)
  replace BX8 := Lib.hid ((BX8.out.keeps hb).keeps hba)
  replace BX9 := Lib.hid ((BX9.out.keeps hb).keeps hba)
  replace BX10 := Lib.hid ((BX10.out.keeps hb).keeps hba)
  replace BX11 := Lib.hid ((BX11.out.keeps hb).keeps hba)
  replace BX12 := Lib.hid ((BX12.out.keeps hb).keeps hba)
  replace HBW : Hid (Below w.heap.size w (w13.alloc (.cells #[.int .i64 NInd, .slice a13 LInd.length c13] 26))) := (HBW.out.trans (hb.mono HBW.out.size)).trans (hba.mono (Nat.le_trans HBW.out.size hb.size))
  have BX13 := Lib.hid (Bx.new (n := NInd) (c := c13) hr 26)
  clear hO hr hb hba t0 t1 t2 t3 t4
  clear SInd GInd
  go_wp2_with fail
  refine (drawMeet_any a n c (by omega) _ (HC.out.keeps HBW.out)).mono ?_
  rintro e w14 ⟨N14, N15, v, u, x14, x15, rfl, hx14, hx15, hO, hO2, hb⟩
  obtain ⟨a14, c14, rfl, hc14, hz14, hr⟩ := OwnInts.atn hO hb.size
  obtain ⟨a15, c15, rfl, hc15, hz15, hr2⟩ := OwnInts.atn hO2 hb.size
  have hl14 : x14.length ≤ 1099511627776 := Nat.le_trans hx14 (by decide)
  have hl15 : x15.length ≤ 1099511627776 := Nat.le_trans hx15 (by decide)
  have hb1 : Below w14.heap.size w14 (w14.alloc (.cells #[.int .i64 N14, .slice a14 x14.length c14] 26)) := (Below.refl _ _).alloc (Nat.le_refl _) _
  have hb2 : Below (w14.alloc (.cells #[.int .i64 N14, .slice a14 x14.length c14] 26)).heap.size (w14.alloc (.cells #[.int .i64 N14, .slice a14 x14.length c14] 26)) ((w14.alloc (.cells #[.int .i64 N14, .slice a14 x14.length c14] 26)).alloc (.cells #[.int .i64 N15, .slice a15 x15.length c15] 26)) := (Below.refl _ _).alloc (Nat.le_refl _) _
  have hba : Below w14.heap.size w14 ((w14.alloc (.cells #[.int .i64 N14, .slice a14 x14.length c14] 26)).alloc (.cells #[.int .i64 N15, .slice a15 x15.length c15] 26)) := hb1.alloc hb1.size _
  replace BX1 := Lib.hid ((BX1.out.keeps hb).keeps hba)
  replace BX2 := Lib.hid ((BX2.out.keeps hb).keeps hba)
  replace BX3 := Lib.hid ((BX3.out.keeps hb).keeps hba)
  replace BX4 := Lib.hid ((BX4.out.keeps hb).keeps hba)
  replace BX5 := Lib.hid ((BX5.out.keeps hb).keeps hba)
  replace BX6 := Lib.hid ((BX6.out.keeps hb).keeps hba)
  replace BX7 := Lib.hid ((BX7.out.keeps hb).keeps hba)
  replace BX8 := Lib.hid ((BX8.out.keeps hb).keeps hba)
  replace BX9 := Lib.hid ((BX9.out.keeps hb).keeps hba)
  replace BX10 := Lib.hid ((BX10.out.keeps hb).keeps hba)
  replace BX11 := Lib.hid ((BX11.out.keeps hb).keeps hba)
  replace BX12 := Lib.hid ((BX12.out.keeps hb).keeps hba)
  replace BX13 := Lib.hid ((BX13.out.keeps hb).keeps hba)
  replace HBW : Hid (Below w.heap.size w ((w14.alloc (.cells #[.int .i64 N14, .slice a14 x14.length c14] 26)).alloc (.cells #[.int .i64 N15, .slice a15 x15.length c15] 26))) := (HBW.out.trans (hb.mono HBW.out.size)).trans (hba.mono (Nat.le_trans HBW.out.size hb.size))
  have BX14 := Lib.hid ((Bx.new (n := N14) (c := c14) hr 26).keeps hb2)
  have hbx := Bx.new (n := N15) (c := c15) (hr2.keeps hb1) 26
  rw [World.size_alloc] at hbx
  have BX15 := Lib.hid hbx
  clear hO hO2 hr hr2 hb hb1 hb2 hba hbx
  obtain ⟨NUnion, hN⟩ : ∃ z, oN (unionO N14 N15 x14 x15) = z := ⟨_, rfl⟩
  obtain ⟨LUnion, hL⟩ : ∃ z, oL (unionO N14 N15 x14 x15) = z := ⟨_, rfl⟩
  obtain ⟨BUnion, hB⟩ : ∃ z, (unionO N14 N15 x14 x15).isSome = z := ⟨_, rfl⟩
  have hle : LUnion.length ≤ 1099511627776 := by rw [← hL]; exact Nat.le_trans (partL_le _ _ _) (by decide)
  have hS := fun W hx hy => specUnion_any N14 N15 a14 a15 c14 c15 x14 x15 hl14 hl15 W hz14 hz15 hx hy
  have hG := JUnion.out N14 N15 a14 a15 c14 c15 x14 x15 hc14 hc15 hl14 hl15
  simp only [hN, hL, hB] at hS hG
  have SUnion := Lib.hid hS
  have GUnion := Lib.hid hG
  have ENUnion := Lib.hid hN
  have ELUnion := Lib.hid hL
  have EBUnion := Lib.hid hB
  have hlUnion := hle
  clear hS hG hN hL hB hle
  obtain ⟨t0, t1, t2, t3, t4⟩ := BX14.out.1
  obtain ⟨u0, u1, u2, u3, u4⟩ := BX15.out.1
  go_wp2_with fail
  refine (GUnion.out _ BX14.out.2 BX15.out.2).mono ?_
  rintro e w16 ⟨v, rfl, hO, hb⟩
  obtain ⟨a16, c16, _, rfl, hc16, _, hr0, _⟩ := hO
  have hr := hr0.ints
  have hba : Below w16.heap.size w16 (w16.alloc (.cells #[.int .i64 NUnion, .slice a16 LUnion.length c16] 26)) := (Below.refl _ _).alloc (Nat.le_refl _) _
  replace BX1 := Lib.hid ((BX1.out.keeps hb).keeps hba)
  replace BX2 := Lib.hid ((BX2.out.keeps hb).keeps hba)
  replace BX3 := Lib.hid ((BX3.out.keeps hb).keeps hba)
  replace BX4 := Lib.hid ((BX4.out.keeps hb).keeps hba)
  replace BX5 := Lib.hid ((BX5.out.keeps hb).keeps hba)
  replace BX6 := Lib.hid ((BX6.out.keeps hb).keeps hba)
  replace BX7 := Lib.hid ((BX7.out.keeps hb).keeps hba)
  replace BX8 := Lib.hid ((BX8.out.keeps hb).keeps hba)
  replace BX9 := Lib.hid ((BX9.out.keeps hb).keeps hba)
  replace BX10 := Lib.hid ((BX10.out.keeps hb).keeps hba)
  replace BX11 := Lib.hid ((BX11.out.keeps hb).keeps hba)
  replace BX12 := Lib.hid ((BX12.out.keeps hb).keeps hba)
  replace BX13 := Lib.hid ((BX13.out.keeps hb).keeps hba)
  replace BX14 := Lib.hid ((BX14.out.keeps hb).keeps hba)
  replace BX15 := Lib.hid ((BX15.out.keeps hb).keeps hba)
  replace HBW : Hid (Below w.heap.size w (w16.alloc (.cells #[.int .i64 NUnion, .slice a16 LUnion.length c16] 26))) := (HBW.out.trans (hb.mono HBW.out.size)).trans (hba.mono (Nat.le_trans HBW.out.size hb.size))
  have BX16 := Lib.hid (Bx.new (n := NUnion) (c := c16) hr 26)
  clear hr0 hr hb hba t0 t1 t2 t3 t4
  clear u0 u1 u2 u3 u4
  obtain ⟨t0, t1, t2, t3, t4⟩ := BX14.out.1
  obtain ⟨u0, u1, u2, u3, u4⟩ := BX15.out.1
  go_wp2_with fail
  refine (SUnion.out _ BX14.out.2 BX15.out.2).mono ?_
  rintro e w17 ⟨v, rfl, hO, hb⟩
  obtain ⟨a17, c17, rfl, hc17, hz17, hr⟩ := OwnInts.atn hO hb.size
  have hba : Below w17.heap.size w17 (w17.alloc (.cells #[.int .i64 NUnion, .slice a17 LUnion.length c17] 26)) := (Below.refl _ _).alloc (Nat.le_refl _) _
  replace BX1 := Lib.hid ((BX1.out.keeps hb).keeps hba)
  replace BX2 := Lib.hid ((BX2.out.keeps hb).keeps hba)
  replace BX3 := Lib.hid ((BX3.out.keeps hb).keeps hba)
  replace BX4 := Lib.hid ((BX4.out.keeps hb).keeps hba)
  replace BX5 := Lib.hid ((BX5.out.keeps hb).keeps hba)
  replace BX6 := Lib.hid ((BX6.out.keeps hb).keeps hba)
  replace BX7 := Lib.hid ((BX7.out.keeps hb).keeps hba)
  replace BX8 := Lib.hid ((BX8.out.keeps hb).keeps hba)
  replace BX9 := Lib.hid ((BX9.out.keeps hb).keeps hba)
  replace BX10 := Lib.hid ((BX10.out.keeps hb).keeps hba)
  replace BX11 := Lib.hid ((BX11.out.keeps hb).keeps hba)
  replace BX12 := Lib.hid ((BX12.out.keeps hb).keeps hba)
  replace BX13 := Lib.hid ((BX13.out.keeps hb).keeps hba)
  replace BX14 := Lib.hid ((BX14.out.keeps hb).keeps hba)
  replace BX15 := Lib.hid ((BX15.out.keeps hb).keeps hba)
  replace BX16 := Lib.hid ((BX16.out.keeps hb).keeps hba)
  replace HBW : Hid (Below w.heap.size w (w17.alloc (.cells #[.int .i64 NUnion, .slice a17 LUnion.length c17] 26))) := (HBW.out.trans (hb.mono HBW.out.size)).trans (hba.mono (Nat.le_trans HBW.out.size hb.size))
  have BX17 := Lib.hid (Bx.new (n := NUnion) (c := c17) hr 26)
  clear hO hr hb hba t0 t1 t2 t3 t4
  clear u0 u1 u2 u3 u4
  clear SUnion GUnion
  obtain ⟨NMeet, hN⟩ : ∃ z, oN (meetO N14 N15 x14 x15) = z := ⟨_, rfl⟩
  obtain ⟨LMeet, hL⟩ : ∃ z, oL (meetO N14 N15 x14 x15) = z := ⟨_, rfl⟩
  obtain ⟨BMeet, hB⟩ : ∃ z, (meetO N14 N15 x14 x15).isSome = z := ⟨_, rfl⟩
  have hle : LMeet.length ≤ 1099511627776 := by rw [← hL]; exact Nat.le_trans (partL_le _ _ _) (by decide)
  have hS := fun W hx hy => specMeet_any N14 N15 a14 a15 c14 c15 x14 x15 hl14 hl15 W hx hy
  have hG := JMeet.out N14 N15 a14 a15 c14 c15 x14 x15 hc14 hc15 hl14 hl15
  simp only [hN, hL, hB] at hS hG
  have SMeet := Lib.hid hS
  have GMeet := Lib.hid hG
  have ENMeet := Lib.hid hN
  have ELMeet := Lib.hid hL
  have EBMeet := Lib.hid hB
  have hlMeet := hle
  clear hS hG hN hL hB hle
  obtain ⟨t0, t1, t2, t3, t4⟩ := BX14.out.1
  obtain ⟨u0, u1, u2, u3, u4⟩ := BX15.out.1
  go_wp2_with fail
  refine (GMeet.out _ BX14.out.2 BX15.out.2).mono ?_
  rintro e w18 ⟨v, rfl, hO, hb⟩
  obtain ⟨a18, c18, _, rfl, hc18, _, hr0, _⟩ := hO
  have hr := hr0.ints
  have hba : Below w18.heap.size w18 (w18.alloc (.cells #[.int .i64 NMeet, .slice a18 LMeet.length c18] 26)) := (Below.refl _ _).alloc (Nat.le_refl _) _
  replace BX1 := Lib.hid ((BX1.out.keeps hb).keeps hba)
  replace BX2 := Lib.hid ((BX2.out.keeps hb).keeps hba)
  replace BX3 := Lib.hid ((BX3.out.keeps hb).keeps hba)
  replace BX4 := Lib.hid ((BX4.out.keeps hb).keeps hba)
  replace BX5 := Lib.hid ((BX5.out.keeps hb).keeps hba)
  replace BX6 := Lib.hid ((BX6.out.keeps hb).keeps hba)
  replace BX7 := Lib.hid ((BX7.out.keeps hb).keeps hba)
  replace BX8 := Lib.hid ((BX8.out.keeps hb).keeps hba)
  replace BX9 := Lib.hid ((BX9.out.keeps hb).keeps hba)
  replace BX10 := Lib.hid ((BX10.out.keeps hb).keeps hba)
  replace BX11 := Lib.hid ((BX11.out.keeps hb).keeps hba)
  replace BX12 := Lib.hid ((BX12.out.keeps hb).keeps hba)
  replace BX13 := Lib.hid ((BX13.out.keeps hb).keeps hba)
  replace BX14 := Lib.hid ((BX14.out.keeps hb).keeps hba)
  replace BX15 := Lib.hid ((BX15.out.keeps hb).keeps hba)
  replace BX16 := Lib.hid ((BX16.out.keeps hb).keeps hba)
  replace BX17 := Lib.hid ((BX17.out.keeps hb).keeps hba)
  replace HBW : Hid (Below w.heap.size w (w18.alloc (.cells #[.int .i64 NMeet, .slice a18 LMeet.length c18] 26))) := (HBW.out.trans (hb.mono HBW.out.size)).trans (hba.mono (Nat.le_trans HBW.out.size hb.size))
  have BX18 := Lib.hid (Bx.new (n := NMeet) (c := c18) hr 26)
  clear hr0 hr hb hba t0 t1 t2 t3 t4
  clear u0 u1 u2 u3 u4
  obtain ⟨t0, t1, t2, t3, t4⟩ := BX14.out.1
  obtain ⟨u0, u1, u2, u3, u4⟩ := BX15.out.1
  go_wp2_with fail
  refine (SMeet.out _ BX14.out.2 BX15.out.2).mono ?_
  rintro e w19 ⟨v, rfl, hO, hb⟩
  obtain ⟨a19, c19, rfl, hc19, hz19, hr⟩ := OwnInts.atn hO hb.size
  have hba : Below w19.heap.size w19 (w19.alloc (.cells #[.int .i64 NMeet, .slice a19 LMeet.length c19] 26)) := (Below.refl _ _).alloc (Nat.le_refl _) _
  replace BX1 := Lib.hid ((BX1.out.keeps hb).keeps hba)
  replace BX2 := Lib.hid ((BX2.out.keeps hb).keeps hba)
  replace BX3 := Lib.hid ((BX3.out.keeps hb).keeps hba)
  replace BX4 := Lib.hid ((BX4.out.keeps hb).keeps hba)
  replace BX5 := Lib.hid ((BX5.out.keeps hb).keeps hba)
  replace BX6 := Lib.hid ((BX6.out.keeps hb).keeps hba)
  replace BX7 := Lib.hid ((BX7.out.keeps hb).keeps hba)
  replace BX8 := Lib.hid ((BX8.out.keeps hb).keeps hba)
  replace BX9 := Lib.hid ((BX9.out.keeps hb).keeps hba)
  replace BX10 := Lib.hid ((BX10.out.keeps hb).keeps hba)
  replace BX11 := Lib.hid ((BX11.out.keeps hb).keeps hba)
  replace BX12 := Lib.hid ((BX12.out.keeps hb).keeps hba)
  replace BX13 := Lib.hid ((BX13.out.keeps hb).keeps hba)
  replace BX14 := Lib.hid ((BX14.out.keeps hb).keeps hba)
  replace BX15 := Lib.hid ((BX15.out.keeps hb).keeps hba)
  replace BX16 := Lib.hid ((BX16.out.keeps hb).keeps hba)
  replace BX17 := Lib.hid ((BX17.out.keeps hb).keeps hba)
  replace BX18 := Lib.hid ((BX18.out.keeps hb).keeps hba)
  replace HBW : Hid (Below w.heap.size w (w19.alloc (.cells #[.int .i64 NMeet, .slice a19 LMeet.length c19] 26))) := (HBW.out.trans (hb.mono HBW.out.size)).trans (hba.mono (Nat.le_trans HBW.out.size hb.size))
  have BX19 := Lib.hid (Bx.new (n := NMeet) (c := c19) hr 26)
  clear hO hr hb hba t0 t1 t2 t3 t4
  clear u0 u1 u2 u3 u4
  clear SMeet GMeet
  obtain ⟨t0, t1, t2, t3, t4⟩ := BX2.out.1
  obtain ⟨u0, u1, u2, u3, u4⟩ := BX3.out.1
  go_wp2_with fail
  refine (sameCx_any NLink a2 a3 c2 c3 LLink hlLink _ BX2.out.2 BX3.out.2).mono ?_
  rintro e w20 ⟨rfl, hb⟩
  replace BX1 := Lib.hid (BX1.out.keeps hb)
  replace BX2 := Lib.hid (BX2.out.keeps hb)
  replace BX3 := Lib.hid (BX3.out.keeps hb)
  replace BX4 := Lib.hid (BX4.out.keeps hb)
  replace BX5 := Lib.hid (BX5.out.keeps hb)
  replace BX6 := Lib.hid (BX6.out.keeps hb)
  replace BX7 := Lib.hid (BX7.out.keeps hb)
  replace BX8 := Lib.hid (BX8.out.keeps hb)
  replace BX9 := Lib.hid (BX9.out.keeps hb)
  replace BX10 := Lib.hid (BX10.out.keeps hb)
  replace BX11 := Lib.hid (BX11.out.keeps hb)
  replace BX12 := Lib.hid (BX12.out.keeps hb)
  replace BX13 := Lib.hid (BX13.out.keeps hb)
  replace BX14 := Lib.hid (BX14.out.keeps hb)
  replace BX15 := Lib.hid (BX15.out.keeps hb)
  replace BX16 := Lib.hid (BX16.out.keeps hb)
  replace BX17 := Lib.hid (BX17.out.keeps hb)
  replace BX18 := Lib.hid (BX18.out.keeps hb)
  replace BX19 := Lib.hid (BX19.out.keeps hb)
  replace HBW : Hid (Below w.heap.size w w20) := HBW.out.trans (hb.mono HBW.out.size)
  clear hb t0 t1 t2 t3 t4 u0 u1 u2 u3 u4
  obtain ⟨t0, t1, t2, t3, t4⟩ := BX4.out.1
  obtain ⟨u0, u1, u2, u3, u4⟩ := BX5.out.1
  go_wp2_with fail
  refine (sameCx_any NStar a4 a5 c4 c5 LStar hlStar _ BX4.out.2 BX5.out.2).mono ?_
  rintro e w21 ⟨rfl, hb⟩
  replace BX1 := Lib.hid (BX1.out.keeps hb)
  replace BX2 := Lib.hid (BX2.out.keeps hb)
  replace BX3 := Lib.hid (BX3.out.keeps hb)
  replace BX4 := Lib.hid (BX4.out.keeps hb)
  replace BX5 := Lib.hid (BX5.out.keeps hb)
  replace BX6 := Lib.hid (BX6.out.keeps hb)
  replace BX7 := Lib.hid (BX7.out.keeps hb)
  replace BX8 := Lib.hid (BX8.out.keeps hb)
  replace BX9 := Lib.hid (BX9.out.keeps hb)
  replace BX10 := Lib.hid (BX10.out.keeps hb)
  replace BX11 := Lib.hid (BX11.out.keeps hb)
  replace BX12 := Lib.hid (BX12.out.keeps hb)
  replace BX13 := Lib.hid (BX13.out.keeps hb)
  replace BX14 := Lib.hid (BX14.out.keeps hb)
  replace BX15 := Lib.hid (BX15.out.keeps hb)
  replace BX16 := Lib.hid (BX16.out.keeps hb)
  replace BX17 := Lib.hid (BX17.out.keeps hb)
  replace BX18 := Lib.hid (BX18.out.keeps hb)
  replace BX19 := Lib.hid (BX19.out.keeps hb)
  replace HBW : Hid (Below w.heap.size w w21) := HBW.out.trans (hb.mono HBW.out.size)
  clear hb t0 t1 t2 t3 t4 u0 u1 u2 u3 u4
  obtain ⟨t0, t1, t2, t3, t4⟩ := BX6.out.1
  obtain ⟨u0, u1, u2, u3, u4⟩ := BX7.out.1
  go_wp2_with fail
  refine (sameCx_any NDel a6 a7 c6 c7 LDel hlDel _ BX6.out.2 BX7.out.2).mono ?_
  rintro e w22 ⟨rfl, hb⟩
  replace BX1 := Lib.hid (BX1.out.keeps hb)
  replace BX2 := Lib.hid (BX2.out.keeps hb)
  replace BX3 := Lib.hid (BX3.out.keeps hb)
  replace BX4 := Lib.hid (BX4.out.keeps hb)
  replace BX5 := Lib.hid (BX5.out.keeps hb)
  replace BX6 := Lib.hid (BX6.out.keeps hb)
  replace BX7 := Lib.hid (BX7.out.keeps hb)
  replace BX8 := Lib.hid (BX8.out.keeps hb)
  replace BX9 := Lib.hid (BX9.out.keeps hb)
  replace BX10 := Lib.hid (BX10.out.keeps hb)
  replace BX11 := Lib.hid (BX11.out.keeps hb)
  replace BX12 := Lib.hid (BX12.out.keeps hb)
  replace BX13 := Lib.hid (BX13.out.keeps hb)
  replace BX14 := Lib.hid (BX14.out.keeps hb)
  replace BX15 := Lib.hid (BX15.out.keeps hb)
  replace BX16 := Lib.hid (BX16.out.keeps hb)
  replace BX17 := Lib.hid (BX17.out.keeps hb)
  replace BX18 := Lib.hid (BX18.out.keeps hb)
  replace BX19 := Lib.hid (BX19.out.keeps hb)
  replace HBW : Hid (Below w.heap.size w w22) := HBW.out.trans (hb.mono HBW.out.size)
  clear hb t0 t1 t2 t3 t4 u0 u1 u2 u3 u4
  obtain ⟨t0, t1, t2, t3, t4⟩ := BX9.out.1
  obtain ⟨u0, u1, u2, u3, u4⟩ := BX10.out.1
  go_wp2_with fail
  refine (sameCx_any NSkel a9 a10 c9 c10 LSkel hlSkel _ BX9.out.2 BX10.out.2).mono ?_
  rintro e w23 ⟨rfl, hb⟩
  replace BX1 := Lib.hid (BX1.out.keeps hb)
  replace BX2 := Lib.hid (BX2.out.keeps hb)
  replace BX3 := Lib.hid (BX3.out.keeps hb)
  replace BX4 := Lib.hid (BX4.out.keeps hb)
  replace BX5 := Lib.hid (BX5.out.keeps hb)
  replace BX6 := Lib.hid (BX6.out.keeps hb)
  replace BX7 := Lib.hid (BX7.out.keeps hb)
  replace BX8 := Lib.hid (BX8.out.keeps hb)
  replace BX9 := Lib.hid (BX9.out.keeps hb)
  replace BX10 := Lib.hid (BX10.out.keeps hb)
  replace BX11 := Lib.hid (BX11.out.keeps hb)
  replace BX12 := Lib.hid (BX12.out.keeps hb)
  replace BX13 := Lib.hid (BX13.out.keeps hb)
  replace BX14 := Lib.hid (BX14.out.keeps hb)
  replace BX15 := Lib.hid (BX15.out.keeps hb)
  replace BX16 := Lib.hid (BX16.out.keeps hb)
  replace BX17 := Lib.hid (BX17.out.keeps hb)
  replace BX18 := Lib.hid (BX18.out.keeps hb)
  replace BX19 := Lib.hid (BX19.out.keeps hb)
  replace HBW : Hid (Below w.heap.size w w23) := HBW.out.trans (hb.mono HBW.out.size)
  clear hb t0 t1 t2 t3 t4 u0 u1 u2 u3 u4
  obtain ⟨t0, t1, t2, t3, t4⟩ := BX12.out.1
  obtain ⟨u0, u1, u2, u3, u4⟩ := BX13.out.1
  go_wp2_with fail
  refine (sameCx_any NInd a12 a13 c12 c13 LInd hlInd _ BX12.out.2 BX13.out.2).mono ?_
  rintro e w24 ⟨rfl, hb⟩
  replace BX1 := Lib.hid (BX1.out.keeps hb)
  replace BX2 := Lib.hid (BX2.out.keeps hb)
  replace BX3 := Lib.hid (BX3.out.keeps hb)
  replace BX4 := Lib.hid (BX4.out.keeps hb)
  replace BX5 := Lib.hid (BX5.out.keeps hb)
  replace BX6 := Lib.hid (BX6.out.keeps hb)
  replace BX7 := Lib.hid (BX7.out.keeps hb)
  replace BX8 := Lib.hid (BX8.out.keeps hb)
  replace BX9 := Lib.hid (BX9.out.keeps hb)
  replace BX10 := Lib.hid (BX10.out.keeps hb)
  replace BX11 := Lib.hid (BX11.out.keeps hb)
  replace BX12 := Lib.hid (BX12.out.keeps hb)
  replace BX13 := Lib.hid (BX13.out.keeps hb)
  replace BX14 := Lib.hid (BX14.out.keeps hb)
  replace BX15 := Lib.hid (BX15.out.keeps hb)
  replace BX16 := Lib.hid (BX16.out.keeps hb)
  replace BX17 := Lib.hid (BX17.out.keeps hb)
  replace BX18 := Lib.hid (BX18.out.keeps hb)
  replace BX19 := Lib.hid (BX19.out.keeps hb)
  replace HBW : Hid (Below w.heap.size w w24) := HBW.out.trans (hb.mono HBW.out.size)
  clear hb t0 t1 t2 t3 t4 u0 u1 u2 u3 u4
  obtain ⟨t0, t1, t2, t3, t4⟩ := BX16.out.1
  obtain ⟨u0, u1, u2, u3, u4⟩ := BX17.out.1
  go_wp2_with fail
  refine (sameCx_any NUnion a16 a17 c16 c17 LUnion hlUnion _ BX16.out.2 BX17.out.2).mono ?_
  rintro e w25 ⟨rfl, hb⟩
  replace BX1 := Lib.hid (BX1.out.keeps hb)
  replace BX2 := Lib.hid (BX2.out.keeps hb)
  replace BX3 := Lib.hid (BX3.out.keeps hb)
  replace BX4 := Lib.hid (BX4.out.keeps hb)
  replace BX5 := Lib.hid (BX5.out.keeps hb)
  replace BX6 := Lib.hid (BX6.out.keeps hb)
  replace BX7 := Lib.hid (BX7.out.keeps hb)
  replace BX8 := Lib.hid (BX8.out.keeps hb)
  replace BX9 := Lib.hid (BX9.out.keeps hb)
  replace BX10 := Lib.hid (BX10.out.keeps hb)
  replace BX11 := Lib.hid (BX11.out.keeps hb)
  replace BX12 := Lib.hid (BX12.out.keeps hb)
  replace BX13 := Lib.hid (BX13.out.keeps hb)
  replace BX14 := Lib.hid (BX14.out.keeps hb)
  replace BX15 := Lib.hid (BX15.out.keeps hb)
  replace BX16 := Lib.hid (BX16.out.keeps hb)
  replace BX17 := Lib.hid (BX17.out.keeps hb)
  replace BX18 := Lib.hid (BX18.out.keeps hb)
  replace BX19 := Lib.hid (BX19.out.keeps hb)
  replace HBW : Hid (Below w.heap.size w w25) := HBW.out.trans (hb.mono HBW.out.size)
  clear hb t0 t1 t2 t3 t4 u0 u1 u2 u3 u4
  obtain ⟨t0, t1, t2, t3, t4⟩ := BX18.out.1
  obtain ⟨u0, u1, u2, u3, u4⟩ := BX19.out.1
  go_wp2_with fail
  refine (sameCx_any NMeet a18 a19 c18 c19 LMeet hlMeet _ BX18.out.2 BX19.out.2).mono ?_
  rintro e w26 ⟨rfl, hb⟩
  replace BX1 := Lib.hid (BX1.out.keeps hb)
  replace BX2 := Lib.hid (BX2.out.keeps hb)
  replace BX3 := Lib.hid (BX3.out.keeps hb)
  replace BX4 := Lib.hid (BX4.out.keeps hb)
  replace BX5 := Lib.hid (BX5.out.keeps hb)
  replace BX6 := Lib.hid (BX6.out.keeps hb)
  replace BX7 := Lib.hid (BX7.out.keeps hb)
  replace BX8 := Lib.hid (BX8.out.keeps hb)
  replace BX9 := Lib.hid (BX9.out.keeps hb)
  replace BX10 := Lib.hid (BX10.out.keeps hb)
  replace BX11 := Lib.hid (BX11.out.keeps hb)
  replace BX12 := Lib.hid (BX12.out.keeps hb)
  replace BX13 := Lib.hid (BX13.out.keeps hb)
  replace BX14 := Lib.hid (BX14.out.keeps hb)
  replace BX15 := Lib.hid (BX15.out.keeps hb)
  replace BX16 := Lib.hid (BX16.out.keeps hb)
  replace BX17 := Lib.hid (BX17.out.keeps hb)
  replace BX18 := Lib.hid (BX18.out.keeps hb)
  replace BX19 := Lib.hid (BX19.out.keeps hb)
  replace HBW : Hid (Below w.heap.size w w26) := HBW.out.trans (hb.mono HBW.out.size)
  clear hb t0 t1 t2 t3 t4 u0 u1 u2 u3 u4
  clear BX3 BX5 BX7 BX8 BX9 BX10 BX11 BX12 BX13 BX17 BX19
  cases hk : bothOk N14 N15 x14 x15 with
  | false =>
    have eUnion : BUnion = false := by rw [← EBUnion.out]; unfold unionO; rw [parts_some]; exact hk
    have eMeet : BMeet = false := by rw [← EBMeet.out]; unfold meetO; rw [parts_some]; exact hk
    subst eUnion
    subst eMeet
    clear BX14 BX15 BX16 BX18
    go_wp2_with fail
    go_quiet (fail)
    replace BX1 := Lib.hid (BX1.out.keeps (Mem.below_drewN _ nq))
    replace BX2 := Lib.hid (BX2.out.keeps (Mem.below_drewN _ nq))
    replace BX4 := Lib.hid (BX4.out.keeps (Mem.below_drewN _ nq))
    replace BX6 := Lib.hid (BX6.out.keeps (Mem.below_drewN _ nq))
    replace HBW := Lib.hid (HBW.out.trans ((Mem.below_drewN _ nq).mono HBW.out.size))
    cases hm : (isC N1 x1 && setB N1 s1) with
    | false =>
      have eLink : BLink = false := by rw [← EBLink.out]; unfold linkO; rw [parts_some]; exact hm
      have eStar : BStar = false := by rw [← EBStar.out]; unfold starO; rw [parts_some]; exact hm
      have eDel : BDel = false := by rw [← EBDel.out]; unfold delO; rw [parts_some]; exact hm
      subst eLink
      subst eStar
      subst eDel
      go_wp2
      go_ret
      exact ⟨rfl, HBW.out⟩
    | true =>
      have eLink : BLink = true := by rw [← EBLink.out]; unfold linkO; rw [parts_some]; exact hm
      have eStar : BStar = true := by rw [← EBStar.out]; unfold starO; rw [parts_some]; exact hm
      have eDel : BDel = true := by rw [← EBDel.out]; unfold delO; rw [parts_some]; exact hm
      subst eLink
      subst eStar
      subst eDel
      have hcc := (Bool.and_eq_true _ _ ▸ hm : isC N1 x1 = true ∧ setB N1 s1 = true)
      have hNLink : NLink = N1 := by rw [← ENLink.out]; unfold linkO partO; rw [if_pos hm]; rfl
      have hLLink : LLink = maxQ (linkQ x1 s1.toNat) := by rw [← ELLink.out]; unfold linkO partO; rw [if_pos hm]; rfl
      have hNStar : NStar = N1 := by rw [← ENStar.out]; unfold starO partO; rw [if_pos hm]; rfl
      have hLStar : LStar = maxQ (starQ x1 s1.toNat) := by rw [← ELStar.out]; unfold starO partO; rw [if_pos hm]; rfl
      have hNDel : NDel = N1 := by rw [← ENDel.out]; unfold delO partO; rw [if_pos hm]; rfl
      have hLDel : LDel = maxQ (delQ x1 s1.toNat) := by rw [← ELDel.out]; unfold delO partO; rw [if_pos hm]; rfl
      have hok : bothOk NStar NDel LStar LDel = true := by unfold bothOk; rw [hNStar, hNDel, hLStar, hLDel, star_isC hcc.1, del_isC hcc.1]; simp
      have hU : unionO NStar NDel LStar LDel = some (N1, x1) := by unfold unionO partO; rw [if_pos hok, hLStar, hLDel, star_or_del hcc.1, hNStar]
      obtain ⟨M, hM⟩ : ∃ M, maxQ (andQ LStar LDel) = M := ⟨_, rfl⟩
      have hMe : meetO NStar NDel LStar LDel = some (N1, M) := by unfold meetO partO; rw [if_pos hok, hM, hNStar]
      have hMlen : M.length ≤ 1099511627776 := by rw [← hM]; exact Nat.le_trans (maxQ_le _) (by decide)
      have hone : sizeZ s1 = 1 → M = LLink := fun h1 => by
        obtain ⟨s, rfl, hs⟩ := okZ_cast s1 (setB_ok hcc.2)
        rw [← hM, hLStar, hLDel, hLLink]
        exact star_and_del x1 s hs (size_one hs h1)
      have HONE := Lib.hid hone
      have hUnionC : ∀ W : World, Ints W a4 LStar → Ints W a6 LDel → Calls Try.prog 26 #[cx NStar (.slice a4 LStar.length c4), cx NDel (.slice a6 LDel.length c6)] W fun e w' => ∃ v, e = .returned (.tuple #[cx N1 v, .bool true]) ∧ HasInts w' W.heap.size v x1 ∧ Below W.heap.size W w' := fun W h1 h2 => by
        have h := JUnion.out NStar NDel a4 a6 c4 c6 LStar LDel hc4 hc6 hlStar hlDel W h1 h2
        rw [hU] at h
        exact h
      have HUnionC := Lib.hid hUnionC
      have hMeetC : ∀ W : World, Ints W a4 LStar → Ints W a6 LDel → Calls Try.prog 28 #[cx NStar (.slice a4 LStar.length c4), cx NDel (.slice a6 LDel.length c6)] W fun e w' => ∃ v, e = .returned (.tuple #[cx N1 v, .bool true]) ∧ HasInts w' W.heap.size v M ∧ Below W.heap.size W w' := fun W h1 h2 => by
        have h := JMeet.out NStar NDel a4 a6 c4 c6 LStar LDel hc4 hc6 hlStar hlDel W h1 h2
        rw [hMe] at h
        exact h
      have HMeetC := Lib.hid hMeetC
      have HNL := Lib.hid hNLink
      clear hm hcc hok hU hMe hM hone hUnionC hMeetC hNLink hNStar hNDel hLLink hLStar hLDel
      obtain ⟨t0, t1, t2, t3, t4⟩ := BX4.out.1
      obtain ⟨u0, u1, u2, u3, u4⟩ := BX6.out.1
      go_wp2_with fail
      refine (HUnionC.out _ BX4.out.2 BX6.out.2).mono ?_
      rintro e w30 ⟨v, rfl, hO, hb⟩
      obtain ⟨a30, c30, _, rfl, hc30, _, hr0, _⟩ := hO
      have hba : Below w30.heap.size w30 (w30.alloc (.cells #[.int .i64 N1, .slice a30 x1.length c30] 26)) := (Below.refl _ _).alloc (Nat.le_refl _) _
      replace BX1 := Lib.hid ((BX1.out.keeps hb).keeps hba)
      replace BX2 := Lib.hid ((BX2.out.keeps hb).keeps hba)
      replace BX4 := Lib.hid ((BX4.out.keeps hb).keeps hba)
      replace BX6 := Lib.hid ((BX6.out.keeps hb).keeps hba)
      replace HBW : Hid (Below w.heap.size w (w30.alloc (.cells #[.int .i64 N1, .slice a30 x1.length c30] 26))) := (HBW.out.trans (hb.mono HBW.out.size)).trans (hba.mono (Nat.le_trans HBW.out.size hb.size))
      have BX30 := Lib.hid (Bx.new (n := N1) (c := c30) hr0.ints 26)
      clear hr0 hb hba t0 t1 t2 t3 t4 u0 u1 u2 u3 u4
      obtain ⟨t0, t1, t2, t3, t4⟩ := BX4.out.1
      obtain ⟨u0, u1, u2, u3, u4⟩ := BX6.out.1
      go_wp2_with fail
      refine (HMeetC.out _ BX4.out.2 BX6.out.2).mono ?_
      rintro e w31 ⟨v, rfl, hO, hb⟩
      obtain ⟨a31, c31, _, rfl, hc31, _, hr0, _⟩ := hO
      have hba : Below w31.heap.size w31 (w31.alloc (.cells #[.int .i64 N1, .slice a31 M.length c31] 26)) := (Below.refl _ _).alloc (Nat.le_refl _) _
      replace BX1 := Lib.hid ((BX1.out.keeps hb).keeps hba)
      replace BX2 := Lib.hid ((BX2.out.keeps hb).keeps hba)
      replace BX4 := Lib.hid ((BX4.out.keeps hb).keeps hba)
      replace BX6 := Lib.hid ((BX6.out.keeps hb).keeps hba)
      replace BX30 := Lib.hid ((BX30.out.keeps hb).keeps hba)
      replace HBW : Hid (Below w.heap.size w (w31.alloc (.cells #[.int .i64 N1, .slice a31 M.length c31] 26))) := (HBW.out.trans (hb.mono HBW.out.size)).trans (hba.mono (Nat.le_trans HBW.out.size hb.size))
      have BX31 := Lib.hid (Bx.new (n := N1) (c := c31) hr0.ints 26)
      clear hr0 hb hba t0 t1 t2 t3 t4 u0 u1 u2 u3 u4
      obtain ⟨t0, t1, t2, t3, t4⟩ := BX30.out.1
      obtain ⟨u0, u1, u2, u3, u4⟩ := BX1.out.1
      go_wp2_with fail
      refine (sameCx_any N1 a30 a1 c30 c1 x1 hl1 _ BX30.out.2 BX1.out.2).mono ?_
      rintro e w32 ⟨rfl, hb⟩
      replace BX2 := Lib.hid (BX2.out.keeps hb)
      replace BX31 := Lib.hid (BX31.out.keeps hb)
      replace HBW : Hid (Below w.heap.size w w32) := HBW.out.trans (hb.mono HBW.out.size)
      clear hb t0 t1 t2 t3 t4 u0 u1 u2 u3 u4
      obtain ⟨z, hz⟩ : ∃ z, sizeZ s1 = z := ⟨_, rfl⟩
      rw [hz] at HONE
      have HZ := Lib.hid hz
      clear hz
      go_wp2_with fail
      refine (specSizeP_b s1 z HZ.out _).mono ?_
      rintro e w33 ⟨rfl, rfl⟩
      by_cases h1 : z = 1
      · subst h1
        have hml : M = LLink := HONE.out rfl
        have hnl := HNL.out
        clear HONE HNL
        subst hml
        subst hnl
        obtain ⟨t0, t1, t2, t3, t4⟩ := BX31.out.1
        obtain ⟨u0, u1, u2, u3, u4⟩ := BX2.out.1
        go_wp2_with fail
        refine (sameCx_any NLink a31 a2 c31 c2 M hMlen _ BX31.out.2 BX2.out.2).mono ?_
        rintro e w34 ⟨rfl, hb⟩
        replace HBW : Hid (Below w.heap.size w w34) := HBW.out.trans (hb.mono HBW.out.size)
        clear hb t0 t1 t2 t3 t4 u0 u1 u2 u3 u4
        go_wp2
        go_ret
        exact ⟨rfl, HBW.out⟩
      · have hz1 : (z != 1) = true := by simpa using h1
        go_wp2
        go_ret
        exact ⟨rfl, HBW.out⟩
  | true =>
    have eUnion : BUnion = true := by rw [← EBUnion.out]; unfold unionO; rw [parts_some]; exact hk
    have eMeet : BMeet = true := by rw [← EBMeet.out]; unfold meetO; rw [parts_some]; exact hk
    subst eUnion
    subst eMeet
    have hkk := bothOk_iff.1 hk
    have hNUnion : NUnion = N14 := by rw [← ENUnion.out]; unfold unionO partO; rw [if_pos hk]; rfl
    have hLUnion : LUnion = maxQ (orQ x14 x15) := by rw [← ELUnion.out]; unfold unionO partO; rw [if_pos hk]; rfl
    have hNMeet : NMeet = N14 := by rw [← ENMeet.out]; unfold meetO partO; rw [if_pos hk]; rfl
    have hLMeet : LMeet = maxQ (andQ x14 x15) := by rw [← ELMeet.out]; unfold meetO partO; rw [if_pos hk]; rfl
    have hsum : (faces NUnion LUnion).length + (faces NMeet LMeet).length = (faces N14 x14).length + (faces N15 x15).length := by
      rw [hNUnion, hLUnion, hNMeet, hLMeet, ← hkk.2.2]; exact faces_inex hkk.1 (by rw [hkk.2.2]; exact hkk.2.1)
    have hle1 := faces_le NUnion LUnion
    obtain ⟨z1, hz1⟩ : ∃ z, (faces NUnion LUnion).length = z := ⟨_, rfl⟩
    rw [hz1] at hsum hle1
    have HZ1 := Lib.hid hz1
    have hle2 := faces_le NMeet LMeet
    obtain ⟨z2, hz2⟩ : ∃ z, (faces NMeet LMeet).length = z := ⟨_, rfl⟩
    rw [hz2] at hsum hle2
    have HZ2 := Lib.hid hz2
    have hle3 := faces_le N14 x14
    obtain ⟨z3, hz3⟩ : ∃ z, (faces N14 x14).length = z := ⟨_, rfl⟩
    rw [hz3] at hsum hle3
    have HZ3 := Lib.hid hz3
    have hle4 := faces_le N15 x15
    obtain ⟨z4, hz4⟩ : ∃ z, (faces N15 x15).length = z := ⟨_, rfl⟩
    rw [hz4] at hsum hle4
    have HZ4 := Lib.hid hz4
    have hi1 : IntKind.i64.wrap ((z1 : Int) + z2) = (z1 : Int) + z2 := IntWalk.i64_in _ (by omega)
    have hi2 : IntKind.i64.wrap ((z3 : Int) + z4) = (z1 : Int) + z2 := by rw [IntWalk.i64_in _ (by omega)]; omega
    clear hz1 hz2 hz3 hz4 hsum hle1 hle2 hle3 hle4
    obtain ⟨W, hW⟩ : ∃ W, w26 = W := ⟨_, rfl⟩
    rw [hW] at BX1 BX2 BX4 BX6 BX14 BX15 BX16 BX18 HBW ⊢
    have HBC := Lib.hid (bdrew1 W)
    clear hW hk hkk hNUnion hNMeet hLUnion hLMeet
    obtain ⟨b15, hbb15⟩ : ∃ b, (w14.heap.size + 1) = b := ⟨_, rfl⟩
    rw [hbb15] at BX15
    try rw [hbb15]
    clear hbb15
    obtain ⟨b14, hbb14⟩ : ∃ b, w14.heap.size = b := ⟨_, rfl⟩
    rw [hbb14] at BX14
    try rw [hbb14]
    clear hbb14
    obtain ⟨b16, hbb16⟩ : ∃ b, w16.heap.size = b := ⟨_, rfl⟩
    rw [hbb16] at BX16
    try rw [hbb16]
    clear hbb16
    obtain ⟨b18, hbb18⟩ : ∃ b, w18.heap.size = b := ⟨_, rfl⟩
    rw [hbb18] at BX18
    try rw [hbb18]
    clear hbb18
    have IX14 := Lib.hid BX14.out.2
    have IX15 := Lib.hid BX15.out.2
    have IX16 := Lib.hid BX16.out.2
    have IX18 := Lib.hid BX18.out.2
    go_wp2_with fail
    go_region_held3 (fun w' => w'.cell? ⟨b16, 0, none⟩ = some (.int .i64 NUnion) ∧ w'.cell? ⟨b16, 1, none⟩ = some (.slice a16 LUnion.length c16) ∧ w'.cell? ⟨b18, 0, none⟩ = some (.int .i64 NMeet) ∧ w'.cell? ⟨b18, 1, none⟩ = some (.slice a18 LMeet.length c18) ∧ w'.cell? ⟨b14, 0, none⟩ = some (.int .i64 N14) ∧ w'.cell? ⟨b14, 1, none⟩ = some (.slice a14 x14.length c14) ∧ w'.cell? ⟨b15, 0, none⟩ = some (.int .i64 N15) ∧ w'.cell? ⟨b15, 1, none⟩ = some (.slice a15 x15.length c15) ∧ Below W.heap.size W w') (first | (exact ⟨(BX16.out.1.keeps HBC.out).2.1, (BX16.out.1.keeps HBC.out).2.2.1, (BX18.out.1.keeps HBC.out).2.1, (BX18.out.1.keeps HBC.out).2.2.1, (BX14.out.1.keeps HBC.out).2.1, (BX14.out.1.keeps HBC.out).2.2.1, (BX15.out.1.keeps HBC.out).2.1, (BX15.out.1.keeps HBC.out).2.2.1, HBC.out⟩) | fail "keep") (first | (go_at_call 31; with_reducible refine (specFacesP_len NUnion a16 c16 LUnion hlUnion z1 HZ1.out _ (IX16.out.keeps HBC.out)).mono ?_; rintro e wN ⟨qa, qc, rfl, hbN⟩; have HBC := Lib.hid (HBC.out.trans (hbN.mono HBC.out.size)); clear hbN) | (go_at_call 31; with_reducible refine (specFacesP_len NMeet a18 c18 LMeet hlMeet z2 HZ2.out _ (IX18.out.keeps HBC.out)).mono ?_; rintro e wN ⟨qa, qc, rfl, hbN⟩; have HBC := Lib.hid (HBC.out.trans (hbN.mono HBC.out.size)); clear hbN) | (go_at_call 31; with_reducible refine (specFacesP_len N14 a14 c14 x14 hl14 z3 HZ3.out _ (IX14.out.keeps HBC.out)).mono ?_; rintro e wN ⟨qa, qc, rfl, hbN⟩; have HBC := Lib.hid (HBC.out.trans (hbN.mono HBC.out.size)); clear hbN) | (go_at_call 31; with_reducible refine (specFacesP_len N15 a15 c15 x15 hl15 z4 HZ4.out _ (IX15.out.keeps HBC.out)).mono ?_; rintro e wN ⟨qa, qc, rfl, hbN⟩; have HBC := Lib.hid (HBC.out.trans (hbN.mono HBC.out.size)); clear hbN) | fail "arm")
    replace BX1 := Lib.hid (BX1.out.keeps HBC.out)
    replace BX2 := Lib.hid (BX2.out.keeps HBC.out)
    replace BX4 := Lib.hid (BX4.out.keeps HBC.out)
    replace BX6 := Lib.hid (BX6.out.keeps HBC.out)
    replace HBW := Lib.hid (HBW.out.trans (HBC.out.mono HBW.out.size))
    clear HBC BX14 BX15 BX16 BX18
    cases hm : (isC N1 x1 && setB N1 s1) with
    | false =>
      have eLink : BLink = false := by rw [← EBLink.out]; unfold linkO; rw [parts_some]; exact hm
      have eStar : BStar = false := by rw [← EBStar.out]; unfold starO; rw [parts_some]; exact hm
      have eDel : BDel = false := by rw [← EBDel.out]; unfold delO; rw [parts_some]; exact hm
      subst eLink
      subst eStar
      subst eDel
      go_wp2
      go_ret
      exact ⟨rfl, HBW.out⟩
    | true =>
      have eLink : BLink = true := by rw [← EBLink.out]; unfold linkO; rw [parts_some]; exact hm
      have eStar : BStar = true := by rw [← EBStar.out]; unfold starO; rw [parts_some]; exact hm
      have eDel : BDel = true := by rw [← EBDel.out]; unfold delO; rw [parts_some]; exact hm
      subst eLink
      subst eStar
      subst eDel
      have hcc := (Bool.and_eq_true _ _ ▸ hm : isC N1 x1 = true ∧ setB N1 s1 = true)
      have hNLink : NLink = N1 := by rw [← ENLink.out]; unfold linkO partO; rw [if_pos hm]; rfl
      have hLLink : LLink = maxQ (linkQ x1 s1.toNat) := by rw [← ELLink.out]; unfold linkO partO; rw [if_pos hm]; rfl
      have hNStar : NStar = N1 := by rw [← ENStar.out]; unfold starO partO; rw [if_pos hm]; rfl
      have hLStar : LStar = maxQ (starQ x1 s1.toNat) := by rw [← ELStar.out]; unfold starO partO; rw [if_pos hm]; rfl
      have hNDel : NDel = N1 := by rw [← ENDel.out]; unfold delO partO; rw [if_pos hm]; rfl
      have hLDel : LDel = maxQ (delQ x1 s1.toNat) := by rw [← ELDel.out]; unfold delO partO; rw [if_pos hm]; rfl
      have hok : bothOk NStar NDel LStar LDel = true := by unfold bothOk; rw [hNStar, hNDel, hLStar, hLDel, star_isC hcc.1, del_isC hcc.1]; simp
      have hU : unionO NStar NDel LStar LDel = some (N1, x1) := by unfold unionO partO; rw [if_pos hok, hLStar, hLDel, star_or_del hcc.1, hNStar]
      obtain ⟨M, hM⟩ : ∃ M, maxQ (andQ LStar LDel) = M := ⟨_, rfl⟩
      have hMe : meetO NStar NDel LStar LDel = some (N1, M) := by unfold meetO partO; rw [if_pos hok, hM, hNStar]
      have hMlen : M.length ≤ 1099511627776 := by rw [← hM]; exact Nat.le_trans (maxQ_le _) (by decide)
      have hone : sizeZ s1 = 1 → M = LLink := fun h1 => by
        obtain ⟨s, rfl, hs⟩ := okZ_cast s1 (setB_ok hcc.2)
        rw [← hM, hLStar, hLDel, hLLink]
        exact star_and_del x1 s hs (size_one hs h1)
      have HONE := Lib.hid hone
      have hUnionC : ∀ W : World, Ints W a4 LStar → Ints W a6 LDel → Calls Try.prog 26 #[cx NStar (.slice a4 LStar.length c4), cx NDel (.slice a6 LDel.length c6)] W fun e w' => ∃ v, e = .returned (.tuple #[cx N1 v, .bool true]) ∧ HasInts w' W.heap.size v x1 ∧ Below W.heap.size W w' := fun W h1 h2 => by
        have h := JUnion.out NStar NDel a4 a6 c4 c6 LStar LDel hc4 hc6 hlStar hlDel W h1 h2
        rw [hU] at h
        exact h
      have HUnionC := Lib.hid hUnionC
      have hMeetC : ∀ W : World, Ints W a4 LStar → Ints W a6 LDel → Calls Try.prog 28 #[cx NStar (.slice a4 LStar.length c4), cx NDel (.slice a6 LDel.length c6)] W fun e w' => ∃ v, e = .returned (.tuple #[cx N1 v, .bool true]) ∧ HasInts w' W.heap.size v M ∧ Below W.heap.size W w' := fun W h1 h2 => by
        have h := JMeet.out NStar NDel a4 a6 c4 c6 LStar LDel hc4 hc6 hlStar hlDel W h1 h2
        rw [hMe] at h
        exact h
      have HMeetC := Lib.hid hMeetC
      have HNL := Lib.hid hNLink
      clear hm hcc hok hU hMe hM hone hUnionC hMeetC hNLink hNStar hNDel hLLink hLStar hLDel
      obtain ⟨t0, t1, t2, t3, t4⟩ := BX4.out.1
      obtain ⟨u0, u1, u2, u3, u4⟩ := BX6.out.1
      go_wp2_with fail
      refine (HUnionC.out _ BX4.out.2 BX6.out.2).mono ?_
      rintro e w30 ⟨v, rfl, hO, hb⟩
      obtain ⟨a30, c30, _, rfl, hc30, _, hr0, _⟩ := hO
      have hba : Below w30.heap.size w30 (w30.alloc (.cells #[.int .i64 N1, .slice a30 x1.length c30] 26)) := (Below.refl _ _).alloc (Nat.le_refl _) _
      replace BX1 := Lib.hid ((BX1.out.keeps hb).keeps hba)
      replace BX2 := Lib.hid ((BX2.out.keeps hb).keeps hba)
      replace BX4 := Lib.hid ((BX4.out.keeps hb).keeps hba)
      replace BX6 := Lib.hid ((BX6.out.keeps hb).keeps hba)
      replace HBW : Hid (Below w.heap.size w (w30.alloc (.cells #[.int .i64 N1, .slice a30 x1.length c30] 26))) := (HBW.out.trans (hb.mono HBW.out.size)).trans (hba.mono (Nat.le_trans HBW.out.size hb.size))
      have BX30 := Lib.hid (Bx.new (n := N1) (c := c30) hr0.ints 26)
      clear hr0 hb hba t0 t1 t2 t3 t4 u0 u1 u2 u3 u4
      obtain ⟨t0, t1, t2, t3, t4⟩ := BX4.out.1
      obtain ⟨u0, u1, u2, u3, u4⟩ := BX6.out.1
      go_wp2_with fail
      refine (HMeetC.out _ BX4.out.2 BX6.out.2).mono ?_
      rintro e w31 ⟨v, rfl, hO, hb⟩
      obtain ⟨a31, c31, _, rfl, hc31, _, hr0, _⟩ := hO
      have hba : Below w31.heap.size w31 (w31.alloc (.cells #[.int .i64 N1, .slice a31 M.length c31] 26)) := (Below.refl _ _).alloc (Nat.le_refl _) _
      replace BX1 := Lib.hid ((BX1.out.keeps hb).keeps hba)
      replace BX2 := Lib.hid ((BX2.out.keeps hb).keeps hba)
      replace BX4 := Lib.hid ((BX4.out.keeps hb).keeps hba)
      replace BX6 := Lib.hid ((BX6.out.keeps hb).keeps hba)
      replace BX30 := Lib.hid ((BX30.out.keeps hb).keeps hba)
      replace HBW : Hid (Below w.heap.size w (w31.alloc (.cells #[.int .i64 N1, .slice a31 M.length c31] 26))) := (HBW.out.trans (hb.mono HBW.out.size)).trans (hba.mono (Nat.le_trans HBW.out.size hb.size))
      have BX31 := Lib.hid (Bx.new (n := N1) (c := c31) hr0.ints 26)
      clear hr0 hb hba t0 t1 t2 t3 t4 u0 u1 u2 u3 u4
      obtain ⟨t0, t1, t2, t3, t4⟩ := BX30.out.1
      obtain ⟨u0, u1, u2, u3, u4⟩ := BX1.out.1
      go_wp2_with fail
      refine (sameCx_any N1 a30 a1 c30 c1 x1 hl1 _ BX30.out.2 BX1.out.2).mono ?_
      rintro e w32 ⟨rfl, hb⟩
      replace BX2 := Lib.hid (BX2.out.keeps hb)
      replace BX31 := Lib.hid (BX31.out.keeps hb)
      replace HBW : Hid (Below w.heap.size w w32) := HBW.out.trans (hb.mono HBW.out.size)
      clear hb t0 t1 t2 t3 t4 u0 u1 u2 u3 u4
      obtain ⟨z, hz⟩ : ∃ z, sizeZ s1 = z := ⟨_, rfl⟩
      rw [hz] at HONE
      have HZ := Lib.hid hz
      clear hz
      go_wp2_with fail
      refine (specSizeP_b s1 z HZ.out _).mono ?_
      rintro e w33 ⟨rfl, rfl⟩
      by_cases h1 : z = 1
      · subst h1
        have hml : M = LLink := HONE.out rfl
        have hnl := HNL.out
        clear HONE HNL
        subst hml
        subst hnl
        obtain ⟨t0, t1, t2, t3, t4⟩ := BX31.out.1
        obtain ⟨u0, u1, u2, u3, u4⟩ := BX2.out.1
        go_wp2_with fail
        refine (sameCx_any NLink a31 a2 c31 c2 M hMlen _ BX31.out.2 BX2.out.2).mono ?_
        rintro e w34 ⟨rfl, hb⟩
        replace HBW : Hid (Below w.heap.size w w34) := HBW.out.trans (hb.mono HBW.out.size)
        clear hb t0 t1 t2 t3 t4 u0 u1 u2 u3 u4
        go_wp2
        go_ret
        exact ⟨rfl, HBW.out⟩
      · have hz1 : (z != 1) = true := by simpa using h1
        go_wp2
        go_ret
        exact ⟨rfl, HBW.out⟩

end Go.Proofs.Ytpakjcagdnnedaa
