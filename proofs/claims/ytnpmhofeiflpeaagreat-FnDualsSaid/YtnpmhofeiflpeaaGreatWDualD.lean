/-
  WALKS: the draws of chapter 8; few binomial numbers; the law's own at22.
-/
import Derived.Test.YtnpmhofeiflpeaaGreatJg32
import Derived.Test.YtnpmhofeiflpeaaGreatWCxRead2
import Derived.Test.YtnpmhofeiflpeaaGreatJg28
import Derived.Test.YtnpmhofeiflpeaaGreatDual4
namespace Go.Proofs.YtnpmhofeiflpeaaGreat
open Go.RowKit
open Sets Hom

set_option maxRecDepth 100000 in
set_option maxHeartbeats 4000000 in
theorem drawDual_any (a : Option Addr) (n c : Nat) (hn : n ≤ 140737488355328) (w : World) (hc : Code w a n) :
    Calls Tryz.prog 5 #[.slice a n c] w fun e w' => Drawn1 w e w' := by
  have hb0 : Below w.heap.size w (w.alloc (.cells #[.int .i64 0, .slice none 0 0] 26)) := (Below.refl _ _).alloc (Nat.le_refl _) _
  have HC0 := Lib.hid (hc.keeps hb0)
  have HB0 := Lib.hid hb0
  have HT0 := Lib.hid (Two.new w (.int .i64 0) (.slice none 0 0) 26)
  clear hc hb0
  go_enter Tryz.func5, Tryz.ntmps5
  go_wp2_with fail
  refine (new_any a n c hn _ HC0.out).mono ?_
  rintro e w1 ⟨rfl, hcur, hz1, hb1⟩
  simp only [World.size_alloc] at hcur hz1
  have K1 := Lib.hid hcur
  have B1 : Hid (Below w.heap.size w w1) := HB0.out.trans (hb1.mono (by simp))
  have T1 := Lib.hid (Two.keeps HT0.out hb1)
  clear hcur hb1 HC0 HB0 HT0
  go_wp2_with fail
  refine (l3Bent_any a n c hn (w.heap.size + 1) w1 hz1 K1.out).mono ?_
  rintro e w2 ⟨N, v, xs, rfl, hl, hO, hK, hG⟩
  obtain ⟨a5, c5, g5, rfl, hc5, hg5, hr5, _⟩ := OwnInts.ata hO hG.size
  have O2 := Lib.hid (OwnInts.lower hO (show w.heap.size + 1 ≤ w1.heap.size by omega))
  have B2 : Hid (Below w.heap.size w w2) := B1.out.trans (Mem.below_of_but hG (by omega) (by omega))
  obtain ⟨t0, t1, t2, t3, t4⟩ := Two.far T1.out hG (by omega)
  clear hO hK hG hr5 K1 T1 B1
  go_wp2
  refine ret_cx w.heap.size rfl rfl (x := .int .i64 N) (y := .slice a5 xs.length c5) (by go_simp) (by go_simp) rfl ?_
  exact ⟨N, _, xs, rfl, hl, (OwnInts.set (OwnInts.set O2.out _ _ _ (by omega)) _ _ _ (by omega)).lower (by omega), (B2.out.setCell (by simp) _).setCell (by simp) _⟩

set_option maxRecDepth 100000 in
set_option maxHeartbeats 2000000 in
theorem drawCovers_any (a : Option Addr) (n c : Nat) (hn : n ≤ 140737488355328) (w : World) (hc : Code w a n) :
    Calls Tryz.prog 10 #[.slice a n c] w fun e w' => ∃ (N : Int) (v : Value) (xs : List Int), e = .returned (.tuple #[.int .i64 N, v]) ∧ xs.length ≤ 6 ∧ OwnInts w' w.heap.size v xs ∧ Below w.heap.size w w' := by
  have HC := Lib.hid hc
  clear hc
  go_enter Tryz.func10, Tryz.ntmps10
  go_wp2_with fail
  refine (drawFrom_any a n c hn _ HC.out).mono ?_
  rintro e w1 ⟨N, v, xs, rfl, hl, hO, hb⟩
  have HO := Lib.hid hO
  have HB := Lib.hid hb
  clear hO hb
  go_wp2
  go_ret2
  exact ⟨N, _, xs, rfl, hl, HO.out, HB.out⟩

set_option maxRecDepth 100000 in
set_option maxHeartbeats 2000000 in
theorem drawComp_any (a : Option Addr) (n c : Nat) (hn : n ≤ 140737488355328) (w : World) (hc : Code w a n) :
    Calls Tryz.prog 8 #[.slice a n c] w fun e w' => ∃ N s : Int, e = .returned (.tuple #[.int .i64 N, .int .i64 s]) ∧ Below w.heap.size w w' := by
  have HC := Lib.hid hc
  clear hc
  go_enter Tryz.func8, Tryz.ntmps8
  go_wp2_with fail
  refine (new_any a n c hn _ HC.out).mono ?_
  rintro e w1 ⟨rfl, hcur, hz1, hb1⟩
  have K1 := Lib.hid hcur
  have B1 := Lib.hid hb1
  clear hcur hb1
  go_wp2_with fail
  refine (below_lit w.heap.size a n c hn _ 9 rfl (by omega) (by omega) _ K1.out).mono ?_
  rintro e w2 ⟨r, hr, rfl, hd⟩
  have K2 := Lib.hid hd.1
  have B2 : Hid (Below w.heap.size w w2) := B1.out.trans (Mem.below_of_but hd.2 (Nat.le_refl _) (by omega))
  clear hd K1 B1
  go_wp2_with fail
  refine (below_lit w.heap.size a n c hn _ 66 rfl (by omega) (by omega) _ K2.out).mono ?_
  rintro e w3 ⟨q, hq, rfl, hd⟩
  have hs2 := B2.out.size
  have B3 : Hid (Below w.heap.size w w3) := B2.out.trans (Mem.below_of_but hd.2 (Nat.le_refl _) hs2)
  clear hd K2 B2
  go_wp2
  go_ret2
  exact ⟨_, _, rfl, B3.out⟩

theorem parseC_some (s : ByteArray) (hs : s.size ≤ 1048576) (w : World) :
    Calls Tryz.prog 38 #[.string s] w fun e w' =>
      ∃ (bo : Option (Int × List Int)) (v : Value), (oL bo).length ≤ 448 ∧ e = .returned (.tuple #[cx (oN bo) v, .bool bo.isSome]) ∧ OwnInts w' w.heap.size v (oL bo) ∧ Below w.heap.size w w' :=
  (specParseC_any s hs w).mono fun _ _ ⟨v, he, hO, hb⟩ => ⟨_, v, specP_len _, he, hO, hb⟩

set_option maxRecDepth 100000 in
set_option maxHeartbeats 4000000 in
theorem drawSelf_any (a : Option Addr) (n c : Nat) (hn : n ≤ 140737488355328) (w : World) (hc : Code w a n) :
    Calls Tryz.prog 9 #[.slice a n c] w fun e w' => Drawn1 w e w' := by
  have hb0 : Below w.heap.size w (w.alloc (.cells #[.int .i64 0, .slice none 0 0] 26)) := (Below.refl _ _).alloc (Nat.le_refl _) _
  have HC0 := Lib.hid (hc.keeps hb0)
  have HB0 := Lib.hid hb0
  have HT0 := Lib.hid (Two.new w (.int .i64 0) (.slice none 0 0) 26)
  clear hc hb0
  go_enter Tryz.func9, Tryz.ntmps9
  go_wp2_with fail
  refine (new_any a n c hn _ HC0.out).mono ?_
  rintro e w1 ⟨rfl, hcur, hz1, hb1⟩
  simp only [World.size_alloc] at hcur hz1
  have K1 := Lib.hid hcur
  have B1 : Hid (Below w.heap.size w w1) := HB0.out.trans (hb1.mono (by simp))
  have T1 := Lib.hid (Two.keeps HT0.out hb1)
  clear hcur hb1 HC0 HB0 HT0
  go_wp2_with fail
  refine (once_b (w.heap.size + 1) a n c hn _ 3 rfl (by omega) (by omega) _ K1.out).mono ?_
  rintro e w2 ⟨b, rfl, hd⟩
  have K2 := Lib.hid hd.1
  have T2 := Lib.hid (Two.far T1.out hd.2 (by omega))
  have B2 : Hid (Below w.heap.size w w2) := B1.out.trans (Mem.below_of_but hd.2 (by omega) (by omega))
  have hs2 : w1.heap.size ≤ w2.heap.size := hd.2.size
  clear hd K1 T1 B1
  cases b with
  | true =>
    go_wp2_with fail
    refine (parseC_some _ (by decide) _).mono ?_
    rintro e w3 ⟨bo, v, hl, rfl, hO, hb⟩
    obtain ⟨a5, c5, g5, rfl, hc5, hg5, hr5, _⟩ := OwnInts.ata hO hb.size
    have O3 := Lib.hid (OwnInts.lower hO (show w.heap.size + 1 ≤ w2.heap.size by omega))
    have hs3 := hb.size
    have B3 : Hid (Below w.heap.size w w3) := B2.out.trans (hb.mono (by omega))
    have T3 := Lib.hid (T2.out.keeps hb)
    clear hO hb hr5 K2 T2 B2
    obtain ⟨t0, t1, t2, t3, t4⟩ := T3.out
    go_wp2
    refine ret_cx w.heap.size rfl rfl (x := .int .i64 (oN bo)) (y := .slice a5 (oL bo).length c5) (by go_simp) (by go_simp) rfl ?_
    first
      | exact ⟨oN bo, _, oL bo, rfl, by omega, ((OwnInts.set (OwnInts.set O3.out _ _ _ (by omega)) _ _ _ (by omega)).lower (by omega)).alloc _, ((B3.out.setCell (by simp) _).setCell (by simp) _).alloc (by simp; omega) _⟩
      | exact ⟨oN bo, _, oL bo, rfl, by omega, (OwnInts.set (OwnInts.set (OwnInts.alloc O3.out _) _ _ _ (by omega)) _ _ _ (by omega)).lower (by omega), ((B3.out.alloc (by omega) _).setCell (by simp) _).setCell (by simp) _⟩
      | (trace_state; fail "end")
  | false =>
    go_wp2_with fail
    refine (l3Bent_any a n c hn (w.heap.size + 1) w2 (by omega) K2.out).mono ?_
    rintro e w3 ⟨N, v, xs, rfl, hl, hO, hK, hG⟩
    obtain ⟨a5, c5, g5, rfl, hc5, hg5, hr5, _⟩ := OwnInts.ata hO hG.size
    have O3 := Lib.hid (OwnInts.lower hO (show w.heap.size + 1 ≤ w2.heap.size by omega))
    have B3 : Hid (Below w.heap.size w w3) := B2.out.trans (Mem.below_of_but hG (by omega) (by omega))
    obtain ⟨t0, t1, t2, t3, t4⟩ := Two.far T2.out hG (by omega)
    clear hO hK hG hr5 K2 T2 B2
    go_wp2
    refine ret_cx w.heap.size rfl rfl (x := .int .i64 N) (y := .slice a5 xs.length c5) (by go_simp) (by go_simp) rfl ?_
    exact ⟨N, _, xs, rfl, hl, (OwnInts.set (OwnInts.set O3.out _ _ _ (by omega)) _ _ _ (by omega)).lower (by omega), (B3.out.setCell (by simp) _).setCell (by simp) _⟩

set_option maxRecDepth 100000 in
set_option maxHeartbeats 4000000 in
theorem specChoose_any (m k : Nat) (hm : m ≤ 6) (hk : k ≤ m) (w : World) : Calls Tryz.prog 23 #[.int .i64 (m : Int), .int .i64 (k : Int)] w fun e w' => e = .returned (.int .i64 (chooseN m k : Nat)) ∧ Below w.heap.size w w' := by
  have h1 : inB 0 60 (m : Int) = true := by rw [inB_iff]; omega
  have h2 : inB 0 (m : Int) (k : Int) = true := by rw [inB_iff]; omega
  have H1 := Lib.hid h1
  have H2 := Lib.hid h2
  have H0 : Hid (chooseN m 0 = 1) := choose_zero ⟨m, by omega⟩
  clear h1 h2
  go_enter Tryz.func23, Tryz.ntmps23
  go_wp2_with fail
  refine (in_b _ _ _ true H1.out _).mono ?_
  rintro e w' ⟨rfl, rfl⟩
  go_wp2_with fail
  refine (in_b _ _ _ true H2.out _).mono ?_
  rintro e w' ⟨rfl, rfl⟩
  go_wp2
  go_loop [5, 6] (fun v i => ∃ j : Nat, j ≤ k ∧ i = .int .i64 (j : Int) ∧ v = .int .i64 (chooseN m j : Nat)) (fun _ i => k - (intOf i).toNat)
  case atStart => exact ⟨0, Nat.zero_le _, rfl, by rw [H0.out]; rfl⟩
  case round =>
    obtain ⟨j, hj, rfl, rfl⟩ := hrel
    by_cases hlt : j < k
    · have hs := choose_step ⟨m, by omega⟩ ⟨j, by omega⟩ (by show j < m; omega)
      dsimp only at hs
      obtain ⟨hs1, hs2⟩ := hs
      obtain ⟨y, hy⟩ : ∃ y, chooseN m (j + 1) = y := ⟨_, rfl⟩
      obtain ⟨x, hx⟩ : ∃ x, chooseN m j = x := ⟨_, rfl⟩
      rw [hy, hx] at hs1
      rw [hx] at hs2
      have HY := Lib.hid hy
      have HX := Lib.hid hx
      have hval : wrap64 ((wrap64 ((x : Int) * ((m : Int) - (j : Int)))).tdiv ((j : Int) + 1)) = (y : Int) := by
        obtain ⟨d, hd⟩ : ∃ d, m - j = d := ⟨_, rfl⟩
        have hp : x * d ≤ 120 := by
          have := Nat.mul_le_mul hs2 (show d ≤ 6 by omega)
          omega
        rw [hd] at hs1
        have e1 : (m : Int) - (j : Int) = (d : Int) := by omega
        have e2 : (x : Int) * (d : Int) = ((x * d : Nat) : Int) := by simp
        have hyz : y ≤ x * d := by rw [← hs1]; exact Nat.div_le_self _ _
        have e3 : ((x * d : Nat) : Int).tdiv ((j : Int) + 1) = (y : Int) := by
          rw [← hs1, show (j : Int) + 1 = ((j + 1 : Nat) : Int) by omega]; rfl
        rw [e1, e2]
        generalize x * d = z at *
        rw [IntWalk.wrap64_in (z : Int) (by omega), e3, IntWalk.wrap64_in (y : Int) (by omega)]
      have HV := Lib.hid hval
      clear hs1 hs2 hy hx hval
      rw [HX.out]
      go_wp2
      refine ⟨⟨j + 1, by omega, by go_num, ?_⟩, by simp [intOf]; omega⟩
      rw [HV.out, HY.out]
    · have E := Lib.hid (show j = k by omega)
      go_wp2
      go_ret
      exact ⟨by rw [← E.out]; rfl, Below.refl _ _⟩

set_option maxRecDepth 100000 in
set_option maxHeartbeats 2000000 in
theorem at22_any (a : Option Addr) (c : Nat) (xs : List Int) (i : Int) (w : World) (h : Ints w a xs) :
    Calls Tryz.prog 24 #[.slice a xs.length c, .int .i64 i] w fun e w' => e = .returned (.int .i64 (at0 xs i)) ∧ Below w.heap.size w w' := by
  have HH := Lib.hid h
  clear h
  by_cases h0 : i < 0
  · have HR : Hid (at0 xs i = 0) := by
      have : at0 xs i = 0 := by unfold at0; rw [if_neg (by omega)]
      exact this
    have hd : decide (i < 0) = true := by simpa using h0
    go_enter Tryz.func24, Tryz.ntmps24
    go_wp2
    go_ret
    exact ⟨by rw [HR.out]; rfl, Below.refl _ _⟩
  · obtain ⟨k, rfl⟩ : ∃ k : Nat, i = (k : Int) := ⟨i.toNat, by omega⟩
    by_cases hlt : k < xs.length
    · obtain ⟨b1, o1, rfl, g1⟩ := HH.out k hlt
      have HR : Hid (at0 xs (k : Int) = xs.getD k 0) := by
        have : at0 xs (k : Int) = xs.getD k 0 := by unfold at0; rw [if_pos ⟨by omega, by omega⟩, Int.toNat_natCast]
        exact this
      generalize xs.getD k 0 = x at *
      go_enter Tryz.func24, Tryz.ntmps24
      go_wp2
      go_ret
      exact ⟨by rw [HR.out]; rfl, Below.refl _ _⟩
    · have HR : Hid (at0 xs (k : Int) = 0) := by
        have : at0 xs (k : Int) = 0 := by unfold at0; rw [if_neg (by omega)]
        exact this
      go_enter Tryz.func24, Tryz.ntmps24
      go_wp2
      go_ret
      exact ⟨by rw [HR.out]; rfl, Below.refl _ _⟩

end Go.Proofs.YtnpmhofeiflpeaaGreat
