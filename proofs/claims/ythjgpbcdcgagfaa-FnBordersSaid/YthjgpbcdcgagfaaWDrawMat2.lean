/-
  WALKS: spec's draws of chapter 13.
-/
import Derived.Test.YthjgpbcdcgagfaaWDrawMat
import Derived.Test.YthjgpbcdcgagfaaJg34
import Derived.Test.YthjgpbcdcgagfaaJg35
namespace Go.Proofs.Ythjgpbcdcgagfaa
open Go.RowKit
open Sets

theorem HasMx.away {w w' : World} {base B : Nat} {v : Value} {M : Lin.Mat} (h : HasMx w base v M) (hg : w.grownBy w' (some B)) (hB : B < base) : HasMx w' base v M := by
  obtain ⟨ao, co, go, R, h1, h2, h3, h4⟩ := h
  have hs := hg.size
  exact ⟨ao, co, go, R, h1, fun h0 => by have := h2 h0; omega, fun g hg2 => by have := h3 g hg2; omega, h4.away hg (fun h0 => by have := h2 h0; omega) (fun g hg2 => by have := h3 g hg2; omega)⟩
theorem HasMx.keeps {w w' : World} {base : Nat} {v : Value} {M : Lin.Mat} (h : HasMx w base v M) (hb : Below w.heap.size w w') : HasMx w' base v M := by
  obtain ⟨ao, co, go, R, h1, h2, h3, h4⟩ := h
  have hs := hb.size
  exact ⟨ao, co, go, R, h1, fun h0 => by have := h2 h0; omega, fun g hg2 => by have := h3 g hg2; omega, h4.keeps hb⟩
theorem DrawnMx.away {k : Nat} {w w' : World} {base B : Nat} {v : Value} {M : Lin.Mat} (h : DrawnMx k w base v M) (hg : w.grownBy w' (some B)) (hB : B < base) : DrawnMx k w' base v M := ⟨h.1.away hg hB, h.2⟩
theorem DrawnMx.keeps {k : Nat} {w w' : World} {base : Nat} {v : Value} {M : Lin.Mat} (h : DrawnMx k w base v M) (hb : Below w.heap.size w w') : DrawnMx k w' base v M := ⟨h.1.keeps hb, h.2⟩
theorem DrawnMx.lower {k : Nat} {w : World} {base b : Nat} {v : Value} {M : Lin.Mat} (h : DrawnMx k w base v M) (hb : b ≤ base) : DrawnMx k w b v M := ⟨h.1.lower hb, h.2⟩

set_option maxRecDepth 100000 in
set_option maxHeartbeats 4000000 in
theorem drawRank_any (a : Option Addr) (n c : Nat) (hn : n ≤ 140737488355328) (w : World) (hc : Code w a n) :
    Calls Try.prog 14 #[.slice a n c] w fun e w' => ∃ (v : Value) (M : Lin.Mat) (p : Int), e = .returned (.tuple #[v, .int .i64 p]) ∧ DrawnMx 6 w' w.heap.size v M ∧ Below w.heap.size w w' := by
  have HC0 := Lib.hid hc
  clear hc
  go_enter Try.func14, Try.ntmps14
  go_wp2_with fail
  refine (new_any a n c hn _ HC0.out).mono ?_
  rintro e w1 ⟨rfl, hcur, hz1, hb1⟩
  have K1 := Lib.hid hcur
  have B1 := Lib.hid hb1
  clear hcur hb1 HC0
  obtain ⟨B, hB⟩ : ∃ B, w.heap.size = B := ⟨_, rfl⟩
  rw [hB] at K1 hz1 B1 ⊢
  have HBE := Lib.hid hB
  clear hB
  go_wp2_with fail
  refine (below_lit B a n c hn _ 5 rfl (by decide) (by decide) _ K1.out).mono ?_
  rintro e w2 ⟨q, hq, rfl, hd⟩
  have K2 := Lib.hid hd.1
  have G2 := Lib.hid hd.2
  have hz2 := hd.2.size
  clear hd K1
  go_wp2_with fail
  refine (below_lit B a n c hn _ 4 rfl (by decide) (by decide) _ K2.out).mono ?_
  rintro e w3 ⟨r, hr, rfl, hd⟩
  have K3 := Lib.hid hd.1
  have G3 := Lib.hid (G2.out.trans hd.2)
  have hz3 := hd.2.size
  clear hd K2 G2
  go_wp2_with fail
  refine (l13Draw_any a n c hn q (r + 1) _ _ rfl (by omega) (by omega) (by omega) B w3 (by omega) K3.out).mono ?_
  rintro e w4 ⟨v, M, rfl, hD, hd⟩
  have D4 := Lib.hid hD
  have K4 := Lib.hid hd.1
  have G4 := Lib.hid (G3.out.trans hd.2)
  have hz4 := hd.2.size
  clear hd hD K3 G3
  have hb5 : Below w4.heap.size w4 (w4.alloc (.cells #[.int .i64 2, .int .i64 3, .int .i64 5, .int .i64 2, .int .i64 3, .int .i64 5, .int .i64 4] 3)) := (Below.refl _ _).alloc (Nat.le_refl _) _
  have K5 := Lib.hid (K4.out.keeps (by omega) hb5)
  have D5 := Lib.hid (D4.out.keeps hb5)
  have G5 := Lib.hid (G4.out.trans (Mem.but_of_below hb5 (some B)))
  have HROW := Lib.hid (row_ints w4 [2, 3, 5, 2, 3, 5, 4] 3)
  clear hb5 K4 D4 G4
  go_wp2_with fail
  refine (pick_some B a n c hn w4.heap.size 0 7 [2, 3, 5, 2, 3, 5, 4] (by decide) (by decide) _ K5.out (by omega) (by exact HROW.out)).mono ?_
  rintro e w5 ⟨p, rfl, hd⟩
  have D6 := Lib.hid (D5.out.away hd.2 (by omega))
  have B6 : Hid (Below B w w5) := B1.out.trans (Mem.below_of_but (G5.out.trans hd.2) (Nat.le_refl _) (by omega))
  clear hd K5 D5 G5 HROW
  go_wp2
  go_ret2
  exact ⟨v, M, p, rfl, by rw [HBE.out]; exact D6.out.lower (by omega), by rw [HBE.out]; exact B6.out⟩

set_option maxRecDepth 100000 in
set_option maxHeartbeats 4000000 in
theorem drawTurn_any (a : Option Addr) (n c : Nat) (hn : n ≤ 140737488355328) (w : World) (hc : Code w a n) :
    Calls Try.prog 15 #[.slice a n c] w fun e w' => ∃ (v : Value) (M : Lin.Mat), e = .returned v ∧ DrawnMx 6 w' w.heap.size v M ∧ Below w.heap.size w w' := by
  have HC0 := Lib.hid hc
  clear hc
  go_enter Try.func15, Try.ntmps15
  go_wp2_with fail
  refine (new_any a n c hn _ HC0.out).mono ?_
  rintro e w1 ⟨rfl, hcur, hz1, hb1⟩
  have K1 := Lib.hid hcur
  have B1 := Lib.hid hb1
  clear hcur hb1 HC0
  obtain ⟨B, hB⟩ : ∃ B, w.heap.size = B := ⟨_, rfl⟩
  rw [hB] at K1 hz1 B1 ⊢
  have HBE := Lib.hid hB
  clear hB
  go_wp2_with fail
  refine (below_lit B a n c hn _ 5 rfl (by decide) (by decide) _ K1.out).mono ?_
  rintro e w2 ⟨q, hq, rfl, hd⟩
  have K2 := Lib.hid hd.1
  have G2 := Lib.hid hd.2
  have hz2 := hd.2.size
  clear hd K1
  go_wp2_with fail
  refine (below_lit B a n c hn _ 4 rfl (by decide) (by decide) _ K2.out).mono ?_
  rintro e w3 ⟨r, hr, rfl, hd⟩
  have K3 := Lib.hid hd.1
  have G3 := Lib.hid (G2.out.trans hd.2)
  have hz3 := hd.2.size
  clear hd K2 G2
  go_wp2_with fail
  refine (l13Draw_any a n c hn q (r + 1) _ _ rfl (by omega) (by omega) (by omega) B w3 (by omega) K3.out).mono ?_
  rintro e w4 ⟨v, M, rfl, hD, hd⟩
  have D4 := Lib.hid hD
  have B4 : Hid (Below B w w4) := B1.out.trans (Mem.below_of_but (G3.out.trans hd.2) (Nat.le_refl _) (by omega))
  clear hd hD K3 G3
  go_wp2
  go_ret
  exact ⟨v, M, rfl, by rw [HBE.out]; exact D4.out.lower (by omega), by rw [HBE.out]; exact B4.out⟩

set_option maxRecDepth 100000 in
set_option maxHeartbeats 4000000 in
theorem drawTimes_any (a : Option Addr) (n c : Nat) (hn : n ≤ 140737488355328) (w : World) (hc : Code w a n) :
    Calls Try.prog 17 #[.slice a n c] w fun e w' => ∃ (v : Value) (M : Lin.Mat) (v2 : Value) (M2 : Lin.Mat), e = .returned (.tuple #[v, v2]) ∧ DrawnMx 6 w' w.heap.size v M ∧ DrawnMx 6 w' w.heap.size v2 M2 ∧ Below w.heap.size w w' := by
  have HC0 := Lib.hid hc
  clear hc
  go_enter Try.func17, Try.ntmps17
  go_wp2_with fail
  refine (new_any a n c hn _ HC0.out).mono ?_
  rintro e w1 ⟨rfl, hcur, hz1, hb1⟩
  have K1 := Lib.hid hcur
  have B1 := Lib.hid hb1
  clear hcur hb1 HC0
  obtain ⟨B, hB⟩ : ∃ B, w.heap.size = B := ⟨_, rfl⟩
  rw [hB] at K1 hz1 B1 ⊢
  have HBE := Lib.hid hB
  clear hB
  go_wp2_with fail
  refine (below_lit B a n c hn _ 3 rfl (by decide) (by decide) _ K1.out).mono ?_
  rintro e w2 ⟨q, hq, rfl, hd⟩
  have K2 := Lib.hid hd.1
  have G2 := Lib.hid hd.2
  have hz2 := hd.2.size
  clear hd K1
  go_wp2_with fail
  refine (below_lit B a n c hn _ 4 rfl (by decide) (by decide) _ K2.out).mono ?_
  rintro e w3 ⟨r, hr, rfl, hd⟩
  have K3 := Lib.hid hd.1
  have G3 := Lib.hid (G2.out.trans hd.2)
  have hz3 := hd.2.size
  clear hd K2 G2
  go_wp2_with fail
  refine (l13Draw_any a n c hn r (q + 1) _ _ rfl (by omega) (by omega) (by omega) B w3 (by omega) K3.out).mono ?_
  rintro e w4 ⟨v, M, rfl, hD, hd⟩
  have D4 := Lib.hid hD
  have K4 := Lib.hid hd.1
  have G4 := Lib.hid (G3.out.trans hd.2)
  have hz4 := hd.2.size
  clear hd hD K3 G3
  go_wp2_with fail
  refine (once_b B a n c hn _ 10 rfl (by decide) (by decide) _ K4.out).mono ?_
  rintro e w5 ⟨b, rfl, hd⟩
  have D5 := Lib.hid (D4.out.away hd.2 (by omega))
  have K5 := Lib.hid hd.1
  have G5 := Lib.hid (G4.out.trans hd.2)
  have hz5 := hd.2.size
  clear hd K4 D4 G4
  obtain ⟨z, hz⟩ : ∃ z : Nat, z ≤ 1 ∧ (if b = true then (1 : Int) else 0) = (z : Int) := by cases b; exact ⟨0, by omega, rfl⟩; exact ⟨1, by omega, rfl⟩
  have HBT := Lib.hid (fun W => l1Bit_b b W)
  simp only [hz.2] at HBT
  have hz01 := hz.1
  clear hz
  go_wp2_with fail
  refine (HBT.out _).mono ?_
  rintro e w6 ⟨rfl, rfl⟩
  go_wp2_with fail
  refine (below_lit B a n c hn _ 3 rfl (by decide) (by decide) _ K5.out).mono ?_
  rintro e w6 ⟨s, hs, rfl, hd⟩
  have D6 := Lib.hid (D5.out.away hd.2 (by omega))
  have K6 := Lib.hid hd.1
  have G6 := Lib.hid (G5.out.trans hd.2)
  have hz6 := hd.2.size
  clear hd K5 D5 G5
  go_wp2_with fail
  refine (l13Draw_any a n c hn (q + 1 + z) (s + 1) _ _ (by omega) (by omega) (by omega) (by omega) B w6 (by omega) K6.out).mono ?_
  rintro e w7 ⟨v2, M2, rfl, hD, hd⟩
  have D7 := Lib.hid (D6.out.away hd.2 (by omega))
  have E7 := Lib.hid hD
  have B7 : Hid (Below B w w7) := B1.out.trans (Mem.below_of_but (G6.out.trans hd.2) (Nat.le_refl _) (by omega))
  clear hd hD K6 G6 D6
  go_wp2
  go_ret2
  exact ⟨v, M, v2, M2, rfl, by rw [HBE.out]; exact D7.out.lower (by omega), by rw [HBE.out]; exact E7.out.lower (by omega), by rw [HBE.out]; exact B7.out⟩

set_option maxRecDepth 100000 in
set_option maxHeartbeats 4000000 in
theorem drawInverse_any (a : Option Addr) (n c : Nat) (hn : n ≤ 140737488355328) (w : World) (hc : Code w a n) :
    Calls Try.prog 20 #[.slice a n c] w fun e w' => ∃ x p : Int, e = .returned (.tuple #[.int .i64 x, .int .i64 p]) ∧ -6 ≤ x ∧ x ≤ 13 ∧ Below w.heap.size w w' := by
  have HC0 := Lib.hid hc
  clear hc
  go_enter Try.func20, Try.ntmps20
  go_wp2_with fail
  refine (new_any a n c hn _ HC0.out).mono ?_
  rintro e w1 ⟨rfl, hcur, hz1, hb1⟩
  have K1 := Lib.hid hcur
  have B1 := Lib.hid hb1
  clear hcur hb1 HC0
  obtain ⟨B, hB⟩ : ∃ B, w.heap.size = B := ⟨_, rfl⟩
  rw [hB] at K1 hz1 B1 ⊢
  have HBE := Lib.hid hB
  clear hB
  go_wp2_with fail
  refine (below_lit B a n c hn _ 20 rfl (by decide) (by decide) _ K1.out).mono ?_
  rintro e w2 ⟨q, hq, rfl, hd⟩
  have K2 := Lib.hid hd.1
  have G2 := Lib.hid hd.2
  have hz2 := hd.2.size
  clear hd K1
  have hb5 : Below w2.heap.size w2 (w2.alloc (.cells #[.int .i64 2, .int .i64 3, .int .i64 5, .int .i64 5, .int .i64 4, .int .i64 7, .int .i64 0] 3)) := (Below.refl _ _).alloc (Nat.le_refl _) _
  have K5 := Lib.hid (K2.out.keeps (by omega) hb5)
  have G5 := Lib.hid (G2.out.trans (Mem.but_of_below hb5 (some B)))
  have HROW := Lib.hid (row_ints w2 [2, 3, 5, 5, 4, 7, 0] 3)
  clear hb5 K2 G2
  go_wp2_with fail
  refine (pick_some B a n c hn w2.heap.size 0 7 [2, 3, 5, 5, 4, 7, 0] (by decide) (by decide) _ K5.out (by omega) (by exact HROW.out)).mono ?_
  rintro e w5 ⟨p, rfl, hd⟩
  have B6 : Hid (Below B w w5) := B1.out.trans (Mem.below_of_but (G5.out.trans hd.2) (Nat.le_refl _) (by omega))
  clear hd K5 G5 HROW
  go_wp2
  go_ret2
  exact ⟨_, p, rfl, by omega, by omega, by rw [HBE.out]; exact B6.out⟩

set_option maxRecDepth 100000 in
set_option maxHeartbeats 4000000 in
theorem drawPrime_any (a : Option Addr) (n c : Nat) (hn : n ≤ 140737488355328) (w : World) (hc : Code w a n) :
    Calls Try.prog 21 #[.slice a n c] w fun e w' => (∃ x : Int, e = .returned (.int .i64 x)) ∧ Below w.heap.size w w' := by
  have HC0 := Lib.hid hc
  clear hc
  go_enter Try.func21, Try.ntmps21
  go_wp2_with fail
  refine (new_any a n c hn _ HC0.out).mono ?_
  rintro e w1 ⟨rfl, hcur, hz1, hb1⟩
  have K1 := Lib.hid hcur
  have B1 := Lib.hid hb1
  clear hcur hb1 HC0
  go_wp2_with fail
  refine (below_lit w.heap.size a n c hn _ 9 rfl (by decide) (by decide) _ K1.out).mono ?_
  rintro e w2 ⟨q, hq, rfl, hd⟩
  have B6 : Hid (Below w.heap.size w w2) := B1.out.trans (Mem.below_of_but hd.2 (Nat.le_refl _) (by omega))
  clear hd K1
  go_wp2
  go_ret
  exact ⟨⟨_, rfl⟩, B6.out⟩

/-- What the draw of a complex and a size hands back. -/
def Drawn3 (w : World) (e : Ending) (w' : World) : Prop :=
  ∃ (N : Int) (v : Value) (xs : List Int) (k : Int), e = .returned (.tuple #[cx N v, .int .i64 k]) ∧ xs.length ≤ 449 ∧ -10 ≤ k ∧ k ≤ 10 ∧ OwnInts w' w.heap.size v xs ∧ Below w.heap.size w w'
theorem bit_small (b : Bool) (w : World) : Calls Try.prog 52 #[.bool b] w fun e w' => (∃ z : Int, e = .returned (.int .i64 z) ∧ 0 ≤ z ∧ z ≤ 1) ∧ w = w' :=
  (l1Bit_b b w).mono fun _ _ ⟨h, h2⟩ => ⟨⟨_, h, by cases b <;> decide, by cases b <;> decide⟩, h2⟩

set_option maxRecDepth 100000 in
set_option maxHeartbeats 4000000 in
theorem drawBorder_any (a : Option Addr) (n c : Nat) (hn : n ≤ 140737488355328) (w : World) (hc : Code w a n) :
    Calls Try.prog 12 #[.slice a n c] w fun e w' => Drawn3 w e w' := by
  have hb0 : Below w.heap.size w (w.alloc (.cells #[.int .i64 0, .slice none 0 0] 26)) := (Below.refl _ _).alloc (Nat.le_refl _) _
  have HC0 := Lib.hid (hc.keeps hb0)
  have HB0 := Lib.hid hb0
  have HT0 := Lib.hid (Two.new w (.int .i64 0) (.slice none 0 0) 26)
  clear hc hb0
  go_enter Try.func12, Try.ntmps12
  go_wp2_with fail
  refine (new_any a n c hn _ HC0.out).mono ?_
  rintro e w1 ⟨rfl, hcur, hz1, hb1⟩
  simp only [World.size_alloc] at hcur hz1
  have K1 := Lib.hid hcur
  have B1 : Hid (Below w.heap.size w w1) := HB0.out.trans (hb1.mono (by simp))
  have T1 := Lib.hid (Two.keeps HT0.out hb1)
  clear hcur hb1 HC0 HB0 HT0
  go_wp2_with fail
  refine (l3Bent_any a n c hn (w.heap.size + 1) w1 hz1 K1.out).mono ?_
  rintro e w2 ⟨N, v, xs, rfl, hl, hO, hK, hG⟩
  obtain ⟨a5, c5, g5, rfl, hc5, hg5, hr5, _⟩ := OwnInts.ata hO hG.size
  have hs2 := hG.size
  have hba : Below w2.heap.size w2 (w2.alloc (.cells #[.int .i64 N, .slice a5 xs.length c5] 26)) := (Below.refl _ _).alloc (Nat.le_refl _) _
  have ho := OwnInts.lower (hO.alloc (.cells #[.int .i64 N, .slice a5 xs.length c5] 26)) (show w.heap.size + 2 ≤ w1.heap.size by omega)
  have hb : Below w.heap.size w (w2.alloc (.cells #[.int .i64 N, .slice a5 xs.length c5] 26)) := (B1.out.trans (Mem.below_of_but hG (by omega) (by omega))).trans (hba.mono (by omega))
  have ht := Two.keeps (Two.far T1.out hG (by omega)) hba
  have hx := Two.new w2 (.int .i64 N) (.slice a5 xs.length c5) 26
  have hk := hK.keeps (by omega) hba
  have hs3 : (w2.alloc (.cells #[.int .i64 N, .slice a5 xs.length c5] 26)).heap.size = w2.heap.size + 1 := by simp
  go_wp2_with fail
  generalize w2.alloc (.cells #[.int .i64 N, .slice a5 xs.length c5] 26) = w3 at *
  have HO := Lib.hid ho
  have HB := Lib.hid hb
  have HT := Lib.hid ht
  have HX := Lib.hid hx
  have HK := Lib.hid hk
  obtain ⟨t0, t1, t2, t3, t4⟩ := ht
  obtain ⟨x0, x1, x2, x3, x4⟩ := hx
  clear hO hK hG hr5 K1 T1 B1 hba ho hb hk
  have hwb : w.heap.size ≠ w2.heap.size := by omega
  have hbw : w2.heap.size ≠ w.heap.size := by omega
  go_region_law (first
    | (go_simp; go_at_call 52; refine (bit_small _ _).mono ?_; rintro e w' ⟨⟨z, rfl, hz0, hz1⟩, rfl⟩)
    | (go_simp; go_at_call 51; refine (below_lit (w.heap.size + 1) a n c hn _ 6 (by decide) (by decide) (by decide) _ (by first | exact HK.out.drw | exact HK.out)).mono ?_; rintro e w4 ⟨q, hq, rfl, hd⟩; have O4 := Lib.hid (OwnInts.away (show OwnInts w3.drew _ _ _ from HO.out) hd.2 (by omega)); have T4 := Lib.hid (Two.far (show Two w3.drew _ _ _ from HT.out) hd.2 (by omega)); have X4 := Lib.hid (Two.far (show Two w3.drew _ _ _ from HX.out) hd.2 (by omega)); have B4 : Hid (Below w.heap.size w w4) := HB.out.drew.trans (Mem.below_of_but hd.2 (by omega) HB.out.drew.size); have K4 := Lib.hid hd.1; have x4a := X4.out.2.1; have x4b := X4.out.2.2.1; clear hd)
    | (go_simp; go_at_call 53; refine (once_b (w.heap.size + 1) a n c hn _ 12 (by decide) (by decide) (by decide) _ K4.out).mono ?_; rintro e w5 ⟨b, rfl, hd⟩; have O5 := Lib.hid (OwnInts.away O4.out hd.2 (by omega)); have hT5 := Two.far T4.out hd.2 (by omega); have hX5 := Two.far X4.out hd.2 (by omega); have B5 : Hid (Below w.heap.size w w5) := B4.out.trans (Mem.below_of_but hd.2 (by omega) B4.out.size); obtain ⟨s0, s1, s2, s3, s4⟩ := hT5; obtain ⟨y0, y1, y2, y3, y4⟩ := hX5; clear hd)
    | fail "arm")
  all_goals
    have hw : IntKind.i64.wrap ((q : Int) - z) = (q : Int) - z := IntWalk.i64_in _ (by omega)
    go_wp2
    refine ret_cx2 w.heap.size rfl rfl rfl (x := .int .i64 N) (y := .slice a5 xs.length c5) (by go_simp) (by go_simp) rfl ?_
    exact ⟨N, _, xs, IntKind.i64.wrap ((q : Int) - z), rfl, hl, by rw [hw]; omega, by rw [hw]; omega, (OwnInts.set (OwnInts.set O5.out _ _ _ (by omega)) _ _ _ (by omega)).lower (by omega), (B5.out.setCell (by simp) _).setCell (by simp) _⟩

end Go.Proofs.Ythjgpbcdcgagfaa
