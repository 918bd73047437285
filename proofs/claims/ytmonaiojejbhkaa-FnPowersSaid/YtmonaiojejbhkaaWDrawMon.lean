/-
  WALKS: spec's draws of chapter 12 (written by gendrawmon.py).
-/
import Derived.Test.YtmonaiojejbhkaaJg26
import Derived.Test.YtmonaiojejbhkaaJg15
import Derived.Test.YtmonaiojejbhkaaJg2
import Derived.Handy
namespace Go.Proofs.Ytmonaiojejbhkaa
open Go.RowKit
open Sets Hn

set_option maxRecDepth 100000 in
set_option maxHeartbeats 8000000 in
theorem drawAMC_any (a : Option Addr) (n c : Nat) (hn : n ≤ 140737488355328) (w : World) (hc : Code w a n) :
    Calls Try.prog 11 #[.slice a n c] w fun e w' => ∃ (v : Value) (xs : List Int), e = .returned v ∧ xs.length ≤ 7 ∧ OwnInts w' w.heap.size v xs ∧ Below w.heap.size w w' := by
  obtain ⟨i0, hi, hz0, hz1, hz2⟩ := info_parts info_int
  have HC0 := Lib.hid hc
  clear hc
  go_enter Try.func11, Try.ntmps11
  go_wp2_with fail
  refine (new_any a n c hn _ HC0.out).mono ?_
  rintro e w1 ⟨rfl, hcur, hs1, hb1⟩
  obtain ⟨B, hB⟩ : ∃ B, w.heap.size = B := ⟨_, rfl⟩
  have HBE := Lib.hid hB
  rw [hB] at hcur hs1 hb1 ⊢
  have hold : ∀ j, j < n → ∀ g o : Nat, a = some ⟨g, o, none⟩ → g < B := fun j hj g o e => by
    obtain ⟨g2, o2, x, e2, _, h2⟩ := HC0.out j hj
    rw [e] at e2
    cases e2
    exact hB ▸ World.block_lt_of_cell? w _ h2
  have HOLD := Lib.hid hold
  have K1 := Lib.hid hcur
  have B1 := Lib.hid hb1
  clear hcur hb1 HC0 hB hold
  go_wp2_with fail
  refine (l3Draw_any a n c hn B w1 hs1 K1.out).mono ?_
  rintro e w2 ⟨N, v, xs, rfl, hl, hO, hK, hG⟩
  obtain ⟨a2, c2, g2, rfl, hc2, hg2, hr2, _⟩ := OwnInts.ata hO hG.size
  have hs2 : B < w2.heap.size := Nat.lt_of_lt_of_le hs1 hG.size
  have K2 := Lib.hid hK
  have B2 : Hid (Below B w w2) := B1.out.trans (Mem.below_of_but hG (Nat.le_refl _) (by omega))
  have R2 := Lib.hid hr2.ints
  clear hO hK hG hr2 K1 B1
  have hl7 := hnum_le7 N xs
  go_wp2_with fail
  refine (specH_any N a2 c2 xs (by omega) w2 R2.out).mono ?_
  rintro e w3 ⟨v3, rfl, hO, hb⟩
  obtain ⟨L, hL⟩ : ∃ L, hnum N xs = L := ⟨_, rfl⟩
  rw [hL] at hO hl7
  have hs3 : B < w3.heap.size := Nat.lt_of_lt_of_le hs2 hb.size
  have K3 := Lib.hid (K2.out.keeps hs2 hb)
  have B3 : Hid (Below B w w3) := B2.out.trans (hb.mono (by omega))
  have O3 : Hid (OwnInts w3 (B + 1) v3 L) := hO.lower (by omega)
  clear hO hb hL R2 K2 B2
  obtain ⟨aa, cc, gg, hvv, hcc, hgg, hrr, _⟩ := OwnInts.ata O3.out (show B + 1 ≤ w3.heap.size by omega)
  obtain ⟨l, hll⟩ : ∃ l, L.length = l := ⟨_, rfl⟩
  have HLL := Lib.hid hll
  rw [hll] at hvv hl7
  by_cases h0 : l = 0
  · subst h0
    subst hvv
    go_wp2
    go_ret
    exact ⟨_, L, rfl, by rw [HLL.out]; omega, by rw [HBE.out]; exact O3.out.lower (by omega), by rw [HBE.out]; exact B3.out⟩
  · have hd0 : decide (0 < l) = true := by simp; omega
    have hO1 := O3.out
    rw [hvv, ← hll] at hO1
    obtain ⟨e4, hgl, hci, hfi⟩ := hrr 0 (by omega)
    subst hvv
    subst e4
    have HP := Lib.hid hO1
    clear hrr hci hfi hll hO1
    go_wp2_with fail
    refine (once_b B a n c hn _ 2 rfl (by decide) (by decide) _ K3.out).mono ?_
    rintro e w7 ⟨b2, rfl, hd⟩
    have B7 : Hid (Below B w w7) := B3.out.trans (Mem.below_of_but hd.2 (Nat.le_refl _) (by omega))
    have O7 : Hid (OwnInts w7 (B + 1) (.slice (some ⟨gg, 0, none⟩) L.length cc) L) := OwnInts.away HP.out hd.2 (by omega)
    have hs7 : B < w7.heap.size := Nat.lt_of_lt_of_le hs3 hd.2.size
    have K7 := Lib.hid hd.1
    clear hd K3 B3 O3 HP
    cases b2 with
    | false =>
      have h7 := O7.out
      rw [HLL.out] at h7
      have H7 := Lib.hid h7
      clear h7
      go_wp2
      go_ret
      exact ⟨_, L, rfl, by rw [HLL.out]; omega, by rw [HBE.out]; exact H7.out.lower (by omega), by rw [HBE.out]; exact B7.out⟩
    | true =>
      go_wp2_with fail
      refine (below_lit B a n c hn _ l rfl (by omega) (by omega) _ K7.out).mono ?_
      rintro e w8 ⟨q, hq, rfl, hd⟩
      have K8 := Lib.hid hd.1
      have B8 : Hid (Below B w w8) := B7.out.trans (Mem.below_of_but hd.2 (Nat.le_refl _) (by omega))
      have O8 : Hid (OwnInts w8 (B + 1) (.slice (some ⟨gg, 0, none⟩) L.length cc) L) := OwnInts.away O7.out hd.2 (by omega)
      have hs8 : B < w8.heap.size := Nat.lt_of_lt_of_le hs7 hd.2.size
      clear hd K7 B7 O7
      obtain ⟨a9, c9, g9, hv9, hg9, hr9⟩ := O8.out.at
      injection hv9 with e1 e2 e3
      subst e1
      obtain ⟨e4, hgl8, hc8, hf8⟩ := hr9 q (by rw [HLL.out]; exact hq)
      injection e4 with e4
      injection e4 with e4
      subst e4
      obtain ⟨x, hx⟩ : ∃ x, L.getD q 0 = x := ⟨_, rfl⟩
      rw [hx] at hc8
      have HPUT : Hid (∀ (w' : World) (y : Int), w8.drew.grownBy w' (some B) → OwnInts (w'.setCell ⟨gg, q, none⟩ (.int .i64 y)) (B + 1) (.slice (some ⟨gg, 0, none⟩) l cc) (L.set q y)) := by
        have : ∀ (w' : World) (y : Int), w8.drew.grownBy w' (some B) → OwnInts (w'.setCell ⟨gg, q, none⟩ (.int .i64 y)) (B + 1) (.slice (some ⟨gg, 0, none⟩) l cc) (L.set q y) := fun w' y hg => by
          have h1 : OwnInts w' (B + 1) (.slice (some ⟨gg, 0, none⟩) L.length cc) L := OwnInts.away (show OwnInts w8.drew _ _ _ from O8.out) hg (by omega)
          have h2 := h1.put q y
          rw [List.length_set, HLL.out] at h2
          exact h2
        exact this
      have hgB : gg ≠ B := by omega
      have hc3 : ∀ w3 : World, w8.drew.grownBy w3 (some B) → w3.cell? ⟨gg, q, none⟩ = some (.int .i64 x) := fun w3 hg => (World.cell?_of_block (w := w8.drew) (w' := w3) (a := ⟨gg, q, none⟩) (hg.block gg hgl8 (by simpa using hgB))).trans hc8
      have hf3 : ∀ w3 : World, w8.drew.grownBy w3 (some B) → w3.frozen? ⟨gg, q, none⟩ = false := fun w3 hg => (World.frozen?_of_block (w := w8.drew) (w' := w3) (a := ⟨gg, q, none⟩) (hg.block gg hgl8 (by simpa using hgB))).trans hf8
      have HC3 := Lib.hid hc3
      have HF3 := Lib.hid hf3
      clear hx hr9 e2 e3 hc3 hf3
      go_wp2_with fail
      go_region_law (first | (go_simp; go_at_call 40; refine (below_lit B a n c hn _ 5 rfl (by decide) (by decide) _ (by first | exact K8.out.drw | exact K8.out)).mono ?_; rintro e w9 ⟨u, hu, rfl, hd⟩; have c3 := HC3.out w9 hd.2; have f3 := HF3.out w9 hd.2; have HG9 := Lib.hid hd.2; clear hd) | fail "arm")
      all_goals
        have hB9 : Below B w w9 := (B8.out.drew).trans (Mem.below_of_but HG9.out (Nat.le_refl _) (by show B ≤ w8.heap.size; omega))
        have HB9 := Lib.hid hB9
        clear hB9
        have hPP := (HPUT.out w9 (IntKind.i64.wrap (IntKind.i64.wrap (x + (u : Int)) - 2)) HG9.out).lower (Nat.le_succ B)
        have hBB : Below B w (w9.setCell ⟨gg, q, none⟩ (.int .i64 (IntKind.i64.wrap (IntKind.i64.wrap (x + (u : Int)) - 2)))) := HB9.out.setCell (by dsimp only; omega) _
        have HPP := Lib.hid hPP
        have HBB := Lib.hid hBB
        clear hPP hBB
        go_wp2
        go_ret
        exact ⟨_, L.set q (IntKind.i64.wrap (IntKind.i64.wrap (x + (u : Int)) - 2)), rfl, by rw [List.length_set, HLL.out]; omega, by rw [HBE.out]; exact HPP.out, by rw [HBE.out]; exact HBB.out⟩

set_option maxRecDepth 100000 in
set_option maxHeartbeats 8000000 in
theorem drawMons_any (a : Option Addr) (n c : Nat) (hn : n ≤ 140737488355328) (w : World) (hc : Code w a n) :
    Calls Try.prog 12 #[.slice a n c] w fun e w' => ∃ x y : Int, e = .returned (.tuple #[.int .i64 x, .int .i64 y]) ∧ Below w.heap.size w w' := by
  have HC0 := Lib.hid hc
  clear hc
  go_enter Try.func12, Try.ntmps12
  go_wp2_with fail
  refine (new_any a n c hn _ HC0.out).mono ?_
  rintro e w1 ⟨rfl, hcur, hz1, hb1⟩
  have K1 := Lib.hid hcur
  have B1 := Lib.hid hb1
  clear hcur hb1 HC0
  obtain ⟨B, hB⟩ : ∃ B, w.heap.size = B := ⟨_, rfl⟩
  have HBE := Lib.hid hB
  rw [hB] at K1 hz1 ⊢
  have B1 : Hid (Below B w w1) := by
    have := B1.out
    rw [hB] at this
    exact this
  clear hB
  go_wp2_with fail
  refine (below_lit B a n c hn _ 9 rfl (by decide) (by decide) _ K1.out).mono ?_
  rintro e w2 ⟨r1, hr1, rfl, hd⟩
  have K2 := Lib.hid hd.1
  have B2 : Hid (Below B w w2) := B1.out.trans (Mem.below_of_but hd.2 (Nat.le_refl _) (by omega))
  have hz2 : B < w2.heap.size := Nat.lt_of_lt_of_le hz1 hd.2.size
  clear hd K1 B1 hz1
  go_wp2_with fail
  refine (below_lit B a n c hn _ 8 rfl (by decide) (by decide) _ K2.out).mono ?_
  rintro e w3 ⟨r2, hr2, rfl, hd⟩
  have B3 : Hid (Below B w w3) := B2.out.trans (Mem.below_of_but hd.2 (Nat.le_refl _) (by omega))
  clear hd K2 B2 hz2
  go_wp2
  go_ret2
  exact ⟨_, _, rfl, by rw [HBE.out]; exact B3.out⟩

set_option maxRecDepth 100000 in
set_option maxHeartbeats 8000000 in
theorem drawCountM_any (a : Option Addr) (n c : Nat) (hn : n ≤ 140737488355328) (w : World) (hc : Code w a n) :
    Calls Try.prog 15 #[.slice a n c] w fun e w' => ∃ x y : Int, e = .returned (.tuple #[.int .i64 x, .int .i64 y]) ∧ Below w.heap.size w w' := by
  have HC0 := Lib.hid hc
  clear hc
  go_enter Try.func15, Try.ntmps15
  go_wp2_with fail
  refine (new_any a n c hn _ HC0.out).mono ?_
  rintro e w1 ⟨rfl, hcur, hz1, hb1⟩
  have K1 := Lib.hid hcur
  have B1 := Lib.hid hb1
  clear hcur hb1 HC0
  obtain ⟨B, hB⟩ : ∃ B, w.heap.size = B := ⟨_, rfl⟩
  have HBE := Lib.hid hB
  rw [hB] at K1 hz1 ⊢
  have B1 : Hid (Below B w w1) := by
    have := B1.out
    rw [hB] at this
    exact this
  clear hB
  go_wp2_with fail
  refine (below_lit B a n c hn _ 9 rfl (by decide) (by decide) _ K1.out).mono ?_
  rintro e w2 ⟨r1, hr1, rfl, hd⟩
  have K2 := Lib.hid hd.1
  have B2 : Hid (Below B w w2) := B1.out.trans (Mem.below_of_but hd.2 (Nat.le_refl _) (by omega))
  have hz2 : B < w2.heap.size := Nat.lt_of_lt_of_le hz1 hd.2.size
  clear hd K1 B1 hz1
  go_wp2_with fail
  refine (below_lit B a n c hn _ 24 rfl (by decide) (by decide) _ K2.out).mono ?_
  rintro e w3 ⟨r2, hr2, rfl, hd⟩
  have B3 : Hid (Below B w w3) := B2.out.trans (Mem.below_of_but hd.2 (Nat.le_refl _) (by omega))
  clear hd K2 B2 hz2
  go_wp2
  go_ret2
  exact ⟨_, _, rfl, by rw [HBE.out]; exact B3.out⟩

set_option maxRecDepth 100000 in
set_option maxHeartbeats 8000000 in
theorem drawShell_any (a : Option Addr) (n c : Nat) (hn : n ≤ 140737488355328) (w : World) (hc : Code w a n) :
    Calls Try.prog 16 #[.slice a n c] w fun e w' => Drawn1 w e w' := by
  have hb0 : Below w.heap.size w (w.alloc (.cells #[.int .i64 0, .slice none 0 0] 33)) := (Below.refl _ _).alloc (Nat.le_refl _) _
  have HC0 := Lib.hid (hc.keeps hb0)
  have HB0 := Lib.hid hb0
  have HT0 := Lib.hid (Two.new w (.int .i64 0) (.slice none 0 0) 33)
  clear hc hb0
  go_enter Try.func16, Try.ntmps16
  go_wp2_with fail
  refine (new_any a n c hn _ HC0.out).mono ?_
  rintro e w1 ⟨rfl, hcur, hz1, hb1⟩
  simp only [World.size_alloc] at hcur hz1
  have K1 := Lib.hid hcur
  have B1 : Hid (Below w.heap.size w w1) := HB0.out.trans (hb1.mono (by simp))
  have T1 := Lib.hid (Two.keeps HT0.out hb1)
  clear hcur hb1 HC0 HB0 HT0
  go_wp2_with fail
  refine (l3Bent_any a n c hn (w.heap.size + 1) w1 hz1 K1.out).mono ?_
  rintro e w2 ⟨N, v, xs, rfl, hl, hO, hK, hG⟩
  obtain ⟨a5, c5, g5, rfl, hc5, hg5, hr5, _⟩ := OwnInts.ata hO hG.size
  have O2 := Lib.hid (OwnInts.lower hO (show w.heap.size + 1 ≤ w1.heap.size by omega))
  have B2 : Hid (Below w.heap.size w w2) := B1.out.trans (Mem.below_of_but hG (by omega) (by omega))
  obtain ⟨t0, t1, t2, t3, t4⟩ := Two.far T1.out hG (by omega)
  clear hO hK hG hr5 K1 T1 B1
  go_wp2
  refine ret_cx w.heap.size rfl rfl (x := .int .i64 N) (y := .slice a5 xs.length c5) (by go_simp) (by go_simp) rfl ?_
  exact ⟨N, _, xs, rfl, hl, (OwnInts.set (OwnInts.set O2.out _ _ _ (by omega)) _ _ _ (by omega)).lower (by omega), (B2.out.setCell (by simp) _).setCell (by simp) _⟩

set_option maxRecDepth 100000 in
set_option maxHeartbeats 8000000 in
theorem drawPower_any (a : Option Addr) (n c : Nat) (hn : n ≤ 140737488355328) (w : World) (hc : Code w a n) :
    Calls Try.prog 10 #[.slice a n c] w fun e w' => ∃ x y : Int, e = .returned (.tuple #[.int .i64 x, .int .i64 y]) ∧ Below w.heap.size w w' := by
  have HC0 := Lib.hid hc
  clear hc
  go_enter Try.func10, Try.ntmps10
  go_wp2_with fail
  refine (drawCascade_any a n c hn _ HC0.out).mono ?_
  rintro e w1 ⟨x, y, rfl, hb⟩
  have HB := Lib.hid hb
  clear hb
  go_wp2
  go_ret2
  exact ⟨_, _, rfl, HB.out⟩

set_option maxRecDepth 100000 in
set_option maxHeartbeats 8000000 in
theorem drawFirstM_any (a : Option Addr) (n c : Nat) (hn : n ≤ 140737488355328) (w : World) (hc : Code w a n) :
    Calls Try.prog 14 #[.slice a n c] w fun e w' => ∃ x y z : Int, e = .returned (.tuple #[.int .i64 x, .int .i64 y, .int .i64 z]) ∧ Below w.heap.size w w' := by
  have HC0 := Lib.hid hc
  clear hc
  go_enter Try.func14, Try.ntmps14
  go_wp2_with fail
  refine (new_any a n c hn _ HC0.out).mono ?_
  rintro e w1 ⟨rfl, hcur, hz1, hb1⟩
  have K1 := Lib.hid hcur
  have B1 := Lib.hid hb1
  clear hcur hb1 HC0
  obtain ⟨B, hB⟩ : ∃ B, w.heap.size = B := ⟨_, rfl⟩
  have HBE := Lib.hid hB
  rw [hB] at K1 hz1 ⊢
  have B1 : Hid (Below B w w1) := by
    have := B1.out
    rw [hB] at this
    exact this
  clear hB
  go_wp2_with fail
  refine (below_lit B a n c hn _ 5 rfl (by decide) (by decide) _ K1.out).mono ?_
  rintro e w2 ⟨r1, hr1, rfl, hd⟩
  have K2 := Lib.hid hd.1
  have B2 : Hid (Below B w w2) := B1.out.trans (Mem.below_of_but hd.2 (Nat.le_refl _) (by omega))
  have hz2 : B < w2.heap.size := Nat.lt_of_lt_of_le hz1 hd.2.size
  clear hd K1 B1 hz1
  go_wp2_with fail
  refine (below_lit B a n c hn _ 5 rfl (by decide) (by decide) _ K2.out).mono ?_
  rintro e w3 ⟨r2, hr2, rfl, hd⟩
  have K3 := Lib.hid hd.1
  have B3 : Hid (Below B w w3) := B2.out.trans (Mem.below_of_but hd.2 (Nat.le_refl _) (by omega))
  have hz3 : B < w3.heap.size := Nat.lt_of_lt_of_le hz2 hd.2.size
  clear hd K2 B2 hz2
  go_wp2_with fail
  refine (below_lit B a n c hn _ 20 rfl (by decide) (by decide) _ K3.out).mono ?_
  rintro e w4 ⟨r3, hr3, rfl, hd⟩
  have K4 := Lib.hid hd.1
  have B4 : Hid (Below B w w4) := B3.out.trans (Mem.below_of_but hd.2 (Nat.le_refl _) (by omega))
  have hz4 : B < w4.heap.size := Nat.lt_of_lt_of_le hz3 hd.2.size
  clear hd K3 B3 hz3
  go_wp2_with fail
  refine (once_b B a n c hn _ 8 rfl (by decide) (by decide) _ K4.out).mono ?_
  rintro e w5 ⟨b, rfl, hd⟩
  have B5 : Hid (Below B w w5) := B4.out.trans (Mem.below_of_but hd.2 (Nat.le_refl _) (by omega))
  clear hd K4 B4 hz4
  go_wp2_with fail
  refine (bit_is b _).mono ?_
  rintro e w6 ⟨⟨z, hz, rfl⟩, rfl⟩
  go_wp2
  go_ret3
  exact ⟨_, _, _, rfl, by rw [HBE.out]; exact B5.out⟩

end Go.Proofs.Ytmonaiojejbhkaa
