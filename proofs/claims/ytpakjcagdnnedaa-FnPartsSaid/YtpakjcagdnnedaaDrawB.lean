/-
  TEXTS of one claim, put together: WDrawCx4, WDrawCx5, WDrawCx6.
-/
import Derived.Test.YtpakjcagdnnedaaWDrawCx3
import Derived.Deep.RegionLaw
import Derived.Deep.AppendLies
/-! WALKS: spec.l3Bent: a complex, mostly, is drawn. -/

namespace Go.Proofs.Ytpakjcagdnnedaa
open Go.RowKit
open Sets

theorem Cur.drw {w : World} {B : Nat} {a : Option Addr} {n c : Nat} (h : Cur w B a n c) : Cur w.drew B a n c := ⟨h.c0, h.c1, h.c2, h.fr, h.bs⟩
theorem OwnInts.setNe {w : World} {base b : Nat} {v : Value} {xs : List Int} (h : OwnInts w base v xs) (hne : v.ownBlock ≠ some b) (o : Nat) (z : Value) : OwnInts (w.setCell ⟨b, o, none⟩ z) base v xs :=
  World.ownsRow.kept h (Mem.but_setCell w b o z) (.inr hne)
theorem OwnInts.own_lt {w : World} {base : Nat} {v : Value} {xs : List Int} (h : OwnInts w base v xs) : ∀ b, w.heap.size ≤ b → v.ownBlock ≠ some b := fun b hb e => by
  have := (World.ownsRow.lt h b e).2
  omega
theorem Two.grown {w w' : World} {b : Nat} {row : Option Nat} {x y : Value} (h : Two w b x y) (hg : w.grownBy w' row) (hne : row ≠ some b) : Two w' b x y := by
  obtain ⟨h1, h2, h3, h4, h5⟩ := h
  have hb := hg.block b h1 (Ne.symm hne)
  have := hg.size
  exact ⟨by omega, by rw [World.cell?_of_block (w := w) (w' := w') (a := ⟨b, 0, none⟩) hb]; exact h2, by rw [World.cell?_of_block (w := w) (w' := w') (a := ⟨b, 1, none⟩) hb]; exact h3,
    by rw [World.frozen?_of_block (w := w) (w' := w') (a := ⟨b, 0, none⟩) hb]; exact h4, by rw [World.frozen?_of_block (w := w) (w' := w') (a := ⟨b, 1, none⟩) hb]; exact h5⟩
theorem OwnInts.own_ge {w : World} {base : Nat} {v : Value} {xs : List Int} (h : OwnInts w base v xs) : ∀ b, b < base → v.ownBlock ≠ some b := fun b hb e => by
  have := (World.ownsRow.lt h b e).1
  omega
theorem three_a (r : Nat) : ∃ m : Int, ([0, 7, 2] : List Int).getD r 0 = m := ⟨_, rfl⟩

set_option maxRecDepth 100000 in
set_option maxHeartbeats 8000000 in
theorem l3Bent_any (a : Option Addr) (n c : Nat) (hn : n ≤ 140737488355328) (B : Nat) (w : World) (hBw : B < w.heap.size) (hc : Cur w B a n c) :
    Calls Try.prog 50 #[.pointer (some ⟨B, 0, none⟩)] w fun e w' => DrawnCx 449 w B a n c e w' := by
  obtain ⟨i0, hi, hz0, hz1, hz2⟩ := info_parts info_int
  have hb0 : Below w.heap.size w (w.alloc (.cells #[.int .i64 0, .slice none 0 0] 26)) := (Below.refl _ _).alloc (Nat.le_refl _) _
  have htwo := Two.new w (.int .i64 0) (.slice none 0 0) 26
  have HC0 := Lib.hid (hc.keeps hBw hb0)
  have HOLD := Lib.hid hc.old
  have HG0 := Lib.hid (Mem.but_of_below hb0 (some B))
  have HT0 := Lib.hid htwo
  clear hc hb0 htwo
  go_enter Try.func50, Try.ntmps50
  go_wp2_with fail
  refine (l3Draw_any a n c hn B _ (by simp; omega) HC0.out).mono ?_
  rintro e w1 ⟨N, v, xs, rfl, hl, hO, hK, hG⟩
  simp only [World.size_alloc] at hO
  have hs1 := hG.size
  simp only [World.size_alloc] at hs1
  obtain ⟨a1, c1, g1, rfl, hc1, hg1, hr1, _⟩ := OwnInts.ata hO hs1
  have hnb := hO.own_lt w1.heap.size (Nat.le_refl _)
  have HNB := Lib.hid hnb
  have hba : Below w1.heap.size w1 (w1.alloc (.cells #[.int .i64 N, .slice a1 xs.length c1] 26)) := (Below.refl _ _).alloc (Nat.le_refl _) _
  have O2 := Lib.hid (hO.alloc (.cells #[.int .i64 N, .slice a1 xs.length c1] 26))
  have K2 := Lib.hid (hK.keeps (by omega) hba)
  have T2 := Lib.hid (Two.keeps (Two.far HT0.out hG (by omega)) hba)
  have G2 := Lib.hid ((HG0.out.trans hG).trans (Mem.but_of_below hba _))
  have X2 := Lib.hid (Two.new w1 (.int .i64 N) (.slice a1 xs.length c1) 26)
  clear hO hK hG hr1 hba HC0 HG0 HT0 hnb
  go_wp2_with fail
  refine (below_lit B a n c hn _ 14 (by decide) (by decide) (by decide) _ K2.out).mono ?_
  rintro e w3 ⟨r, hr, rfl, hd⟩
  have K3 := Lib.hid hd.1
  have O3 := Lib.hid (OwnInts.away O2.out hd.2 (by omega))
  have T3 := Lib.hid (Two.far T2.out hd.2 (by omega))
  have X3 := Lib.hid (Two.far X2.out hd.2 (by omega))
  have G3 := Lib.hid (G2.out.trans hd.2)
  have hs3 := X3.out.1
  obtain ⟨b3, hb3⟩ : ∃ b3, w1.heap.size = b3 := ⟨_, rfl⟩
  rw [hb3] at X3 hs3 HNB hs1 ⊢
  clear hd O2 K2 T2 G2 X2 hb3
  by_cases e0 : r = 0
  · have q0 : ((r : Int) == 0) = true := by simp [e0]
    subst e0
    have hba : Below w3.heap.size w3 (w3.alloc (.cells #[.int .i64 0, .int .i64 7, .int .i64 2] 3)) := (Below.refl _ _).alloc (Nat.le_refl _) _
    have K4 := Lib.hid (K3.out.keeps (by omega) hba)
    have O4 := Lib.hid (O3.out.alloc (.cells #[.int .i64 0, .int .i64 7, .int .i64 2] 3))
    have T4 := Lib.hid (Two.keeps T3.out hba)
    have X4 := Lib.hid (Two.keeps X3.out hba)
    have G4 := Lib.hid (G3.out.trans (Mem.but_of_below hba _))
    have HROW := Lib.hid (row_ints w3 [0, 7, 2] 3)
    clear hba K3 O3 T3 X3 G3
    go_wp2_with fail
    refine (pickInt_any B a n c hn w3.heap.size 0 3 [0, 7, 2] (by decide) (by decide) _ K4.out (by omega) (by exact HROW.out)).mono ?_
    rintro e w5 ⟨r2, hr2, rfl, hd⟩
    obtain ⟨m, em⟩ := three_a r2
    rw [em]
    have K5 := Lib.hid hd.1
    have O5 := Lib.hid (OwnInts.away O4.out hd.2 (by omega))
    obtain ⟨t0, t1, t2, t3, t4⟩ := Two.far T4.out hd.2 (by omega)
    obtain ⟨x0, x1, x2, x3, x4⟩ := Two.far X4.out hd.2 (by omega)
    have G5 := Lib.hid (G4.out.trans hd.2)
    clear hd em K4 O4 T4 X4 G4 HROW
    have hwb : w.heap.size ≠ b3 := by omega
    have hbw : b3 ≠ w.heap.size := by omega
    go_wp2
    refine ret_cx w.heap.size rfl rfl (x := .int .i64 m) (y := .slice a1 xs.length c1) (by go_simp) (by go_simp) rfl ?_
    exact DrawnCx.end hBw HOLD.out (Nat.le_trans hl (by decide)) (OwnInts.setNe O5.out HNB.out 0 (.int .i64 m)) (K5.out.below (b := w.heap.size) hBw ((Below.refl w.heap.size w5).setCell (by dsimp only; omega) _) HOLD.out) (but_below G5.out (b := w.heap.size) ((Below.refl w.heap.size w5).setCell (by dsimp only; omega) _) (Nat.le_refl _)) _ _
  by_cases e1 : r = 1
  · have q0 : ((r : Int) == 0) = false := by simp [e1]
    have q1 : ((r : Int) == 1) = true := by simp [e1]
    subst e1
    obtain ⟨t0, t1, t2, t3, t4⟩ := T3.out
    obtain ⟨x0, x1, x2, x3, x4⟩ := X3.out
    have hwb : w.heap.size ≠ b3 := by omega
    have hbw : b3 ≠ w.heap.size := by omega
    go_wp2_with fail
    have hnw := O3.out.own_ge w.heap.size (by omega)
    have HNW := Lib.hid hnw
    clear hnw
    go_region_law (first | (go_simp; go_at_call 51; refine (below_lit B a n c hn _ 66 (by decide) (by decide) (by decide) _ (by first | exact K3.out.drw | exact K3.out)).mono ?_; rintro e w4 ⟨q, hq, rfl, hd⟩; have O4 : Hid (w4.ownsRow (w.heap.size + 1) 3 1 (.slice a1 xs.length c1) xs.length (xs.map (Value.int .i64))) := Lib.hid (OwnInts.away (show OwnInts w3.drew _ _ _ from O3.out) hd.2 (by omega)); have T4 := Lib.hid (Two.far (show Two w3.drew _ _ _ from T3.out) hd.2 (by omega)); have X4 := Lib.hid (Two.far (show Two w3.drew _ _ _ from X3.out) hd.2 (by omega)); have K4 := Lib.hid hd.1; have G4 := Lib.hid (G3.out.trans (World.grownBy.trans (Mem.but_of_below (bdrew1 w3) _) hd.2)); have hs4 : b3 < w4.heap.size := X4.out.1; have z2 := X4.out.2.2.1; clear hd) | (refine step_append_lies _ (by rfl) _ _ _ (by rfl) (w.heap.size + 1) 3 i0 (.int .i64 0) 1 8 Try.underlying24 hi hz0 hz1 hz2 rfl (by decide) (.slice a1 xs.length c1) xs.length (xs.map (Value.int .i64)) (by rfl) (O4.out.alloc _) ⟨w4.heap.size, 0, none⟩ 1 1 [.int .i64 (IntKind.i64.wrap ((q : Int) - 1))] (by rfl) (by rfl) (by intro j u hj; exact Mem.cell_new w4 _ _ j u hj) (by intro u hu; simp at hu; subst hu; rfl) (by decide) (by unfold maxLen; omega) (by omega) (by simp; omega) (w4.heap.size + 1) (by simp) ?_; intro gg cap w5 hown5 hgrow hat hlt; have T5 := Two.grown (T4.out.alloc _) hgrow HNW.out; have X5 := Two.grown (X4.out.alloc _) hgrow HNB.out; obtain ⟨s0, s1, s2, s3, s4⟩ := T5; obtain ⟨y0, y1, y2, y3, y4⟩ := X5; have HOWN := Lib.hid hown5; have HGR := Lib.hid hgrow; have HAT := Lib.hid hat; clear hown5 hgrow hat))
    all_goals
      have hbs : Below (w.heap.size + 1) w4 w5 := ((Below.refl _ _).alloc (by omega) _).grown HGR.out (by simp; omega) (fun g hg => (O4.out.lt g hg).1)
      have hOE : OwnInts w5 (w.heap.size + 1) (.slice (some ⟨gg, 0, none⟩) (xs.length + 1) cap) (xs ++ [IntKind.i64.wrap ((q : Int) - 1)]) := OwnInts.next HOWN.out
      have hgb : gg ≠ b3 := by
        rcases HAT.out with e | e
        · intro h; exact HNB.out (by rw [e, h])
        · omega
      have hK5 := K4.out.below (b := w.heap.size + 1) (by omega) hbs (fun j hj g o e => by have := HOLD.out j hj g o e; omega)
      have hG5 := but_below G4.out hbs (by omega)
      have HOE := Lib.hid hOE
      have HGB := Lib.hid hgb
      have K5 := Lib.hid hK5
      have G5 := Lib.hid hG5
      clear hbs hOE hgb hK5 hG5 HOWN HGR HAT
      go_wp2
      refine ret_cx w.heap.size rfl rfl (x := .int .i64 N) (y := .slice (some ⟨gg, 0, none⟩) (xs.length + 1) cap) (by go_simp) (by go_simp) rfl ?_
      exact DrawnCx.end hBw HOLD.out (by rw [List.length_append]; simp; omega) (OwnInts.setNe HOE.out (by simp only [Value.ownBlock, ne_eq, Option.some.injEq]; exact HGB.out) 1 _) (K5.out.below (b := w.heap.size) hBw ((Below.refl w.heap.size w5).setCell (by dsimp only; omega) _) HOLD.out) (but_below G5.out (b := w.heap.size) ((Below.refl w.heap.size w5).setCell (by dsimp only; omega) _) (Nat.le_refl _)) _ _
  · have q0 : ((r : Int) == 0) = false := by simp; omega
    have q1 : ((r : Int) == 1) = false := by simp; omega
    obtain ⟨t0, t1, t2, t3, t4⟩ := T3.out
    obtain ⟨x0, x1, x2, x3, x4⟩ := X3.out
    go_wp2
    refine ret_cx w.heap.size rfl rfl (x := .int .i64 N) (y := .slice a1 xs.length c1) (by go_simp) (by go_simp) rfl ?_
    exact DrawnCx.end hBw HOLD.out (Nat.le_trans hl (by decide)) O3.out K3.out G3.out _ _

end Go.Proofs.Ytpakjcagdnnedaa

/-! WALKS: the draws of chapter 4. -/

namespace Go.Proofs.Ytpakjcagdnnedaa
open Go.RowKit
open Sets

/-- What the draw of a complex from a code hands back. -/
def Drawn1 (w : World) (e : Ending) (w' : World) : Prop :=
  ∃ (N : Int) (v : Value) (xs : List Int), e = .returned (cx N v) ∧ xs.length ≤ 449 ∧ OwnInts w' w.heap.size v xs ∧ Below w.heap.size w w'
def Drawn2 (w : World) (e : Ending) (w' : World) : Prop :=
  ∃ (N : Int) (v : Value) (xs : List Int) (k : Int), e = .returned (.tuple #[cx N v, .int .i64 k]) ∧ xs.length ≤ 449 ∧ OwnInts w' w.heap.size v xs ∧ Below w.heap.size w w'

end Go.Proofs.Ytpakjcagdnnedaa

/-! WALKS: a complex with a set that is often a face is drawn. -/

namespace Go.Proofs.Ytpakjcagdnnedaa
open Go.RowKit
open Sets

set_option maxRecDepth 100000 in
set_option maxHeartbeats 8000000 in
theorem l3Case_any (a : Option Addr) (n c : Nat) (hn : n ≤ 140737488355328) (w : World) (hc : Code w a n) :
    Calls Try.prog 38 #[.slice a n c] w fun e w' => Drawn2 w e w' := by
  have hb0 : Below w.heap.size w (w.alloc (.cells #[.int .i64 0, .slice none 0 0] 26)) := (Below.refl _ _).alloc (Nat.le_refl _) _
  have HC0 := Lib.hid (hc.keeps hb0)
  have HB0 := Lib.hid hb0
  have HT0 := Lib.hid (Two.new w (.int .i64 0) (.slice none 0 0) 26)
  clear hc hb0
  go_enter Try.func38, Try.ntmps38
  go_wp2_with fail
  refine (new_any a n c hn _ HC0.out).mono ?_
  rintro e w1 ⟨rfl, hcur, hz1, hb1⟩
  simp only [World.size_alloc] at hcur hz1
  have K1 := Lib.hid hcur
  have B1 : Hid (Below w.heap.size w w1) := HB0.out.trans (hb1.mono (by simp))
  have T1 := Lib.hid (Two.keeps HT0.out hb1)
  clear hcur hb1 HC0 HB0 HT0
  go_wp2_with fail
  refine (l3Bent_any a n c hn (w.heap.size + 1) w1 hz1 K1.out).mono ?_
  rintro e w2 ⟨N, v, xs, rfl, hl, hO, hK, hG⟩
  obtain ⟨a5, c5, g5, rfl, hc5, hg5, hr5, _⟩ := OwnInts.ata hO hG.size
  have hs2 := hG.size
  have hba : Below w2.heap.size w2 (w2.alloc (.cells #[.int .i64 N, .slice a5 xs.length c5] 26)) := (Below.refl _ _).alloc (Nat.le_refl _) _
  have HO2 := Lib.hid (OwnInts.lower (hO.alloc (.cells #[.int .i64 N, .slice a5 xs.length c5] 26)) (show w.heap.size + 2 ≤ w1.heap.size by omega))
  have HR2 := Lib.hid (hr5.keeps hba)
  have HB2 : Hid (Below w.heap.size w (w2.alloc (.cells #[.int .i64 N, .slice a5 xs.length c5] 26))) := (B1.out.trans (Mem.below_of_but hG (by omega) (by omega))).trans (hba.mono (by omega))
  have HT2 := Lib.hid (Two.keeps (Two.far T1.out hG (by omega)) hba)
  have HX2 := Lib.hid (Two.new w2 (.int .i64 N) (.slice a5 xs.length c5) 26)
  have HK2 := Lib.hid (hK.keeps (by omega) hba)
  clear hO hK hG hr5 K1 T1 B1 hba
  have hwb : w.heap.size ≠ w2.heap.size := by omega
  have hbw : w2.heap.size ≠ w.heap.size := by omega
  obtain ⟨x0, x1, x2, x3, x4⟩ := HX2.out
  go_wp2_with fail
  refine (specFaces_any N _ _ xs (by omega) _ HR2.out.ints).mono ?_
  rintro e w4 ⟨v, rfl, hO, hb⟩
  have hll := faces_le N xs
  have HFA := Lib.hid (faces_at N xs)
  obtain ⟨L, hL⟩ : ∃ L, faces N xs = L := ⟨_, rfl⟩
  rw [hL] at hO hll HFA
  clear hL
  have hs4 := hb.size
  simp only [World.size_alloc] at hs4
  obtain ⟨aL, cL, gL, rfl, _, hgL, hrL, _⟩ := OwnInts.ata hO hb.size
  simp only [World.size_alloc] at hgL
  have O4 := Lib.hid (OwnInts.keeps HO2.out hb)
  have B4 : Hid (Below w.heap.size w w4) := HB2.out.trans (hb.mono HB2.out.size)
  have T4 := Lib.hid (Two.keeps HT2.out hb)
  have X4 := Lib.hid (Two.keeps HX2.out hb)
  have K4 := Lib.hid (HK2.out.keeps (by simp; omega) hb)
  have R4 := Lib.hid hrL
  clear hO hb hrL HO2 HR2 HB2 HT2 HX2 HK2 x0 x1 x2 x3 x4
  by_cases h0 : L.length = 0
  · have hz : decide ((0 : Int) < (L.length : Int)) = false := by simp [h0]
    have hz2 : ¬ (0 : Int) < (L.length : Int) := by omega
    obtain ⟨t0, t1, t2, t3, t4⟩ := T4.out
    obtain ⟨x0, x1, x2, x3, x4⟩ := X4.out
    obtain ⟨w5, rfl⟩ : ∃ w5 : World, w5 = w4 := ⟨_, rfl⟩
    have K5 := K4
    have O5 := O4
    have T5 := T4
    have X5 := X4
    have B5 := B4
    go_wp2_with fail
    go_region_law (first | (go_simp; go_at_call 51; refine (below_lit (w.heap.size + 1) a n c hn _ 66 (by decide) (by decide) (by decide) _ (by first | exact K5.out.drw | exact K5.out)).mono ?_; rintro e w6 ⟨q, hq, rfl, hd⟩; have O6 := Lib.hid (OwnInts.away (show OwnInts w5.drew _ _ _ from O5.out) hd.2 (by omega)); have hT6 := Two.far (show Two w5.drew _ _ _ from T5.out) hd.2 (by omega); have hX6 := Two.far (show Two w5.drew _ _ _ from X5.out) hd.2 (by omega); have B6 : Hid (Below w.heap.size w w6) := B5.out.drew.trans (Mem.below_of_but hd.2 (by omega) B5.out.drew.size); obtain ⟨s0, s1, s2, s3, s4⟩ := hT6; obtain ⟨y0, y1, y2, y3, y4⟩ := hX6; clear hd))
    all_goals
      go_wp2
      refine ret_cx2 w.heap.size rfl rfl rfl (x := .int .i64 N) (y := .slice a5 xs.length c5) (by go_simp) (by go_simp) rfl ?_
      exact ⟨N, _, xs, _, rfl, hl, (OwnInts.set (OwnInts.set O6.out _ _ _ (by omega)) _ _ _ (by omega)).lower (by omega), (B6.out.setCell (by simp) _).setCell (by simp) _⟩
  · have hz : decide ((0 : Int) < (L.length : Int)) = true := by simp; omega
    have hz2 : (0 : Int) < (L.length : Int) := by omega
    go_wp2_with fail
    refine (once_b (w.heap.size + 1) a n c hn _ 4 rfl (by omega) (by omega) _ K4.out).mono ?_
    rintro e w5 ⟨b, rfl, hd⟩
    have K5 := Lib.hid hd.1
    have O5 := Lib.hid (OwnInts.away O4.out hd.2 (by omega))
    have T5 := Lib.hid (Two.far T4.out hd.2 (by omega))
    have X5 := Lib.hid (Two.far X4.out hd.2 (by omega))
    have R5 := Lib.hid (R4.out.far hd.2 (by omega))
    have B5 : Hid (Below w.heap.size w w5) := B4.out.trans (Mem.below_of_but hd.2 (by omega) B4.out.size)
    clear hd K4 O4 T4 X4 R4 B4
    obtain ⟨t0, t1, t2, t3, t4⟩ := T5.out
    obtain ⟨x0, x1, x2, x3, x4⟩ := X5.out
    cases b with
    | true =>
      go_wp2_with fail
      go_region_law (first | (go_simp; go_at_call 51; refine (below_lit (w.heap.size + 1) a n c hn _ 66 (by decide) (by decide) (by decide) _ (by first | exact K5.out.drw | exact K5.out)).mono ?_; rintro e w6 ⟨q, hq, rfl, hd⟩; have O6 := Lib.hid (OwnInts.away (show OwnInts w5.drew _ _ _ from O5.out) hd.2 (by omega)); have hT6 := Two.far (show Two w5.drew _ _ _ from T5.out) hd.2 (by omega); have hX6 := Two.far (show Two w5.drew _ _ _ from X5.out) hd.2 (by omega); have B6 : Hid (Below w.heap.size w w6) := B5.out.drew.trans (Mem.below_of_but hd.2 (by omega) B5.out.drew.size); obtain ⟨s0, s1, s2, s3, s4⟩ := hT6; obtain ⟨y0, y1, y2, y3, y4⟩ := hX6; clear hd))
      all_goals
        go_wp2
        refine ret_cx2 w.heap.size rfl rfl rfl (x := .int .i64 N) (y := .slice a5 xs.length c5) (by go_simp) (by go_simp) rfl ?_
        exact ⟨N, _, xs, _, rfl, hl, (OwnInts.set (OwnInts.set O6.out _ _ _ (by omega)) _ _ _ (by omega)).lower (by omega), (B6.out.setCell (by simp) _).setCell (by simp) _⟩
    | false =>
      obtain ⟨ea, _, _, _⟩ := R5.out 0 (by omega)
      obtain rfl := ea
      go_wp2_with fail
      go_region_law (first | (go_simp; go_at_call 51; refine (below_lit (w.heap.size + 1) a n c hn _ L.length rfl (by omega) (by omega) _ (by first | exact K5.out.drw | exact K5.out)).mono ?_; rintro e w6 ⟨q, hq, rfl, hd⟩; have O6 := Lib.hid (OwnInts.away (show OwnInts w5.drew _ _ _ from O5.out) hd.2 (by omega)); have hT6 := Two.far (show Two w5.drew _ _ _ from T5.out) hd.2 (by omega); have hX6 := Two.far (show Two w5.drew _ _ _ from X5.out) hd.2 (by omega); have B6 : Hid (Below w.heap.size w w6) := B5.out.drew.trans (Mem.below_of_but hd.2 (by omega) B5.out.drew.size); have hc6 := ((IntsAt.drewN R5.out 1).far (show (w5.drewN 1).grownBy w6 _ from hd.2) (by omega) q hq).2.2.1; have hqi : (q : Int) < (L.length : Int) := (by omega); generalize L.getD q 0 = t at hc6; obtain ⟨s0, s1, s2, s3, s4⟩ := hT6; obtain ⟨y0, y1, y2, y3, y4⟩ := hX6; clear hd))
      all_goals
        go_wp2
        refine ret_cx2 w.heap.size rfl rfl rfl (x := .int .i64 N) (y := .slice a5 xs.length c5) (by go_simp) (by go_simp) rfl ?_
        exact ⟨N, _, xs, _, rfl, hl, (OwnInts.set (OwnInts.set O6.out _ _ _ (by omega)) _ _ _ (by omega)).lower (by omega), (B6.out.setCell (by simp) _).setCell (by simp) _⟩

end Go.Proofs.Ytpakjcagdnnedaa
