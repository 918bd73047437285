/-
  TEXTS of one claim, put together: WDrawCx3, WDrawCx4, WDrawCx5, WDrawCx6.
-/
import Derived.Test.YtmonaiojejbhkaaWDrawCx2
import Derived.Test.YtmonaiojejbhkaaJg24
import Derived.Deep.RegionLaw
import Derived.Deep.AppendLies
/-! WALKS: spec.l3Draw: a complex is drawn. -/

namespace Go.Proofs.Ytmonaiojejbhkaa
open Go.RowKit
open Sets

/-- The complexes that are drawn by name. -/
abbrev named : List ByteArray := [⟨#[54, 58, 97, 98, 99, 44, 97, 99, 100, 44, 97, 98, 101, 44, 97, 100, 101, 44, 98, 99, 102, 44, 99, 100, 102, 44, 98, 101, 102, 44, 100, 101, 102]⟩, ⟨#[54, 58, 97, 99, 100, 44, 98, 99, 100, 44, 97, 98, 101, 44, 97, 99, 101, 44, 98, 100, 101, 44, 97, 98, 102, 44, 98, 99, 102, 44, 97, 100, 102, 44, 99, 101, 102, 44, 100, 101, 102]⟩, ⟨#[54, 58, 97, 98, 100, 44, 97, 98, 101, 44, 97, 99, 101, 44, 98, 99, 101, 44, 99, 100, 101, 44, 97, 99, 102, 44, 98, 99, 102, 44, 97, 100, 102, 44, 98, 100, 102]⟩, ⟨#[53, 58, 97, 98, 44, 98, 99, 44, 99, 100, 44, 97, 101, 44, 100, 101]⟩, ⟨#[52, 58, 97, 98, 44, 98, 99, 44, 99, 100]⟩, ⟨#[54, 58, 97, 98, 44, 99, 100, 44, 101, 102]⟩, ⟨#[53, 58, 97, 98, 99, 44, 99, 100, 101]⟩, ⟨#[52, 58, 97, 98, 99, 44, 97, 98, 100]⟩]
theorem named_size (r : Nat) (h : r < 8) : (named.getD r ByteArray.empty).size ≤ 1048576 := by
  have : ∀ k : Fin 8, (named.getD k.val ByteArray.empty).size ≤ 1048576 := by decide
  exact this ⟨r, h⟩
theorem specP_len (l : List UInt8) : (oL (specP l)).length ≤ 448 := by
  cases h : specP l with
  | none => simp [oL]
  | some p =>
    obtain ⟨N, xs⟩ := p
    have h1 := isC_le ((specP_iff l N xs).1 h).1
    show xs.length ≤ 448
    omega
theorem border_len (n : Int) : (oL (border n)).length ≤ 448 := by
  unfold border
  split
  · exact maximal_length _
  · simp [oL]

/-- What a draw of a complex hands back. -/
def DrawnCx (m : Nat) (w : World) (B : Nat) (a : Option Addr) (n c : Nat) (e : Ending) (w' : World) : Prop :=
  ∃ (N : Int) (v : Value) (xs : List Int), e = .returned (cx N v) ∧ xs.length ≤ m ∧ OwnInts w' w.heap.size v xs ∧ Cur w' B a n c ∧ w.grownBy w' (some B)

/-- The last step: the result lies in its box. -/
theorem DrawnCx.end {m : Nat} {w wE : World} {B : Nat} {a : Option Addr} {n c : Nat} (hBw : B < w.heap.size) (hold : ∀ j, j < n → ∀ g o : Nat, a = some ⟨g, o, none⟩ → g < w.heap.size) {N : Int} {v : Value} {xs : List Int} (hl : xs.length ≤ m)
    (hO : OwnInts wE (w.heap.size + 1) v xs) (hK : Cur wE B a n c) (hG : w.grownBy wE (some B)) (x y : Value) :
    DrawnCx m w B a n c (.returned (cx N v)) ((wE.setCell ⟨w.heap.size, 0, none⟩ x).setCell ⟨w.heap.size, 1, none⟩ y) :=
  ⟨N, v, xs, rfl, hl, (OwnInts.set (OwnInts.set hO _ _ _ (by omega)) _ _ _ (by omega)).lower (by omega),
    hK.below (b := w.heap.size) hBw (((Below.refl w.heap.size wE).setCell (by simp) _).setCell (by simp) _) hold,
    but_below hG (b := w.heap.size) (((Below.refl w.heap.size wE).setCell (by simp) _).setCell (by simp) _) (Nat.le_refl _)⟩

theorem DrawnCx.alloc {m : Nat} {w W : World} {B : Nat} {a : Option Addr} {n c : Nat} {e : Ending} (hBw : B < w.heap.size) (h : DrawnCx m w B a n c e W) (o : Obj) : DrawnCx m w B a n c e (W.alloc o) := by
  obtain ⟨N, v, xs, he, hl, hO, hK, hG⟩ := h
  have hb : Below W.heap.size W (W.alloc o) := (Below.refl _ _).alloc (Nat.le_refl _) _
  have := hG.size
  exact ⟨N, v, xs, he, hl, hO.alloc o, hK.keeps (by omega) hb, hG.trans (Mem.but_of_below hb _)⟩

set_option maxRecDepth 100000 in
set_option maxHeartbeats 8000000 in
theorem l3Draw_any (a : Option Addr) (n c : Nat) (hn : n ≤ 140737488355328) (B : Nat) (w : World) (hBw : B < w.heap.size) (hc : Cur w B a n c) :
    Calls Try.prog 38 #[.pointer (some ⟨B, 0, none⟩)] w fun e w' => DrawnCx 448 w B a n c e w' := by
  have hb2 : Below w.heap.size w ((w.alloc (.cells #[.int .i64 0, .slice none 0 0] 33)).alloc (.cells #[.int .i64 1, .int .i64 2, .int .i64 3, .int .i64 4, .int .i64 4, .int .i64 5, .int .i64 5, .int .i64 6] 3)) := ((Below.refl _ _).alloc (Nat.le_refl _) _).alloc (by simp) _
  have htwo := (Two.new w (.int .i64 0) (.slice none 0 0) 33).alloc (.cells #[.int .i64 1, .int .i64 2, .int .i64 3, .int .i64 4, .int .i64 4, .int .i64 5, .int .i64 5, .int .i64 6] 3)
  have hrow := row_ints (w.alloc (.cells #[.int .i64 0, .slice none 0 0] 33)) [1, 2, 3, 4, 4, 5, 5, 6] 3
  simp only [World.size_alloc] at hrow
  have HC2 := Lib.hid (hc.keeps hBw hb2)
  have HOLD := Lib.hid hc.old
  have HG2 := Lib.hid (Mem.but_of_below hb2 (some B))
  have HT2 := Lib.hid htwo
  have HROW := Lib.hid hrow
  clear hc hb2 htwo hrow
  go_enter Try.func38, Try.ntmps38
  go_wp2_with fail
  refine (pickInt_any B a n c hn (w.heap.size + 1) 0 8 [1, 2, 3, 4, 4, 5, 5, 6] (by decide) (by decide) _ HC2.out (by omega) (by exact HROW.out)).mono ?_
  rintro e w3 ⟨r0, hr0, rfl, hd⟩
  obtain ⟨nn, hn1, hn6, en⟩ := eight_b r0 hr0
  rw [en]
  have K3 := Lib.hid hd.1
  have T3 := Lib.hid (Two.far HT2.out hd.2 (by omega))
  have G3 := Lib.hid (HG2.out.trans hd.2)
  clear hd en HC2 HT2 HG2 HROW
  go_wp2_with fail
  refine (below_lit B a n c hn _ 8 (by decide) (by decide) (by decide) _ K3.out).mono ?_
  rintro e w4 ⟨r, hr, rfl, hd⟩
  have K4 := Lib.hid hd.1
  have T4 := Lib.hid (Two.far T3.out hd.2 (by omega))
  have G4 := Lib.hid (G3.out.trans hd.2)
  have hs4 : w.heap.size + 1 ≤ w4.heap.size := T4.out.1
  clear hd K3 T3 G3
  by_cases e0 : r = 0
  · have q0 : ((r : Int) == 0) = true := by simp [e0]
    subst e0
    go_wp2_with fail
    refine (specBorder_any (nn : Int) _).mono ?_
    rintro e w5 ⟨v, rfl, hO, hb⟩
    have hl := border_len (nn : Int)
    generalize border (nn : Int) = bo at *
    obtain ⟨a5, c5, g5, rfl, hc5, hg5, hr5, _⟩ := OwnInts.ata hO hb.size
    have O5 := Lib.hid (OwnInts.lower hO hs4)
    have K5 := Lib.hid (K4.out.keeps (by omega) hb)
    have T5 := Lib.hid (Two.keeps T4.out hb)
    have G5 := Lib.hid (G4.out.trans (Mem.but_of_below hb _))
    have hs5 := hb.size
    clear hO hb hr5 K4 T4 G4
    obtain ⟨t0, t1, t2, t3, t4⟩ := T5.out
    go_wp2
    refine ret_cx w.heap.size rfl rfl (x := .int .i64 (oN bo)) (y := .slice a5 (oL bo).length c5) (by go_simp) (by go_simp) rfl ?_
    exact DrawnCx.alloc hBw (DrawnCx.end hBw HOLD.out hl O5.out K5.out G5.out _ _) _
  by_cases e1 : r = 1
  · have q0 : ((r : Int) == 0) = false := by simp [e1]
    have q1 : ((r : Int) == 1) = true := by simp [e1]
    subst e1
    have hba : Below w4.heap.size w4 (w4.alloc (.cells #[.string ⟨#[54, 58, 97, 98, 99, 44, 97, 99, 100, 44, 97, 98, 101, 44, 97, 100, 101, 44, 98, 99, 102, 44, 99, 100, 102, 44, 98, 101, 102, 44, 100, 101, 102]⟩, .string ⟨#[54, 58, 97, 99, 100, 44, 98, 99, 100, 44, 97, 98, 101, 44, 97, 99, 101, 44, 98, 100, 101, 44, 97, 98, 102, 44, 98, 99, 102, 44, 97, 100, 102, 44, 99, 101, 102, 44, 100, 101, 102]⟩, .string ⟨#[54, 58, 97, 98, 100, 44, 97, 98, 101, 44, 97, 99, 101, 44, 98, 99, 101, 44, 99, 100, 101, 44, 97, 99, 102, 44, 98, 99, 102, 44, 97, 100, 102, 44, 98, 100, 102]⟩, .string ⟨#[53, 58, 97, 98, 44, 98, 99, 44, 99, 100, 44, 97, 101, 44, 100, 101]⟩, .string ⟨#[52, 58, 97, 98, 44, 98, 99, 44, 99, 100]⟩, .string ⟨#[54, 58, 97, 98, 44, 99, 100, 44, 101, 102]⟩, .string ⟨#[53, 58, 97, 98, 99, 44, 99, 100, 101]⟩, .string ⟨#[52, 58, 97, 98, 99, 44, 97, 98, 100]⟩] 9)) := (Below.refl _ _).alloc (Nat.le_refl _) _
    have K4a := Lib.hid (K4.out.keeps (by omega) hba)
    have T4a := Lib.hid (Two.keeps T4.out hba)
    have G4a := Lib.hid (G4.out.trans (Mem.but_of_below hba _))
    have HN := Lib.hid (row_lit w4 named 9)
    clear hba K4 T4 G4
    go_wp2_with fail
    refine (pick_any B a n c hn w4.heap.size 0 8 named (by decide) (by decide) _ K4a.out (by omega) (by exact HN.out)).mono ?_
    rintro e w4b ⟨r2, hr2, rfl, hd⟩
    have hsz := named_size r2 hr2
    generalize named.getD r2 ByteArray.empty = st at *
    have K4b := Lib.hid hd.1
    have T4b := Lib.hid (Two.far T4a.out hd.2 (by omega))
    have G4b := Lib.hid (G4a.out.trans hd.2)
    have hs4b := hd.2.size
    simp only [World.size_alloc] at hs4b
    clear hd K4a T4a G4a HN
    go_wp2_with fail
    refine (specParseC_any st hsz _).mono ?_
    rintro e w5 ⟨v, rfl, hO, hb⟩
    have hl := specP_len st.data.toList
    generalize specP st.data.toList = bo at *
    obtain ⟨a5, c5, g5, rfl, hc5, hg5, hr5, _⟩ := OwnInts.ata hO hb.size
    have O5 := Lib.hid (OwnInts.lower hO (show w.heap.size + 1 ≤ w4b.heap.size by omega))
    have K5 := Lib.hid (K4b.out.keeps (by omega) hb)
    have T5 := Lib.hid (Two.keeps T4b.out hb)
    have G5 := Lib.hid (G4b.out.trans (Mem.but_of_below hb _))
    have hs5 := hb.size
    clear hO hb hr5 K4b T4b G4b
    obtain ⟨t0, t1, t2, t3, t4⟩ := T5.out
    go_wp2
    refine ret_cx w.heap.size rfl rfl (x := .int .i64 (oN bo)) (y := .slice a5 (oL bo).length c5) (by go_simp) (by go_simp) rfl ?_
    exact DrawnCx.alloc hBw (DrawnCx.end hBw HOLD.out hl O5.out K5.out G5.out _ _) _
  by_cases e2 : r = 2 ∨ r = 3
  · have q0 : ((r : Int) == 0) = false := by simp; omega
    have q1 : ((r : Int) == 1) = false := by simp; omega
    by_cases e3 : r = 2
    · have q2 : ((r : Int) == 2) = true := by simp [e3]
      subst e3
      go_wp2_with fail
      refine (l3Pure_any a n c hn nn hn1 hn6 B _ (by omega) K4.out).mono ?_
      rintro e w5 ⟨v, xs, rfl, hl, hO, hK, hg⟩
      obtain ⟨a5, c5, g5, rfl, hc5, hg5, hr5, _⟩ := OwnInts.ata hO hg.size
      have O5 := Lib.hid (OwnInts.lower hO hs4)
      have K5 := Lib.hid hK
      obtain ⟨t0, t1, t2, t3, t4⟩ := Two.far T4.out hg (by omega)
      have G5 := Lib.hid (G4.out.trans hg)
      clear hO hK hg hr5 K4 T4 G4
      go_wp2
      refine ret_cx w.heap.size rfl rfl (x := .int .i64 (nn : Int)) (y := .slice a5 xs.length c5) (by go_simp) (by go_simp) rfl ?_
      exact DrawnCx.end hBw HOLD.out hl O5.out K5.out G5.out _ _
    · have q2 : ((r : Int) == 2) = false := by simp; omega
      have q3 : ((r : Int) == 3) = true := by simp; omega
      go_wp2_with fail
      refine (l3Pure_any a n c hn nn hn1 hn6 B _ (by omega) K4.out).mono ?_
      rintro e w5 ⟨v, xs, rfl, hl, hO, hK, hg⟩
      obtain ⟨a5, c5, g5, rfl, hc5, hg5, hr5, _⟩ := OwnInts.ata hO hg.size
      have O5 := Lib.hid (OwnInts.lower hO hs4)
      have K5 := Lib.hid hK
      obtain ⟨t0, t1, t2, t3, t4⟩ := Two.far T4.out hg (by omega)
      have G5 := Lib.hid (G4.out.trans hg)
      clear hO hK hg hr5 K4 T4 G4
      go_wp2
      refine ret_cx w.heap.size rfl rfl (x := .int .i64 (nn : Int)) (y := .slice a5 xs.length c5) (by go_simp) (by go_simp) rfl ?_
      exact DrawnCx.end hBw HOLD.out hl O5.out K5.out G5.out _ _
  · have q0 : ((r : Int) == 0) = false := by simp; omega
    have q1 : ((r : Int) == 1) = false := by simp; omega
    have q2 : ((r : Int) == 2) = false := by simp; omega
    have q3 : ((r : Int) == 3) = false := by simp; omega
    go_wp2_with fail
    refine (l3Size_any a n c hn nn hn1 hn6 B _ (by omega) K4.out).mono ?_
    rintro e w5 ⟨v, xs, rfl, hl, hO, hK, hg⟩
    obtain ⟨a5, c5, g5, rfl, hc5, hg5, hr5, _⟩ := OwnInts.ata hO hg.size
    have O5 := Lib.hid (OwnInts.lower hO hs4)
    have K5 := Lib.hid hK
    obtain ⟨t0, t1, t2, t3, t4⟩ := Two.far T4.out hg (by omega)
    have G5 := Lib.hid (G4.out.trans hg)
    clear hO hK hg hr5 K4 T4 G4
    go_wp2
    refine ret_cx w.heap.size rfl rfl (x := .int .i64 (nn : Int)) (y := .slice a5 xs.length c5) (by go_simp) (by go_simp) rfl ?_
    exact DrawnCx.end hBw HOLD.out hl O5.out K5.out G5.out _ _

end Go.Proofs.Ytmonaiojejbhkaa

/-! WALKS: spec.l3Bent: a complex, mostly, is drawn. -/

namespace Go.Proofs.Ytmonaiojejbhkaa
open Go.RowKit
open Sets

theorem Cur.drw {w : World} {B : Nat} {a : Option Addr} {n c : Nat} (h : Cur w B a n c) : Cur w.drew B a n c := ⟨h.c0, h.c1, h.c2, h.fr, h.bs⟩
theorem OwnInts.setNe {w : World} {base b : Nat} {v : Value} {xs : List Int} (h : OwnInts w base v xs) (hne : v.ownBlock ≠ some b) (o : Nat) (z : Value) : OwnInts (w.setCell ⟨b, o, none⟩ z) base v xs :=
  World.ownsRow.kept h (Mem.but_setCell w b o z) (.inr hne)
theorem OwnInts.own_lt {w : World} {base : Nat} {v : Value} {xs : List Int} (h : OwnInts w base v xs) : ∀ b, w.heap.size ≤ b → v.ownBlock ≠ some b := fun b hb e => by
  have := (World.ownsRow.lt h b e).2
  omega
theorem Two.grown {w w' : World} {b : Nat} {row : Option Nat} {x y : Value} (h : Two w b x y) (hg : w.grownBy w' row) (hne : row ≠ some b) : Two w' b x y := by
  obtain ⟨h1, h2, h3, h4, h5⟩ := h
  have hb := hg.block b h1 (Ne.symm hne)
  have := hg.size
  exact ⟨by omega, by rw [World.cell?_of_block (w := w) (w' := w') (a := ⟨b, 0, none⟩) hb]; exact h2, by rw [World.cell?_of_block (w := w) (w' := w') (a := ⟨b, 1, none⟩) hb]; exact h3,
    by rw [World.frozen?_of_block (w := w) (w' := w') (a := ⟨b, 0, none⟩) hb]; exact h4, by rw [World.frozen?_of_block (w := w) (w' := w') (a := ⟨b, 1, none⟩) hb]; exact h5⟩
theorem OwnInts.own_ge {w : World} {base : Nat} {v : Value} {xs : List Int} (h : OwnInts w base v xs) : ∀ b, b < base → v.ownBlock ≠ some b := fun b hb e => by
  have := (World.ownsRow.lt h b e).1
  omega
theorem three_a (r : Nat) : ∃ m : Int, ([0, 7, 2] : List Int).getD r 0 = m := ⟨_, rfl⟩

set_option maxRecDepth 100000 in
set_option maxHeartbeats 8000000 in
theorem l3Bent_any (a : Option Addr) (n c : Nat) (hn : n ≤ 140737488355328) (B : Nat) (w : World) (hBw : B < w.heap.size) (hc : Cur w B a n c) :
    Calls Try.prog 45 #[.pointer (some ⟨B, 0, none⟩)] w fun e w' => DrawnCx 449 w B a n c e w' := by
  obtain ⟨i0, hi, hz0, hz1, hz2⟩ := info_parts info_int
  have hb0 : Below w.heap.size w (w.alloc (.cells #[.int .i64 0, .slice none 0 0] 33)) := (Below.refl _ _).alloc (Nat.le_refl _) _
  have htwo := Two.new w (.int .i64 0) (.slice none 0 0) 33
  have HC0 := Lib.hid (hc.keeps hBw hb0)
  have HOLD := Lib.hid hc.old
  have HG0 := Lib.hid (Mem.but_of_below hb0 (some B))
  have HT0 := Lib.hid htwo
  clear hc hb0 htwo
  go_enter Try.func45, Try.ntmps45
  go_wp2_with fail
  refine (l3Draw_any a n c hn B _ (by simp; omega) HC0.out).mono ?_
  rintro e w1 ⟨N, v, xs, rfl, hl, hO, hK, hG⟩
  simp only [World.size_alloc] at hO
  have hs1 := hG.size
  simp only [World.size_alloc] at hs1
  obtain ⟨a1, c1, g1, rfl, hc1, hg1, hr1, _⟩ := OwnInts.ata hO hs1
  have hnb := hO.own_lt w1.heap.size (Nat.le_refl _)
  have HNB := Lib.hid hnb
  have hba : Below w1.heap.size w1 (w1.alloc (.cells #[.int .i64 N, .slice a1 xs.length c1] 33)) := (Below.refl _ _).alloc (Nat.le_refl _) _
  have O2 := Lib.hid (hO.alloc (.cells #[.int .i64 N, .slice a1 xs.length c1] 33))
  have K2 := Lib.hid (hK.keeps (by omega) hba)
  have T2 := Lib.hid (Two.keeps (Two.far HT0.out hG (by omega)) hba)
  have G2 := Lib.hid ((HG0.out.trans hG).trans (Mem.but_of_below hba _))
  have X2 := Lib.hid (Two.new w1 (.int .i64 N) (.slice a1 xs.length c1) 33)
  clear hO hK hG hr1 hba HC0 HG0 HT0 hnb
  go_wp2_with fail
  refine (below_lit B a n c hn _ 14 (by decide) (by decide) (by decide) _ K2.out).mono ?_
  rintro e w3 ⟨r, hr, rfl, hd⟩
  have K3 := Lib.hid hd.1
  have O3 := Lib.hid (OwnInts.away O2.out hd.2 (by omega))
  have T3 := Lib.hid (Two.far T2.out hd.2 (by omega))
  have X3 := Lib.hid (Two.far X2.out hd.2 (by omega))
  have G3 := Lib.hid (G2.out.trans hd.2)
  have hs3 := X3.out.1
  obtain ⟨b3, hb3⟩ : ∃ b3, w1.heap.size = b3 := ⟨_, rfl⟩
  rw [hb3] at X3 hs3 HNB hs1 ⊢
  clear hd O2 K2 T2 G2 X2 hb3
  by_cases e0 : r = 0
  · have q0 : ((r : Int) == 0) = true := by simp [e0]
    subst e0
    have hba : Below w3.heap.size w3 (w3.alloc (.cells #[.int .i64 0, .int .i64 7, .int .i64 2] 3)) := (Below.refl _ _).alloc (Nat.le_refl _) _
    have K4 := Lib.hid (K3.out.keeps (by omega) hba)
    have O4 := Lib.hid (O3.out.alloc (.cells #[.int .i64 0, .int .i64 7, .int .i64 2] 3))
    have T4 := Lib.hid (Two.keeps T3.out hba)
    have X4 := Lib.hid (Two.keeps X3.out hba)
    have G4 := Lib.hid (G3.out.trans (Mem.but_of_below hba _))
    have HROW := Lib.hid (row_ints w3 [0, 7, 2] 3)
    clear hba K3 O3 T3 X3 G3
    go_wp2_with fail
    refine (pickInt_any B a n c hn w3.heap.size 0 3 [0, 7, 2] (by decide) (by decide) _ K4.out (by omega) (by exact HROW.out)).mono ?_
    rintro e w5 ⟨r2, hr2, rfl, hd⟩
    obtain ⟨m, em⟩ := three_a r2
    rw [em]
    have K5 := Lib.hid hd.1
    have O5 := Lib.hid (OwnInts.away O4.out hd.2 (by omega))
    obtain ⟨t0, t1, t2, t3, t4⟩ := Two.far T4.out hd.2 (by omega)
    obtain ⟨x0, x1, x2, x3, x4⟩ := Two.far X4.out hd.2 (by omega)
    have G5 := Lib.hid (G4.out.trans hd.2)
    clear hd em K4 O4 T4 X4 G4 HROW
    have hwb : w.heap.size ≠ b3 := by omega
    have hbw : b3 ≠ w.heap.size := by omega
    go_wp2
    refine ret_cx w.heap.size rfl rfl (x := .int .i64 m) (y := .slice a1 xs.length c1) (by go_simp) (by go_simp) rfl ?_
    exact DrawnCx.end hBw HOLD.out (Nat.le_trans hl (by decide)) (OwnInts.setNe O5.out HNB.out 0 (.int .i64 m)) (K5.out.below (b := w.heap.size) hBw ((Below.refl w.heap.size w5).setCell (by dsimp only; omega) _) HOLD.out) (but_below G5.out (b := w.heap.size) ((Below.refl w.heap.size w5).setCell (by dsimp only; omega) _) (Nat.le_refl _)) _ _
  by_cases e1 : r = 1
  · have q0 : ((r : Int) == 0) = false := by simp [e1]
    have q1 : ((r : Int) == 1) = true := by simp [e1]
    subst e1
    obtain ⟨t0, t1, t2, t3, t4⟩ := T3.out
    obtain ⟨x0, x1, x2, x3, x4⟩ := X3.out
    have hwb : w.heap.size ≠ b3 := by omega
    have hbw : b3 ≠ w.heap.size := by omega
    go_wp2_with fail
    have hnw := O3.out.own_ge w.heap.size (by omega)
    have HNW := Lib.hid hnw
    clear hnw
    go_region_law (first | (go_simp; go_at_call 40; refine (below_lit B a n c hn _ 66 (by decide) (by decide) (by decide) _ (by first | exact K3.out.drw | exact K3.out)).mono ?_; rintro e w4 ⟨q, hq, rfl, hd⟩; have O4 : Hid (w4.ownsRow (w.heap.size + 1) 3 1 (.slice a1 xs.length c1) xs.length (xs.map (Value.int .i64))) := Lib.hid (OwnInts.away (show OwnInts w3.drew _ _ _ from O3.out) hd.2 (by omega)); have T4 := Lib.hid (Two.far (show Two w3.drew _ _ _ from T3.out) hd.2 (by omega)); have X4 := Lib.hid (Two.far (show Two w3.drew _ _ _ from X3.out) hd.2 (by omega)); have K4 := Lib.hid hd.1; have G4 := Lib.hid (G3.out.trans (World.grownBy.trans (Mem.but_of_below (bdrew1 w3) _) hd.2)); have hs4 : b3 < w4.heap.size := X4.out.1; have z2 := X4.out.2.2.1; clear hd) | (refine step_append_lies _ (by rfl) _ _ _ (by rfl) (w.heap.size + 1) 3 i0 (.int .i64 0) 1 8 Try.underlying26 hi hz0 hz1 hz2 rfl (by decide) (.slice a1 xs.length c1) xs.length (xs.map (Value.int .i64)) (by rfl) (O4.out.alloc _) ⟨w4.heap.size, 0, none⟩ 1 1 [.int .i64 (IntKind.i64.wrap ((q : Int) - 1))] (by rfl) (by rfl) (by intro j u hj; exact Mem.cell_new w4 _ _ j u hj) (by intro u hu; simp at hu; subst hu; rfl) (by decide) (by unfold maxLen; omega) (by omega) (by simp; omega) (w4.heap.size + 1) (by simp) ?_; intro gg cap w5 hown5 hgrow hat hlt; have T5 := Two.grown (T4.out.alloc _) hgrow HNW.out; have X5 := Two.grown (X4.out.alloc _) hgrow HNB.out; obtain ⟨s0, s1, s2, s3, s4⟩ := T5; obtain ⟨y0, y1, y2, y3, y4⟩ := X5; have HOWN := Lib.hid hown5; have HGR := Lib.hid hgrow; have HAT := Lib.hid hat; clear hown5 hgrow hat))
    all_goals
      have hbs : Below (w.heap.size + 1) w4 w5 := ((Below.refl _ _).alloc (by omega) _).grown HGR.out (by simp; omega) (fun g hg => (O4.out.lt g hg).1)
      have hOE : OwnInts w5 (w.heap.size + 1) (.slice (some ⟨gg, 0, none⟩) (xs.length + 1) cap) (xs ++ [IntKind.i64.wrap ((q : Int) - 1)]) := OwnInts.next HOWN.out
      have hgb : gg ≠ b3 := by
        rcases HAT.out with e | e
        · intro h; exact HNB.out (by rw [e, h])
        · omega
      have hK5 := K4.out.below (b := w.heap.size + 1) (by omega) hbs (fun j hj g o e => by have := HOLD.out j hj g o e; omega)
      have hG5 := but_below G4.out hbs (by omega)
      have HOE := Lib.hid hOE
      have HGB := Lib.hid hgb
      have K5 := Lib.hid hK5
      have G5 := Lib.hid hG5
      clear hbs hOE hgb hK5 hG5 HOWN HGR HAT
      go_wp2
      refine ret_cx w.heap.size rfl rfl (x := .int .i64 N) (y := .slice (some ⟨gg, 0, none⟩) (xs.length + 1) cap) (by go_simp) (by go_simp) rfl ?_
      exact DrawnCx.end hBw HOLD.out (by rw [List.length_append]; simp; omega) (OwnInts.setNe HOE.out (by simp only [Value.ownBlock, ne_eq, Option.some.injEq]; exact HGB.out) 1 _) (K5.out.below (b := w.heap.size) hBw ((Below.refl w.heap.size w5).setCell (by dsimp only; omega) _) HOLD.out) (but_below G5.out (b := w.heap.size) ((Below.refl w.heap.size w5).setCell (by dsimp only; omega) _) (Nat.le_refl _)) _ _
  · have q0 : ((r : Int) == 0) = false := by simp; omega
    have q1 : ((r : Int) == 1) = false := by simp; omega
    obtain ⟨t0, t1, t2, t3, t4⟩ := T3.out
    obtain ⟨x0, x1, x2, x3, x4⟩ := X3.out
    go_wp2
    refine ret_cx w.heap.size rfl rfl (x := .int .i64 N) (y := .slice a1 xs.length c1) (by go_simp) (by go_simp) rfl ?_
    exact DrawnCx.end hBw HOLD.out (Nat.le_trans hl (by decide)) O3.out K3.out G3.out _ _

end Go.Proofs.Ytmonaiojejbhkaa

/-! WALKS: the draws of chapter 4. -/

namespace Go.Proofs.Ytmonaiojejbhkaa
open Go.RowKit
open Sets

/-- What the draw of a complex from a code hands back. -/
def Drawn1 (w : World) (e : Ending) (w' : World) : Prop :=
  ∃ (N : Int) (v : Value) (xs : List Int), e = .returned (cx N v) ∧ xs.length ≤ 449 ∧ OwnInts w' w.heap.size v xs ∧ Below w.heap.size w w'
def Drawn2 (w : World) (e : Ending) (w' : World) : Prop :=
  ∃ (N : Int) (v : Value) (xs : List Int) (k : Int), e = .returned (.tuple #[cx N v, .int .i64 k]) ∧ xs.length ≤ 449 ∧ OwnInts w' w.heap.size v xs ∧ Below w.heap.size w w'

end Go.Proofs.Ytmonaiojejbhkaa

/-! WALKS: a complex with a set that is often a face is drawn. -/

namespace Go.Proofs.Ytmonaiojejbhkaa
open Go.RowKit
open Sets

end Go.Proofs.Ytmonaiojejbhkaa
