/-
  WALKS: spec.l3Draw: a complex is drawn.
-/
import Derived.Test.YtpakjcagdnnedaaWDrawCx2
import Derived.Test.YtpakjcagdnnedaaWCxRead2
import Derived.Test.YtpakjcagdnnedaaWCx7
namespace Go.Proofs.Ytpakjcagdnnedaa
open Go.RowKit
open Sets

/-- The complexes that are drawn by name. -/
abbrev named : List ByteArray := [⟨#[54, 58, 97, 98, 99, 44, 97, 99, 100, 44, 97, 98, 101, 44, 97, 100, 101, 44, 98, 99, 102, 44, 99, 100, 102, 44, 98, 101, 102, 44, 100, 101, 102]⟩, ⟨#[54, 58, 97, 99, 100, 44, 98, 99, 100, 44, 97, 98, 101, 44, 97, 99, 101, 44, 98, 100, 101, 44, 97, 98, 102, 44, 98, 99, 102, 44, 97, 100, 102, 44, 99, 101, 102, 44, 100, 101, 102]⟩, ⟨#[54, 58, 97, 98, 100, 44, 97, 98, 101, 44, 97, 99, 101, 44, 98, 99, 101, 44, 99, 100, 101, 44, 97, 99, 102, 44, 98, 99, 102, 44, 97, 100, 102, 44, 98, 100, 102]⟩, ⟨#[53, 58, 97, 98, 44, 98, 99, 44, 99, 100, 44, 97, 101, 44, 100, 101]⟩, ⟨#[52, 58, 97, 98, 44, 98, 99, 44, 99, 100]⟩, ⟨#[54, 58, 97, 98, 44, 99, 100, 44, 101, 102]⟩, ⟨#[53, 58, 97, 98, 99, 44, 99, 100, 101]⟩, ⟨#[52, 58, 97, 98, 99, 44, 97, 98, 100]⟩]
theorem named_size (r : Nat) (h : r < 8) : (named.getD r ByteArray.empty).size ≤ 1048576 := by
  have : ∀ k : Fin 8, (named.getD k.val ByteArray.empty).size ≤ 1048576 := by decide
  exact this ⟨r, h⟩
theorem specP_len (l : List UInt8) : (oL (specP l)).length ≤ 448 := by
  cases h : specP l with
  | none => simp [oL]
  | some p =>
    obtain ⟨N, xs⟩ := p
    have h1 := isC_le ((specP_iff l N xs).1 h).1
    show xs.length ≤ 448
    omega
theorem border_len (n : Int) : (oL (border n)).length ≤ 448 := by
  unfold border
  split
  · exact maximal_length _
  · simp [oL]

/-- What a draw of a complex hands back. -/
def DrawnCx (m : Nat) (w : World) (B : Nat) (a : Option Addr) (n c : Nat) (e : Ending) (w' : World) : Prop :=
  ∃ (N : Int) (v : Value) (xs : List Int), e = .returned (cx N v) ∧ xs.length ≤ m ∧ OwnInts w' w.heap.size v xs ∧ Cur w' B a n c ∧ w.grownBy w' (some B)

/-- The last step: the result lies in its box. -/
theorem DrawnCx.end {m : Nat} {w wE : World} {B : Nat} {a : Option Addr} {n c : Nat} (hBw : B < w.heap.size) (hold : ∀ j, j < n → ∀ g o : Nat, a = some ⟨g, o, none⟩ → g < w.heap.size) {N : Int} {v : Value} {xs : List Int} (hl : xs.length ≤ m)
    (hO : OwnInts wE (w.heap.size + 1) v xs) (hK : Cur wE B a n c) (hG : w.grownBy wE (some B)) (x y : Value) :
    DrawnCx m w B a n c (.returned (cx N v)) ((wE.setCell ⟨w.heap.size, 0, none⟩ x).setCell ⟨w.heap.size, 1, none⟩ y) :=
  ⟨N, v, xs, rfl, hl, (OwnInts.set (OwnInts.set hO _ _ _ (by omega)) _ _ _ (by omega)).lower (by omega),
    hK.below (b := w.heap.size) hBw (((Below.refl w.heap.size wE).setCell (by simp) _).setCell (by simp) _) hold,
    but_below hG (b := w.heap.size) (((Below.refl w.heap.size wE).setCell (by simp) _).setCell (by simp) _) (Nat.le_refl _)⟩

theorem DrawnCx.alloc {m : Nat} {w W : World} {B : Nat} {a : Option Addr} {n c : Nat} {e : Ending} (hBw : B < w.heap.size) (h : DrawnCx m w B a n c e W) (o : Obj) : DrawnCx m w B a n c e (W.alloc o) := by
  obtain ⟨N, v, xs, he, hl, hO, hK, hG⟩ := h
  have hb : Below W.heap.size W (W.alloc o) := (Below.refl _ _).alloc (Nat.le_refl _) _
  have := hG.size
  exact ⟨N, v, xs, he, hl, hO.alloc o, hK.keeps (by omega) hb, hG.trans (Mem.but_of_below hb _)⟩

set_option maxRecDepth 100000 in
set_option maxHeartbeats 8000000 in
theorem l3Draw_any (a : Option Addr) (n c : Nat) (hn : n ≤ 140737488355328) (B : Nat) (w : World) (hBw : B < w.heap.size) (hc : Cur w B a n c) :
    Calls Try.prog 82 #[.pointer (some ⟨B, 0, none⟩)] w fun e w' => DrawnCx 448 w B a n c e w' := by
  have hb2 : Below w.heap.size w ((w.alloc (.cells #[.int .i64 0, .slice none 0 0] 26)).alloc (.cells #[.int .i64 1, .int .i64 2, .int .i64 3, .int .i64 4, .int .i64 4, .int .i64 5, .int .i64 5, .int .i64 6] 3)) := ((Below.refl _ _).alloc (Nat.le_refl _) _).alloc (by simp) _
  have htwo := (Two.new w (.int .i64 0) (.slice none 0 0) 26).alloc (.cells #[.int .i64 1, .int .i64 2, .int .i64 3, .int .i64 4, .int .i64 4, .int .i64 5, .int .i64 5, .int .i64 6] 3)
  have hrow := row_ints (w.alloc (.cells #[.int .i64 0, .slice none 0 0] 26)) [1, 2, 3, 4, 4, 5, 5, 6] 3
  simp only [World.size_alloc] at hrow
  have HC2 := Lib.hid (hc.keeps hBw hb2)
  have HOLD := Lib.hid hc.old
  have HG2 := Lib.hid (Mem.but_of_below hb2 (some B))
  have HT2 := Lib.hid htwo
  have HROW := Lib.hid hrow
  clear hc hb2 htwo hrow
  go_enter Try.func82, Try.ntmps82
  go_wp2_with fail
  refine (pickInt_any B a n c hn (w.heap.size + 1) 0 8 [1, 2, 3, 4, 4, 5, 5, 6] (by decide) (by decide) _ HC2.out (by omega) (by exact HROW.out)).mono ?_
  rintro e w3 ⟨r0, hr0, rfl, hd⟩
  obtain ⟨nn, hn1, hn6, en⟩ := eight_b r0 hr0
  rw [en]
  have K3 := Lib.hid hd.1
  have T3 := Lib.hid (Two.far HT2.out hd.2 (by omega))
  have G3 := Lib.hid (HG2.out.trans hd.2)
  clear hd en HC2 HT2 HG2 HROW
  go_wp2_with fail
  refine (below_lit B a n c hn _ 8 (by decide) (by decide) (by decide) _ K3.out).mono ?_
  rintro e w4 ⟨r, hr, rfl, hd⟩
  have K4 := Lib.hid hd.1
  have T4 := Lib.hid (Two.far T3.out hd.2 (by omega))
  have G4 := Lib.hid (G3.out.trans hd.2)
  have hs4 : w.heap.size + 1 ≤ w4.heap.size := T4.out.1
  clear hd K3 T3 G3
  by_cases e0 : r = 0
  · have q0 : ((r : Int) == 0) = true := by simp [e0]
    subst e0
    go_wp2_with fail
    refine (specBorder_any (nn : Int) _).mono ?_
    rintro e w5 ⟨v, rfl, hO, hb⟩
    have hl := border_len (nn : Int)
    generalize border (nn : Int) = bo at *
    obtain ⟨a5, c5, g5, rfl, hc5, hg5, hr5, _⟩ := OwnInts.ata hO hb.size
    have O5 := Lib.hid (OwnInts.lower hO hs4)
    have K5 := Lib.hid (K4.out.keeps (by omega) hb)
    have T5 := Lib.hid (Two.keeps T4.out hb)
    have G5 := Lib.hid (G4.out.trans (Mem.but_of_below hb _))
    have hs5 := hb.size
    clear hO hb hr5 K4 T4 G4
    obtain ⟨t0, t1, t2, t3, t4⟩ := T5.out
    go_wp2
    refine ret_cx w.heap.size rfl rfl (x := .int .i64 (oN bo)) (y := .slice a5 (oL bo).length c5) (by go_simp) (by go_simp) rfl ?_
    exact DrawnCx.alloc hBw (DrawnCx.end hBw HOLD.out hl O5.out K5.out G5.out _ _) _
  by_cases e1 : r = 1
  · have q0 : ((r : Int) == 0) = false := by simp [e1]
    have q1 : ((r : Int) == 1) = true := by simp [e1]
    subst e1
    have hba : Below w4.heap.size w4 (w4.alloc (.cells #[.string ⟨#[54, 58, 97, 98, 99, 44, 97, 99, 100, 44, 97, 98, 101, 44, 97, 100, 101, 44, 98, 99, 102, 44, 99, 100, 102, 44, 98, 101, 102, 44, 100, 101, 102]⟩, .string ⟨#[54, 58, 97, 99, 100, 44, 98, 99, 100, 44, 97, 98, 101, 44, 97, 99, 101, 44, 98, 100, 101, 44, 97, 98, 102, 44, 98, 99, 102, 44, 97, 100, 102, 44, 99, 101, 102, 44, 100, 101, 102]⟩, .string ⟨#[54, 58, 97, 98, 100, 44, 97, 98, 101, 44, 97, 99, 101, 44, 98, 99, 101, 44, 99, 100, 101, 44, 97, 99, 102, 44, 98, 99, 102, 44, 97, 100, 102, 44, 98, 100, 102]⟩, .string ⟨#[53, 58, 97, 98, 44, 98, 99, 44, 99, 100, 44, 97, 101, 44, 100, 101]⟩, .string ⟨#[52, 58, 97, 98, 44, 98, 99, 44, 99, 100]⟩, .string ⟨#[54, 58, 97, 98, 44, 99, 100, 44, 101, 102]⟩, .string ⟨#[53, 58, 97, 98, 99, 44, 99, 100, 101]⟩, .string ⟨#[52, 58, 97, 98, 99, 44, 97, 98, 100]⟩] 9)) := (Below.refl _ _).alloc (Nat.le_refl _) _
    have K4a := Lib.hid (K4.out.keeps (by omega) hba)
    have T4a := Lib.hid (Two.keeps T4.out hba)
    have G4a := Lib.hid (G4.out.trans (Mem.but_of_below hba _))
    have HN := Lib.hid (row_lit w4 named 9)
    clear hba K4 T4 G4
    go_wp2_with fail
    refine (pick_any B a n c hn w4.heap.size 0 8 named (by decide) (by decide) _ K4a.out (by omega) (by exact HN.out)).mono ?_
    rintro e w4b ⟨r2, hr2, rfl, hd⟩
    have hsz := named_size r2 hr2
    generalize named.getD r2 ByteArray.empty = st at *
    have K4b := Lib.hid hd.1
    have T4b := Lib.hid (Two.far T4a.out hd.2 (by omega))
    have G4b := Lib.hid (G4a.out.trans hd.2)
    have hs4b := hd.2.size
    simp only [World.size_alloc] at hs4b
    clear hd K4a T4a G4a HN
    go_wp2_with fail
    refine (specParseC_any st hsz _).mono ?_
    rintro e w5 ⟨v, rfl, hO, hb⟩
    have hl := specP_len st.data.toList
    generalize specP st.data.toList = bo at *
    obtain ⟨a5, c5, g5, rfl, hc5, hg5, hr5, _⟩ := OwnInts.ata hO hb.size
    have O5 := Lib.hid (OwnInts.lower hO (show w.heap.size + 1 ≤ w4b.heap.size by omega))
    have K5 := Lib.hid (K4b.out.keeps (by omega) hb)
    have T5 := Lib.hid (Two.keeps T4b.out hb)
    have G5 := Lib.hid (G4b.out.trans (Mem.but_of_below hb _))
    have hs5 := hb.size
    clear hO hb hr5 K4b T4b G4b
    obtain ⟨t0, t1, t2, t3, t4⟩ := T5.out
    go_wp2
    refine ret_cx w.heap.size rfl rfl (x := .int .i64 (oN bo)) (y := .slice a5 (oL bo).length c5) (by go_simp) (by go_simp) rfl ?_
    exact DrawnCx.alloc hBw (DrawnCx.end hBw HOLD.out hl O5.out K5.out G5.out _ _) _
  by_cases e2 : r = 2 ∨ r = 3
  · have q0 : ((r : Int) == 0) = false := by simp; omega
    have q1 : ((r : Int) == 1) = false := by simp; omega
    by_cases e3 : r = 2
    · have q2 : ((r : Int) == 2) = true := by simp [e3]
      subst e3
      go_wp2_with fail
      refine (l3Pure_any a n c hn nn hn1 hn6 B _ (by omega) K4.out).mono ?_
      rintro e w5 ⟨v, xs, rfl, hl, hO, hK, hg⟩
      obtain ⟨a5, c5, g5, rfl, hc5, hg5, hr5, _⟩ := OwnInts.ata hO hg.size
      have O5 := Lib.hid (OwnInts.lower hO hs4)
      have K5 := Lib.hid hK
      obtain ⟨t0, t1, t2, t3, t4⟩ := Two.far T4.out hg (by omega)
      have G5 := Lib.hid (G4.out.trans hg)
      clear hO hK hg hr5 K4 T4 G4
      go_wp2
      refine ret_cx w.heap.size rfl rfl (x := .int .i64 (nn : Int)) (y := .slice a5 xs.length c5) (by go_simp) (by go_simp) rfl ?_
      exact DrawnCx.end hBw HOLD.out hl O5.out K5.out G5.out _ _
    · have q2 : ((r : Int) == 2) = false := by simp; omega
      have q3 : ((r : Int) == 3) = true := by simp; omega
      go_wp2_with fail
      refine (l3Pure_any a n c hn nn hn1 hn6 B _ (by omega) K4.out).mono ?_
      rintro e w5 ⟨v, xs, rfl, hl, hO, hK, hg⟩
      obtain ⟨a5, c5, g5, rfl, hc5, hg5, hr5, _⟩ := OwnInts.ata hO hg.size
      have O5 := Lib.hid (OwnInts.lower hO hs4)
      have K5 := Lib.hid hK
      obtain ⟨t0, t1, t2, t3, t4⟩ := Two.far T4.out hg (by omega)
      have G5 := Lib.hid (G4.out.trans hg)
      clear hO hK hg hr5 K4 T4 G4
      go_wp2
      refine ret_cx w.heap.size rfl rfl (x := .int .i64 (nn : Int)) (y := .slice a5 xs.length c5) (by go_simp) (by go_simp) rfl ?_
      exact DrawnCx.end hBw HOLD.out hl O5.out K5.out G5.out _ _
  · have q0 : ((r : Int) == 0) = false := by simp; omega
    have q1 : ((r : Int) == 1) = false := by simp; omega
    have q2 : ((r : Int) == 2) = false := by simp; omega
    have q3 : ((r : Int) == 3) = false := by simp; omega
    go_wp2_with fail
    refine (l3Size_any a n c hn nn hn1 hn6 B _ (by omega) K4.out).mono ?_
    rintro e w5 ⟨v, xs, rfl, hl, hO, hK, hg⟩
    obtain ⟨a5, c5, g5, rfl, hc5, hg5, hr5, _⟩ := OwnInts.ata hO hg.size
    have O5 := Lib.hid (OwnInts.lower hO hs4)
    have K5 := Lib.hid hK
    obtain ⟨t0, t1, t2, t3, t4⟩ := Two.far T4.out hg (by omega)
    have G5 := Lib.hid (G4.out.trans hg)
    clear hO hK hg hr5 K4 T4 G4
    go_wp2
    refine ret_cx w.heap.size rfl rfl (x := .int .i64 (nn : Int)) (y := .slice a5 xs.length c5) (by go_simp) (by go_simp) rfl ?_
    exact DrawnCx.end hBw HOLD.out hl O5.out K5.out G5.out _ _

end Go.Proofs.Ytpakjcagdnnedaa
