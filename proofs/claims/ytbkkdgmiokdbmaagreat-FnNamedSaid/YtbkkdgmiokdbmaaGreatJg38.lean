/-
  TEXTS of one claim, put together: WDrawCx5, WDrawNam2, WDrawSet, WDrawSets.
-/
import Derived.Test.YtbkkdgmiokdbmaaGreatJg37
import Derived.Test.YtbkkdgmiokdbmaaGreatJg21
import Derived.Test.YtbkkdgmiokdbmaaGreatJg30
import Derived.Test.YtbkkdgmiokdbmaaGreatJg33
import Derived.Deep.RegionWith
/-! WALKS: the draws of chapter 4. -/

namespace Go.Proofs.YtbkkdgmiokdbmaaGreat
open Go.RowKit
open Sets

/-- What the draw of a complex from a code hands back. -/
def Drawn1 (w : World) (e : Ending) (w' : World) : Prop :=
  ∃ (N : Int) (v : Value) (xs : List Int), e = .returned (cx N v) ∧ xs.length ≤ 449 ∧ OwnInts w' w.heap.size v xs ∧ Below w.heap.size w w'
def Drawn2 (w : World) (e : Ending) (w' : World) : Prop :=
  ∃ (N : Int) (v : Value) (xs : List Int) (k : Int), e = .returned (.tuple #[cx N v, .int .i64 k]) ∧ xs.length ≤ 449 ∧ OwnInts w' w.heap.size v xs ∧ Below w.heap.size w w'

end Go.Proofs.YtbkkdgmiokdbmaaGreat

/-! WALKS: the draws of chapter 9: few points; DrawCanonicalComplex, DrawPointClasses. -/

namespace Go.Proofs.YtbkkdgmiokdbmaaGreat
open Go.RowKit
open Sets Nam

set_option maxRecDepth 100000 in
set_option maxHeartbeats 4000000 in
theorem few_any (a : Option Addr) (n c : Nat) (hn : n ≤ 140737488355328) (B : Nat) (w : World) (hBw : B < w.heap.size) (hc : Cur w B a n c) :
    Calls Tryz.prog 46 #[.pointer (some ⟨B, 0, none⟩)] w fun e w' => DrawnCx 449 w B a n c e w' := by
  have hb0 : Below w.heap.size w (w.alloc (.cells #[.int .i64 0, .slice none 0 0] 26)) := (Below.refl _ _).alloc (Nat.le_refl _) _
  have HC0 := Lib.hid (hc.keeps hBw hb0)
  have HOLD := Lib.hid hc.old
  have HG0 := Lib.hid (Mem.but_of_below hb0 (some B))
  have HT0 := Lib.hid (Two.new w (.int .i64 0) (.slice none 0 0) 26)
  clear hc hb0
  go_enter Tryz.func46, Tryz.ntmps46
  go_wp2_with fail
  refine (once_b B a n c hn _ 10 rfl (by omega) (by omega) _ HC0.out).mono ?_
  rintro e w1 ⟨b, rfl, hd⟩
  have K1 := Lib.hid hd.1
  have T1 := Lib.hid (Two.far HT0.out hd.2 (by omega))
  have G1 := Lib.hid (HG0.out.trans hd.2)
  have hs1 : w.heap.size + 1 ≤ w1.heap.size := by have h := hd.2.size; simp at h; exact h
  clear hd HC0 HT0 HG0
  cases b with
  | true =>
    go_wp2_with fail
    refine (l3Bent_any a n c hn B w1 (by omega) K1.out).mono ?_
    rintro e w2 ⟨N, v, xs, rfl, hl, hO, hK, hG⟩
    obtain ⟨a5, c5, g5, rfl, hc5, hg5, hr5, _⟩ := OwnInts.ata hO hG.size
    have O2 := Lib.hid (OwnInts.lower hO hs1)
    have K2 := Lib.hid hK
    have G2 := Lib.hid (G1.out.trans hG)
    obtain ⟨t0, t1, t2, t3, t4⟩ := Two.far T1.out hG (by omega)
    clear hO hK hG hr5 K1 T1 G1
    go_wp2
    refine ret_cx w.heap.size rfl rfl (x := .int .i64 N) (y := .slice a5 xs.length c5) (by go_simp) (by go_simp) rfl ?_
    exact DrawnCx.end hBw HOLD.out hl O2.out K2.out G2.out _ _
  | false =>
    go_wp2_with fail
    refine (below_lit B a n c hn _ 5 rfl (by omega) (by omega) _ K1.out).mono ?_
    rintro e w2 ⟨q, hq, rfl, hd⟩
    have K2 := Lib.hid hd.1
    have T2 := Lib.hid (Two.far T1.out hd.2 (by omega))
    have G2 := Lib.hid (G1.out.trans hd.2)
    have hs2 := hd.2.size
    have hcall := l3Size_any a n c hn (q + 1) (by omega) (by omega) B w2 (by omega) K2.out
    rw [show ((q + 1 : Nat) : Int) = 1 + (q : Int) by omega] at hcall
    have HCALL := Lib.hid hcall
    clear hd hcall K1 T1 G1
    go_wp2_with fail
    refine HCALL.out.mono ?_
    rintro e w3 ⟨v, xs, rfl, hl, hO, hK, hG⟩
    obtain ⟨a5, c5, g5, rfl, hc5, hg5, hr5, _⟩ := OwnInts.ata hO hG.size
    have O3 := Lib.hid (OwnInts.lower hO (show w.heap.size + 1 ≤ w2.heap.size by omega))
    have K3 := Lib.hid hK
    have G3 := Lib.hid (G2.out.trans hG)
    obtain ⟨t0, t1, t2, t3, t4⟩ := Two.far T2.out hG (by omega)
    clear hO hK hG hr5 K2 T2 G2
    go_wp2
    refine ret_cx w.heap.size rfl rfl (x := .int .i64 (1 + (q : Int))) (y := .slice a5 xs.length c5) (by go_simp) (by go_simp) rfl ?_
    exact DrawnCx.end hBw HOLD.out (by omega) O3.out K3.out G3.out _ _

set_option maxRecDepth 100000 in
set_option maxHeartbeats 4000000 in
theorem drawCanon_any (a : Option Addr) (n c : Nat) (hn : n ≤ 140737488355328) (w : World) (hc : Code w a n) :
    Calls Tryz.prog 11 #[.slice a n c] w fun e w' => Drawn1 w e w' := by
  have hb0 : Below w.heap.size w (w.alloc (.cells #[.int .i64 0, .slice none 0 0] 26)) := (Below.refl _ _).alloc (Nat.le_refl _) _
  have HC0 := Lib.hid (hc.keeps hb0)
  have HB0 := Lib.hid hb0
  have HT0 := Lib.hid (Two.new w (.int .i64 0) (.slice none 0 0) 26)
  clear hc hb0
  go_enter Tryz.func11, Tryz.ntmps11
  go_wp2_with fail
  refine (new_any a n c hn _ HC0.out).mono ?_
  rintro e w1 ⟨rfl, hcur, hz1, hb1⟩
  simp only [World.size_alloc] at hcur hz1
  have K1 := Lib.hid hcur
  have B1 : Hid (Below w.heap.size w w1) := HB0.out.trans (hb1.mono (by simp))
  have T1 := Lib.hid (Two.keeps HT0.out hb1)
  clear hcur hb1 HC0 HB0 HT0
  go_wp2_with fail
  refine (few_any a n c hn (w.heap.size + 1) w1 hz1 K1.out).mono ?_
  rintro e w2 ⟨N, v, xs, rfl, hl, hO, hK, hG⟩
  obtain ⟨a5, c5, g5, rfl, hc5, hg5, hr5, _⟩ := OwnInts.ata hO hG.size
  have O2 := Lib.hid (OwnInts.lower hO (show w.heap.size + 1 ≤ w1.heap.size by omega))
  have B2 : Hid (Below w.heap.size w w2) := B1.out.trans (Mem.below_of_but hG (by omega) (by omega))
  obtain ⟨t0, t1, t2, t3, t4⟩ := Two.far T1.out hG (by omega)
  clear hO hK hG hr5 K1 T1 B1
  go_wp2
  refine ret_cx w.heap.size rfl rfl (x := .int .i64 N) (y := .slice a5 xs.length c5) (by go_simp) (by go_simp) rfl ?_
  exact ⟨N, _, xs, rfl, hl, (OwnInts.set (OwnInts.set O2.out _ _ _ (by omega)) _ _ _ (by omega)).lower (by omega), (B2.out.setCell (by simp) _).setCell (by simp) _⟩

set_option maxRecDepth 100000 in
set_option maxHeartbeats 4000000 in
theorem drawClasses_any (a : Option Addr) (n c : Nat) (hn : n ≤ 140737488355328) (w : World) (hc : Code w a n) :
    Calls Tryz.prog 15 #[.slice a n c] w fun e w' => Drawn1 w e w' := by
  have hb0 : Below w.heap.size w (w.alloc (.cells #[.int .i64 0, .slice none 0 0] 26)) := (Below.refl _ _).alloc (Nat.le_refl _) _
  have HC0 := Lib.hid (hc.keeps hb0)
  have HB0 := Lib.hid hb0
  have HT0 := Lib.hid (Two.new w (.int .i64 0) (.slice none 0 0) 26)
  clear hc hb0
  go_enter Tryz.func15, Tryz.ntmps15
  go_wp2_with fail
  refine (new_any a n c hn _ HC0.out).mono ?_
  rintro e w1 ⟨rfl, hcur, hz1, hb1⟩
  simp only [World.size_alloc] at hcur hz1
  have K1 := Lib.hid hcur
  have B1 : Hid (Below w.heap.size w w1) := HB0.out.trans (hb1.mono (by simp))
  have T1 := Lib.hid (Two.keeps HT0.out hb1)
  clear hcur hb1 HC0 HB0 HT0
  go_wp2_with fail
  refine (few_any a n c hn (w.heap.size + 1) w1 hz1 K1.out).mono ?_
  rintro e w2 ⟨N, v, xs, rfl, hl, hO, hK, hG⟩
  obtain ⟨a5, c5, g5, rfl, hc5, hg5, hr5, _⟩ := OwnInts.ata hO hG.size
  have O2 := Lib.hid (OwnInts.lower hO (show w.heap.size + 1 ≤ w1.heap.size by omega))
  have B2 : Hid (Below w.heap.size w w2) := B1.out.trans (Mem.below_of_but hG (by omega) (by omega))
  obtain ⟨t0, t1, t2, t3, t4⟩ := Two.far T1.out hG (by omega)
  clear hO hK hG hr5 K1 T1 B1
  go_wp2
  refine ret_cx w.heap.size rfl rfl (x := .int .i64 N) (y := .slice a5 xs.length c5) (by go_simp) (by go_simp) rfl ?_
  exact ⟨N, _, xs, rfl, hl, (OwnInts.set (OwnInts.set O2.out _ _ _ (by omega)) _ _ _ (by omega)).lower (by omega), (B2.out.setCell (by simp) _).setCell (by simp) _⟩

end Go.Proofs.YtbkkdgmiokdbmaaGreat

/-! WALKS: the draws of chapter 2. -/

namespace Go.Proofs.YtbkkdgmiokdbmaaGreat
open Go.RowKit
open Sets

theorem Cur.redo {w0 w w' : World} {B : Nat} {a : Option Addr} {n c : Nat} (hc : Code w0 a n) (h : Cur w B a n c) (hB : w0.heap.size ≤ B) (hb : Below w0.heap.size w0 w') (e : w'.heap[B]? = w.heap[B]?) : Cur w' B a n c := by
  refine ⟨(World.cell?_of_block (w := w) (a := ⟨B, 0, none⟩) e).trans h.c0, ?_, ?_, fun j => (World.frozen?_of_block (w := w) (a := ⟨B, j, none⟩) e).trans (h.fr j), fun j hj => ?_⟩
  · obtain ⟨i, hi, hc⟩ := h.c1
    exact ⟨i, hi, (World.cell?_of_block (w := w) (a := ⟨B, 1, none⟩) e).trans hc⟩
  · obtain ⟨x, hc⟩ := h.c2
    exact ⟨x, (World.cell?_of_block (w := w) (a := ⟨B, 2, none⟩) e).trans hc⟩
  · obtain ⟨b, o, x, ea, hx, hcell⟩ := hc j hj
    have hlt := World.block_lt_of_cell? w0 _ hcell
    exact ⟨b, o, x, ea, by simp at hlt; omega, hx, by rw [hb.cell (p := ⟨b, o + j, none⟩) hlt]; exact hcell⟩

theorem Cur.drew {w : World} {B : Nat} {a : Option Addr} {n c : Nat} (h : Cur w B a n c) : Cur w.drew B a n c := ⟨h.c0, h.c1, h.c2, h.fr, h.bs⟩

set_option maxRecDepth 100000 in
theorem once_any (B : Nat) (a : Option Addr) (n c : Nat) (hn : n ≤ 140737488355328) (k : Int) (m : Nat) (hk : k = (m : Int)) (hm : 0 < m) (hm2 : m ≤ 4294967296) (w : World) (hc : Cur w B a n c) :
    Calls Tryz.prog 33 #[.pointer (some ⟨B, 0, none⟩), .int .i64 k] w fun e w' => ∃ b : Bool, e = .returned (.bool b) ∧ Drew w w' B a n c := by
  have HC := Lib.hid (below_lit B a n c hn k m hk hm hm2 w hc)
  clear hc hk
  go_enter Tryz.func33, Tryz.ntmps33
  go_wp2_with fail
  refine HC.out.mono ?_
  rintro e w1 ⟨r, hr, rfl, hd⟩
  have HD := Lib.hid hd
  clear hd
  go_wp2
  go_ret
  exact ⟨_, rfl, HD.out⟩

theorem Mem.but_drew (w : World) (b : Option Nat) : w.grownBy w.drew b := ⟨rfl, rfl, rfl, Nat.le_refl _, fun _ _ _ => rfl⟩
theorem fives (r : Nat) (h : r < 5) : (([⟨#[97]⟩, ⟨#[102]⟩, ⟨#[45]⟩, ⟨#[103]⟩, ⟨#[98]⟩] : List ByteArray).getD r ByteArray.empty).size ≤ 1 := by
  have : ∀ k : Fin 5, (([⟨#[97]⟩, ⟨#[102]⟩, ⟨#[45]⟩, ⟨#[103]⟩, ⟨#[98]⟩] : List ByteArray).getD k.val ByteArray.empty).size ≤ 1 := by decide
  exact this ⟨r, h⟩

end Go.Proofs.YtbkkdgmiokdbmaaGreat

/-! WALKS: the draw of a list of sets. -/

namespace Go.Proofs.YtbkkdgmiokdbmaaGreat
open Go.RowKit
open Sets

theorem OwnInts.but {w w' : World} {base B : Nat} {v : Value} {xs : List Int} (h : OwnInts w base v xs) (hg : w.grownBy w' (some B)) (hB : B < base) : OwnInts w' base v xs := by
  refine World.ownsRow.kept h hg ?_
  cases hv : v.ownBlock with
  | none => exact .inl rfl
  | some g =>
    have := (World.ownsRow.lt h g hv).1
    exact .inr (by simp; omega)

theorem OwnInts.set0 {w : World} {base g c : Nat} {xs : List Int} (h : OwnInts w base (.slice (some ⟨g, 0, none⟩) xs.length c) xs) (z : Int) : OwnInts (w.setCell ⟨g, 0, none⟩ (.int .i64 z)) base (.slice (some ⟨g, 0, none⟩) xs.length c) (xs.set 0 z) := by
  have h1 := (World.ownsRow.stored h 0 (.int .i64 z)).1
  unfold OwnInts
  rw [List.length_set, List.map_set]
  exact h1

end Go.Proofs.YtbkkdgmiokdbmaaGreat
