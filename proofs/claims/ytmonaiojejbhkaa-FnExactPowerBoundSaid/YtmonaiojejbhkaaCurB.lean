/-
  MEMORY: the cursor of a draw behind calls that make memory; lists of sets that are drawn.
-/
import Derived.Test.YtmonaiojejbhkaaWPick
import Derived.Test.YtmonaiojejbhkaaWCx6
import Derived.Test.YtmonaiojejbhkaaWSz
namespace Go.Proofs.Ytmonaiojejbhkaa
open Go.RowKit
open Sets

theorem Cur.keeps {w w' : World} {B : Nat} {a : Option Addr} {n c : Nat} (h : Cur w B a n c) (hB : B < w.heap.size) (hb : Below w.heap.size w w') : Cur w' B a n c := by
  have e := hb.block B hB
  refine ⟨(World.cell?_of_block (w := w) (a := ⟨B, 0, none⟩) e).trans h.c0, ?_, ?_, fun j => (World.frozen?_of_block (w := w) (a := ⟨B, j, none⟩) e).trans (h.fr j), h.bs.of_but (Mem.but_of_below hb _)⟩
  · obtain ⟨i, hi, hc⟩ := h.c1
    exact ⟨i, hi, (World.cell?_of_block (w := w) (a := ⟨B, 1, none⟩) e).trans hc⟩
  · obtain ⟨x, hc⟩ := h.c2
    exact ⟨x, (World.cell?_of_block (w := w) (a := ⟨B, 2, none⟩) e).trans hc⟩
/-- The same where only blocks from b on may have changed, the bytes lie below b. -/
theorem Bytes.below {b : Nat} {w w' : World} {a : Option Addr} {n B : Nat} (h : Bytes w a n B) (hb : Below b w w') (hl : ∀ j, j < n → ∀ g o : Nat, a = some ⟨g, o, none⟩ → g < b) : Bytes w' a n B := fun j hj => by
  obtain ⟨g, o, x, e, hne, hx, hc⟩ := h j hj
  exact ⟨g, o, x, e, hne, hx, by rw [hb.cell (p := ⟨g, o + j, none⟩) (hl j hj g o e)]; exact hc⟩
theorem Cur.below {b : Nat} {w w' : World} {B : Nat} {a : Option Addr} {n c : Nat} (h : Cur w B a n c) (hB : B < b) (hb : Below b w w') (hl : ∀ j, j < n → ∀ g o : Nat, a = some ⟨g, o, none⟩ → g < b) : Cur w' B a n c := by
  have e := hb.block B hB
  refine ⟨(World.cell?_of_block (w := w) (a := ⟨B, 0, none⟩) e).trans h.c0, ?_, ?_, fun j => (World.frozen?_of_block (w := w) (a := ⟨B, j, none⟩) e).trans (h.fr j), h.bs.below hb hl⟩
  · obtain ⟨i, hi, hc⟩ := h.c1
    exact ⟨i, hi, (World.cell?_of_block (w := w) (a := ⟨B, 1, none⟩) e).trans hc⟩
  · obtain ⟨x, hc⟩ := h.c2
    exact ⟨x, (World.cell?_of_block (w := w) (a := ⟨B, 2, none⟩) e).trans hc⟩
/-- The bytes of a cursor lie in a block that there is. -/
theorem Cur.old {w : World} {B : Nat} {a : Option Addr} {n c : Nat} (h : Cur w B a n c) : ∀ j, j < n → ∀ g o : Nat, a = some ⟨g, o, none⟩ → g < w.heap.size := fun j hj g o e => by
  obtain ⟨g', o', x, e', _, _, hc⟩ := h.bs j hj
  rw [e] at e'
  cases e'
  exact World.block_lt_of_cell? w _ hc

theorem but_below {b B : Nat} {w w2 w3 : World} (h : w.grownBy w2 (some B)) (hb : Below b w2 w3) (hle : w.heap.size ≤ b) : w.grownBy w3 (some B) :=
  ⟨hb.os.trans h.os, hb.tape.trans h.tape, hb.output.trans h.output, Nat.le_trans h.size hb.size, fun k hk hne => (hb.block k (by omega)).trans (h.block k hk hne)⟩
theorem OwnInts.away {w w' : World} {base B : Nat} {v : Value} {xs : List Int} (h : OwnInts w base v xs) (hg : w.grownBy w' (some B)) (hB : B < base) : OwnInts w' base v xs := by
  refine World.ownsRow.kept h hg ?_
  cases hv : v.ownBlock with
  | none => exact .inl rfl
  | some g =>
    have := (World.ownsRow.lt h g hv).1
    exact .inr (by simp; omega)

theorem Two.under {B : Nat} {w w' : World} {b : Nat} {x y : Value} (h : Two w b x y) (hb : Below B w w') (hlt : b < B) : Two w' b x y := by
  obtain ⟨h1, h2, h3, h4, h5⟩ := h
  refine ⟨by have := hb.size; omega, ?_, ?_, ?_, ?_⟩
  · rw [hb.cell (p := ⟨b, 0, none⟩) hlt]; exact h2
  · rw [hb.cell (p := ⟨b, 1, none⟩) hlt]; exact h3
  · rw [hb.frozen (p := ⟨b, 0, none⟩) hlt]; exact h4
  · rw [hb.frozen (p := ⟨b, 1, none⟩) hlt]; exact h5

set_option maxRecDepth 100000 in
theorem once_b (B : Nat) (a : Option Addr) (n c : Nat) (hn : n ≤ 140737488355328) (k : Int) (m : Nat) (hk : k = (m : Int)) (hm : 0 < m) (hm2 : m ≤ 4294967296) (w : World) (hc : Cur w B a n c) :
    Calls Try.prog 39 #[.pointer (some ⟨B, 0, none⟩), .int .i64 k] w fun e w' => ∃ b : Bool, e = .returned (.bool b) ∧ Drew w w' B a n c := by
  have HC := Lib.hid (below_lit B a n c hn k m hk hm hm2 w hc)
  clear hc hk
  go_enter Try.func39, Try.ntmps39
  go_wp2_with fail
  refine HC.out.mono ?_
  rintro e w1 ⟨r, hr, rfl, hd⟩
  have HD := Lib.hid hd
  clear hd
  go_wp2
  go_ret
  exact ⟨_, rfl, HD.out⟩

theorem and_nat : ∀ a b : Nat, a < 64 → b < 64 → bits BinOp.and IntKind.i64 (a : Int) (b : Int) = ((a &&& b : Nat) : Int) := by
  refine fin64b ?_
  decide +kernel
theorem and_lt64 (a b : Nat) (h : a < 64) : a &&& b < 64 := Nat.lt_of_le_of_lt Nat.and_le_left h
theorem allOk_snoc {xs : List Int} {s : Nat} (h : allOk xs = true) (hs : s < 64) : allOk (xs ++ [(s : Int)]) = true := by
  unfold allOk at *
  rw [List.all_append, h]
  simp only [List.all_cons, List.all_nil, Bool.and_true, Bool.true_and]
  exact (okZ_nat s).2 hs
theorem eight_a (r : Nat) (h : r < 8) : ∃ m : Nat, m ≤ 6 ∧ ([0, 1, 2, 3, 4, 4, 5, 6] : List Int).getD r 0 = (m : Int) := by
  have : ∀ k : Fin 8, ∃ m : Fin 7, ([0, 1, 2, 3, 4, 4, 5, 6] : List Int).getD k.val 0 = ((m.val : Nat) : Int) := by decide
  obtain ⟨m, hm⟩ := this ⟨r, h⟩
  exact ⟨m.val, by omega, hm⟩
theorem eight_b (r : Nat) (h : r < 8) : ∃ m : Nat, 1 ≤ m ∧ m ≤ 6 ∧ ([1, 2, 3, 4, 4, 5, 5, 6] : List Int).getD r 0 = (m : Int) := by
  have : ∀ k : Fin 8, ∃ m : Fin 6, ([1, 2, 3, 4, 4, 5, 5, 6] : List Int).getD k.val 0 = ((m.val + 1 : Nat) : Int) := by decide
  obtain ⟨m, hm⟩ := this ⟨r, h⟩
  exact ⟨m.val + 1, by omega, by omega, hm⟩

end Go.Proofs.Ytmonaiojejbhkaa
