/-
  WALKS: the draws of numbers and of texts of numbers.
-/
import Derived.Test.YtdfjledphobgdaaDoorWPick
import Derived.Test.YtdfjledphobgdaaDoorWNum
namespace Go.Proofs.YtdfjledphobgdaaDoor
open Go.RowKit

def wholes : List Int := [0, 1, -1, 9, 10, 999999, 1000000, 999999999999, 1000000000000, -999999999999, 9223372036854775807, -9223372036854775808]
theorem whole_in (r : Nat) (h : r < wholes.length) : -9223372036854775808 ≤ wholes.getD r 0 ∧ wholes.getD r 0 ≤ 9223372036854775807 := by
  have : ∀ k : Fin 12, -9223372036854775808 ≤ wholes.getD k.val 0 ∧ wholes.getD k.val 0 ≤ 9223372036854775807 := by decide
  exact this ⟨r, h⟩

set_option maxRecDepth 100000 in
set_option maxHeartbeats 2000000 in
theorem whole_any (B : Nat) (a : Option Addr) (n c : Nat) (hn : n ≤ 140737488355328) (w : World) (hB : B < w.heap.size) (hc : Cur w B a n c) :
    Calls Tryd.prog 25 #[.pointer (some ⟨B, 0, none⟩)] w fun e w' => ∃ x : Int, -9223372036854775808 ≤ x ∧ x ≤ 9223372036854775807 ∧ e = .returned (.int .i64 x) ∧ Drew w w' B a n c := by
  have HC := Lib.hid hc
  clear hc
  go_enter Tryd.func25, Tryd.ntmps25
  go_wp2_with fail
  refine (below_lit B a n c hn _ 3 rfl (by omega) (by omega) _ HC.out).mono ?_
  rintro e w1 ⟨r, hr, rfl, hd⟩
  have D1 := Lib.hid hd
  have hz1 : w.heap.size ≤ w1.heap.size := hd.2.size
  clear hd
  have hr3 : r = 0 ∨ r = 1 ∨ r = 2 := by omega
  rcases hr3 with rfl | rfl | rfl
  · go_wp2_with fail
    refine (pickInt_any B a n c hn w1.heap.size 0 12 wholes (by decide) (by decide) _ (by exact D1.out.1.alloc (by omega) _) (by omega) (by exact row_ints w1 wholes _)).mono ?_
    rintro e w2 ⟨q, hq, rfl, hd⟩
    have hb := whole_in q hq
    have D2 : Hid (Drew w w2 B a n c) := D1.out.trans ⟨hd.1, (Mem.but_of_below ((Below.refl w1.heap.size w1).alloc (Nat.le_refl _) _) _).trans hd.2⟩
    clear hd
    generalize wholes.getD q 0 = x at *
    go_wp2
    go_ret
    exact ⟨x, hb.1, hb.2, rfl, D2.out⟩
  · go_wp2_with fail
    refine (below_lit B a n c hn _ 1000000 rfl (by omega) (by omega) _ D1.out.1).mono ?_
    rintro e w2 ⟨q, hq, rfl, hd⟩
    have D2 : Hid (Drew w w2 B a n c) := D1.out.trans hd
    clear hd
    go_wp2
    go_ret
    exact ⟨(q : Int) - 500000, by omega, by omega, rfl, D2.out⟩
  · go_wp2_with fail
    refine (below_lit B a n c hn _ 20 rfl (by omega) (by omega) _ D1.out.1).mono ?_
    rintro e w2 ⟨q, hq, rfl, hd⟩
    have D2 : Hid (Drew w w2 B a n c) := D1.out.trans hd
    clear hd
    go_wp2
    go_ret
    exact ⟨(q : Int), by omega, by omega, rfl, D2.out⟩

set_option maxRecDepth 100000 in
set_option maxHeartbeats 2000000 in
theorem drawInt_any (a : Option Addr) (n c : Nat) (hn : n ≤ 140737488355328) (w : World) (hc : Code w a n) :
    Calls Tryd.prog 10 #[.slice a n c] w fun e w' => ∃ x : Int, -9223372036854775808 ≤ x ∧ x ≤ 9223372036854775807 ∧ e = .returned (.int .i64 x) ∧ Below w.heap.size w w' := by
  have HC := Lib.hid hc
  clear hc
  go_enter Tryd.func10, Tryd.ntmps10
  go_wp2_with fail
  refine (new_any a n c hn _ HC.out).mono ?_
  rintro e w1 ⟨rfl, hcur, hz1, hb1⟩
  go_wp2_with fail
  refine (whole_any w.heap.size a n c hn _ hz1 hcur).mono ?_
  rintro e w2 ⟨x, hx1, hx2, rfl, hd⟩
  have hb2 : Below w.heap.size w w2 := hb1.trans (Mem.below_of_but hd.2 (Nat.le_refl _) (by omega))
  clear hd hcur
  go_wp2
  go_ret
  exact ⟨x, hx1, hx2, rfl, hb2⟩

def numTexts : List ByteArray := [⟨#[]⟩, ⟨#[48, 48]⟩, ⟨#[48, 49]⟩, ⟨#[45, 49]⟩, ⟨#[43, 49]⟩, ⟨#[120]⟩, ⟨#[57, 57, 57, 57, 57, 57]⟩, ⟨#[49, 48, 48, 48, 48, 48, 48]⟩, ⟨#[45, 48]⟩, ⟨#[45]⟩, ⟨#[32, 49]⟩, ⟨#[49, 32]⟩]
theorem numText_size (r : Nat) (h : r < numTexts.length) : (numTexts.getD r ByteArray.empty).size ≤ 21 := by
  have : ∀ k : Fin 12, (numTexts.getD k.val ByteArray.empty).size ≤ 21 := by decide
  exact this ⟨r, h⟩

set_option maxRecDepth 100000 in
set_option maxHeartbeats 2000000 in
theorem drawNumText_any (a : Option Addr) (n c : Nat) (hn : n ≤ 140737488355328) (w : World) (hc : Code w a n) :
    Calls Tryd.prog 14 #[.slice a n c] w fun e w' => ∃ t : ByteArray, t.size ≤ 21 ∧ e = .returned (.string t) ∧ Below w.heap.size w w' := by
  have HC := Lib.hid hc
  clear hc
  go_enter Tryd.func14, Tryd.ntmps14
  go_wp2_with fail
  refine (new_any a n c hn _ HC.out).mono ?_
  rintro e w1 ⟨rfl, hcur, hz1, hb1⟩
  have K1 := Lib.hid hcur
  clear hcur
  go_wp2_with (go_at_call 30; go_in)
  refine (below_lit w.heap.size a n c hn _ 2 rfl (by omega) (by omega) _ K1.out).mono ?_
  rintro e w2 ⟨r, hr, rfl, hd⟩
  have hz2 : w1.heap.size ≤ w2.heap.size := hd.2.size
  have hb2 : Below w.heap.size w w2 := hb1.trans (Mem.below_of_but hd.2 (Nat.le_refl _) (by omega))
  have K2 := Lib.hid hd.1
  clear hd
  have hr2 : r = 0 ∨ r = 1 := by omega
  rcases hr2 with rfl | rfl
  · go_wp2_with fail
    refine (whole_any w.heap.size a n c hn _ (by omega) K2.out).mono ?_
    rintro e w3 ⟨x, hx1, hx2, rfl, hd⟩
    have hz3 : w2.heap.size ≤ w3.heap.size := hd.2.size
    have hb3 : Below w.heap.size w w3 := hb2.trans (Mem.below_of_but hd.2 (Nat.le_refl _) (by omega))
    clear hd
    go_wp2_with fail
    refine (format_any x hx1 hx2 _).mono ?_
    rintro e w4 ⟨rfl, hb4⟩
    have hl := Lib.itoa_length_le x hx1 hx2
    go_wp2
    go_ret
    exact ⟨_, by show (Lib.itoa x).toArray.size ≤ 21; simpa using hl, rfl, hb3.trans (hb4.mono (by omega))⟩
  · go_wp2_with fail
    refine (pick_any w.heap.size a n c hn w2.heap.size 0 12 numTexts (by decide) (by decide) _ (by exact K2.out.alloc (by omega) _) (by omega) (by exact row_lit w2 numTexts _)).mono ?_
    rintro e w3 ⟨q, hq, rfl, hd⟩
    have hb3 : Below w.heap.size w w3 := (hb2.alloc (by omega) _).trans (Mem.below_of_but hd.2 (Nat.le_refl _) (by simp; omega))
    clear hd
    have hl := numText_size q hq
    generalize numTexts.getD q ByteArray.empty = x at *
    go_wp2
    go_ret
    exact ⟨x, hl, rfl, hb3⟩

end Go.Proofs.YtdfjledphobgdaaDoor
