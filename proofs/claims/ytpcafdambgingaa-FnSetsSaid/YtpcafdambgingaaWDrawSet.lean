/-
  WALKS: the draws of chapter 2.
-/
import Derived.Test.YtpcafdambgingaaWPick
import Derived.Test.YtpcafdambgingaaWText
import Derived.Deep.RegionWith
namespace Go.Proofs.Ytpcafdambgingaa
open Go.RowKit
open Sets

theorem Cur.redo {w0 w w' : World} {B : Nat} {a : Option Addr} {n c : Nat} (hc : Code w0 a n) (h : Cur w B a n c) (hB : w0.heap.size ≤ B) (hb : Below w0.heap.size w0 w') (e : w'.heap[B]? = w.heap[B]?) : Cur w' B a n c := by
  refine ⟨(World.cell?_of_block (w := w) (a := ⟨B, 0, none⟩) e).trans h.c0, ?_, ?_, fun j => (World.frozen?_of_block (w := w) (a := ⟨B, j, none⟩) e).trans (h.fr j), fun j hj => ?_⟩
  · obtain ⟨i, hi, hc⟩ := h.c1
    exact ⟨i, hi, (World.cell?_of_block (w := w) (a := ⟨B, 1, none⟩) e).trans hc⟩
  · obtain ⟨x, hc⟩ := h.c2
    exact ⟨x, (World.cell?_of_block (w := w) (a := ⟨B, 2, none⟩) e).trans hc⟩
  · obtain ⟨b, o, x, ea, hx, hcell⟩ := hc j hj
    have hlt := World.block_lt_of_cell? w0 _ hcell
    exact ⟨b, o, x, ea, by simp at hlt; omega, hx, by rw [hb.cell (p := ⟨b, o + j, none⟩) hlt]; exact hcell⟩

theorem Cur.drew {w : World} {B : Nat} {a : Option Addr} {n c : Nat} (h : Cur w B a n c) : Cur w.drew B a n c := ⟨h.c0, h.c1, h.c2, h.fr, h.bs⟩

set_option maxRecDepth 100000 in
set_option maxHeartbeats 2000000 in
theorem drawIsSet_any (a : Option Addr) (n c : Nat) (hn : n ≤ 140737488355328) (w : World) (hc : Code w a n) :
    Calls Try.prog 16 #[.slice a n c] w fun e w' => ∃ x y : Int, -1 ≤ x ∧ x ≤ 7 ∧ -3 ≤ y ∧ y ≤ 66 ∧ e = .returned (.tuple #[.int .i64 x, .int .i64 y]) ∧ Below w.heap.size w w' := by
  have HC := Lib.hid hc
  clear hc
  go_enter Try.func16, Try.ntmps16
  go_wp2_with fail
  refine (new_any a n c hn _ HC.out).mono ?_
  rintro e w1 ⟨rfl, hcur, hz1, hb1⟩
  have K1 := Lib.hid hcur
  clear hcur
  go_wp2_with fail
  refine (below_lit w.heap.size a n c hn _ 9 rfl (by omega) (by omega) _ K1.out).mono ?_
  rintro e w2 ⟨r, hr, rfl, hd⟩
  have hb2 : Below w.heap.size w w2 := hb1.trans (Mem.below_of_but hd.2 (Nat.le_refl _) (by omega))
  have K2 := Lib.hid hd.1
  have hz2 := hd.2.size
  clear hd
  go_wp2_with fail
  refine (below_lit w.heap.size a n c hn _ 70 rfl (by omega) (by omega) _ K2.out).mono ?_
  rintro e w3 ⟨q, hq, rfl, hd⟩
  have hb3 : Below w.heap.size w w3 := hb2.trans (Mem.below_of_but hd.2 (Nat.le_refl _) (by omega))
  clear hd
  go_wp2
  go_ret2
  exact ⟨_, _, by omega, by omega, by omega, by omega, rfl, hb3⟩

set_option maxRecDepth 100000 in
set_option maxHeartbeats 2000000 in
theorem drawBefore_any (a : Option Addr) (n c : Nat) (hn : n ≤ 140737488355328) (w : World) (hc : Code w a n) :
    Calls Try.prog 23 #[.slice a n c] w fun e w' => ∃ x y : Int, e = .returned (.tuple #[.int .i64 x, .int .i64 y]) ∧ Below w.heap.size w w' := by
  have HC := Lib.hid hc
  clear hc
  go_enter Try.func23, Try.ntmps23
  go_wp2_with fail
  refine (new_any a n c hn _ HC.out).mono ?_
  rintro e w1 ⟨rfl, hcur, hz1, hb1⟩
  have K1 := Lib.hid hcur
  clear hcur
  go_wp2_with fail
  refine (below_lit w.heap.size a n c hn _ 66 rfl (by omega) (by omega) _ K1.out).mono ?_
  rintro e w2 ⟨r, hr, rfl, hd⟩
  have hb2 : Below w.heap.size w w2 := hb1.trans (Mem.below_of_but hd.2 (Nat.le_refl _) (by omega))
  have K2 := Lib.hid hd.1
  have hz2 := hd.2.size
  clear hd
  go_wp2_with fail
  refine (below_lit w.heap.size a n c hn _ 66 rfl (by omega) (by omega) _ K2.out).mono ?_
  rintro e w3 ⟨q, hq, rfl, hd⟩
  have hb3 : Below w.heap.size w w3 := hb2.trans (Mem.below_of_but hd.2 (Nat.le_refl _) (by omega))
  clear hd
  go_wp2
  go_ret2
  exact ⟨_, _, rfl, hb3⟩

set_option maxRecDepth 100000 in
theorem once_any (B : Nat) (a : Option Addr) (n c : Nat) (hn : n ≤ 140737488355328) (k : Int) (m : Nat) (hk : k = (m : Int)) (hm : 0 < m) (hm2 : m ≤ 4294967296) (w : World) (hc : Cur w B a n c) :
    Calls Try.prog 70 #[.pointer (some ⟨B, 0, none⟩), .int .i64 k] w fun e w' => ∃ b : Bool, e = .returned (.bool b) ∧ Drew w w' B a n c := by
  have HC := Lib.hid (below_lit B a n c hn k m hk hm hm2 w hc)
  clear hc hk
  go_enter Try.func70, Try.ntmps70
  go_wp2_with fail
  refine HC.out.mono ?_
  rintro e w1 ⟨r, hr, rfl, hd⟩
  have HD := Lib.hid hd
  clear hd
  go_wp2
  go_ret
  exact ⟨_, rfl, HD.out⟩

theorem Mem.but_drew (w : World) (b : Option Nat) : w.grownBy w.drew b := ⟨rfl, rfl, rfl, Nat.le_refl _, fun _ _ _ => rfl⟩
theorem fives (r : Nat) (h : r < 5) : (([⟨#[97]⟩, ⟨#[102]⟩, ⟨#[45]⟩, ⟨#[103]⟩, ⟨#[98]⟩] : List ByteArray).getD r ByteArray.empty).size ≤ 1 := by
  have : ∀ k : Fin 5, (([⟨#[97]⟩, ⟨#[102]⟩, ⟨#[45]⟩, ⟨#[103]⟩, ⟨#[98]⟩] : List ByteArray).getD k.val ByteArray.empty).size ≤ 1 := by decide
  exact this ⟨r, h⟩

set_option maxRecDepth 100000 in
set_option maxHeartbeats 2000000 in
/-- l1Turned: some text; the cursor's block alone has changed. -/
theorem turned_any (B : Nat) (a : Option Addr) (n c : Nat) (hn : n ≤ 140737488355328) (s : ByteArray) (hs : s.size ≤ 1048576) (b o cc : Nat) (xs : List ByteArray) (h0 : 0 < xs.length) (h1 : xs.length ≤ 4294967296) (hx : ∀ r, r < xs.length → (xs.getD r ByteArray.empty).size ≤ 1048576) (w : World) (hc : Cur w B a n c) (hbB : b ≠ B) (hr : StrRow w b o xs) :
    Calls Try.prog 49 #[.pointer (some ⟨B, 0, none⟩), .string s, .slice (some ⟨b, o, none⟩) xs.length cc] w fun e w' => ∃ t : ByteArray, t.size ≤ 3145728 ∧ e = .returned (.string t) ∧ w.grownBy w' (some B) := by
  have HC := Lib.hid hc
  have HR := Lib.hid hr
  have HX := Lib.hid hx
  clear hc hr hx
  go_enter Try.func49, Try.ntmps49
  go_wp2_with fail
  refine (below_lit B a n c hn _ (s.size + 1) (by omega) (by omega) (by omega) _ HC.out).mono ?_
  rintro e w1 ⟨q, hq, rfl, hd⟩
  have D1 := Lib.hid hd
  have R1 : Hid (StrRow w1 b o xs) := Lib.hid (fun j hj => by
    have g := HR.out j hj
    rw [hd.2.cell_far ⟨b, o + j, none⟩ (World.block_lt_of_cell? w _ g) (by simpa using hbB)]; exact g)
  clear hd
  go_wp2_with fail
  refine (below_lit B a n c hn _ 6 rfl (by omega) (by omega) _ D1.out.1).mono ?_
  rintro e w2 ⟨k, hk, rfl, hd⟩
  have D2 := Lib.hid (D1.out.trans hd)
  have R2 : Hid (StrRow w2 b o xs) := Lib.hid (fun j hj => by
    have g := R1.out j hj
    rw [hd.2.cell_far ⟨b, o + j, none⟩ (World.block_lt_of_cell? w1 _ g) (by simpa using hbB)]; exact g)
  clear hd
  by_cases hk0 : k = 0
  · have hk' : ((k : Int) == 0) = true := by simp; omega
    go_wp2_with fail
    have he1 : (s.extract 0 q).size ≤ 1048576 := by rw [ByteArray.size_extract]; omega
    have he2 : (s.extract q s.size).size ≤ 1048576 := by rw [ByteArray.size_extract]; omega
    go_region_with (go_at_call 69; refine (pick_any B a n c hn b o cc xs h0 h1 _ (by first | exact D2.out.1.drew | exact D2.out.1) hbB (by exact R2.out)).mono ?_; rintro e w3 ⟨r, hr, rfl, hd⟩; have hxs := HX.out r hr; generalize xs.getD r ByteArray.empty = x at *)
    all_goals (go_wp2; go_ret; refine ⟨_, ?_, rfl, (D2.out.2.trans (Mem.but_drew _ _)).trans hd.2⟩; rw [ByteArray.size_append, ByteArray.size_append]; omega)
  · have hk' : ((k : Int) == 0) = false := by simp; omega
    by_cases hk1 : k = 1
    · have hk2 : ((k : Int) == 1) = true := by simp; omega
      go_wp2
      go_ret
      refine ⟨_, ?_, rfl, D2.out.2⟩
      rw [ByteArray.size_extract]; omega
    · have hk2 : ((k : Int) == 1) = false := by simp; omega
      go_wp2
      go_ret
      exact ⟨s, by omega, rfl, D2.out.2⟩

set_option maxRecDepth 100000 in
set_option maxHeartbeats 2000000 in
theorem drawParseSet_any (a : Option Addr) (n c : Nat) (hn : n ≤ 140737488355328) (w : World) (hc : Code w a n) :
    Calls Try.prog 17 #[.slice a n c] w fun e w' => ∃ t : ByteArray, t.size ≤ 3145728 ∧ e = .returned (.string t) ∧ Below w.heap.size w w' := by
  have HC := Lib.hid hc
  clear hc
  go_enter Try.func17, Try.ntmps17
  go_wp2_with fail
  refine (new_any a n c hn _ HC.out).mono ?_
  rintro e w1 ⟨rfl, hcur, hz1, hb1⟩
  have K1 := Lib.hid hcur
  clear hcur
  go_wp2_with fail
  refine (below_lit w.heap.size a n c hn _ 64 rfl (by omega) (by omega) _ K1.out).mono ?_
  rintro e w2 ⟨r, hr, rfl, hd⟩
  have hb2 : Below w.heap.size w w2 := hb1.trans (Mem.below_of_but hd.2 (Nat.le_refl _) (by omega))
  have K2 := Lib.hid hd.1
  have hz2 := hd.2.size
  clear hd hb1
  go_wp2_with fail
  refine (specText_any (r : Int) _).mono ?_
  rintro e w3 ⟨rfl, hb3⟩
  have hz3 := hb3.size
  have hts := txt_size (r : Int)
  generalize txt (r : Int) = tx at *
  have K3 := Lib.hid (Cur.redo HC.out K2.out (Nat.le_refl _) (hb2.trans (hb3.mono (by omega))) (hb3.block _ (by omega)))
  have hb3' : Below w.heap.size w w3 := hb2.trans (hb3.mono (by omega))
  clear hb2 hb3
  go_wp2_with fail
  refine (turned_any w.heap.size a n c hn tx (by omega) w3.heap.size 0 5 [⟨#[97]⟩, ⟨#[102]⟩, ⟨#[45]⟩, ⟨#[103]⟩, ⟨#[98]⟩] (by decide) (by decide) (fun r hr => Nat.le_trans (fives r hr) (by omega)) _ (by exact K3.out.alloc (by omega) _) (by omega) (by exact row_lit w3 [⟨#[97]⟩, ⟨#[102]⟩, ⟨#[45]⟩, ⟨#[103]⟩, ⟨#[98]⟩] _)).mono ?_
  rintro e w4 ⟨t, ht, rfl, hg⟩
  have hb4 : Below w.heap.size w w4 := (hb3'.alloc (by omega) _).trans (Mem.below_of_but hg (Nat.le_refl _) (by simp; omega))
  clear hg
  go_wp2
  go_ret
  exact ⟨t, ht, rfl, hb4⟩

end Go.Proofs.Ytpcafdambgingaa
