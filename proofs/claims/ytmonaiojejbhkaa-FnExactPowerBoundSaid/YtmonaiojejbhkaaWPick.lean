/-
  WALKS: picking one of a list of strings, one of a list of numbers.
-/
import Derived.Test.YtmonaiojejbhkaaWCur
import Derived.Test.YtmonaiojejbhkaaStrRow
namespace Go.Proofs.Ytmonaiojejbhkaa
open Go.RowKit

/-- A slice reads as the numbers zs. -/
def IntRow (w : World) (b o : Nat) (zs : List Int) : Prop := ∀ j, j < zs.length → w.cell? ⟨b, o + j, none⟩ = some (.int .i64 (zs.getD j 0))

set_option maxRecDepth 100000 in
theorem pick_any (B : Nat) (a : Option Addr) (n c : Nat) (hn : n ≤ 140737488355328) (b o cc : Nat) (xs : List ByteArray) (h0 : 0 < xs.length) (h1 : xs.length ≤ 4294967296) (w : World) (hc : Cur w B a n c) (hbB : b ≠ B) (hr : StrRow w b o xs) :
    Calls Try.prog 68 #[.pointer (some ⟨B, 0, none⟩), .slice (some ⟨b, o, none⟩) xs.length cc] w fun e w' => ∃ r : Nat, r < xs.length ∧ e = .returned (.string (xs.getD r ByteArray.empty)) ∧ Drew w w' B a n c := by
  have HC := Lib.hid hc
  have HR := Lib.hid hr
  clear hc hr
  go_enter Try.func68, Try.ntmps68
  go_wp2_with fail
  refine (below_any B a n c hn xs.length h0 h1 _ HC.out).mono ?_
  rintro e w1 ⟨r, hr, rfl, hd⟩
  have HD := Lib.hid hd
  have g0 := HR.out r hr
  have g : w1.cell? ⟨b, o + r, none⟩ = some (.string (xs.getD r ByteArray.empty)) := by rw [hd.2.cell_far ⟨b, o + r, none⟩ (World.block_lt_of_cell? w _ g0) (by simpa using hbB)]; exact g0
  clear hd g0
  generalize hx : xs.getD r ByteArray.empty = x at g
  have HX := Lib.hid hx
  clear hx
  go_wp2
  go_ret
  exact ⟨r, hr, by rw [HX.out]; rfl, HD.out⟩

set_option maxRecDepth 100000 in
theorem pickInt_any (B : Nat) (a : Option Addr) (n c : Nat) (hn : n ≤ 140737488355328) (b o cc : Nat) (zs : List Int) (h0 : 0 < zs.length) (h1 : zs.length ≤ 4294967296) (w : World) (hc : Cur w B a n c) (hbB : b ≠ B) (hr : IntRow w b o zs) :
    Calls Try.prog 65 #[.pointer (some ⟨B, 0, none⟩), .slice (some ⟨b, o, none⟩) zs.length cc] w fun e w' => ∃ r : Nat, r < zs.length ∧ e = .returned (.int .i64 (zs.getD r 0)) ∧ Drew w w' B a n c := by
  have HC := Lib.hid hc
  have HR := Lib.hid hr
  clear hc hr
  go_enter Try.func65, Try.ntmps65
  go_wp2_with fail
  refine (below_any B a n c hn zs.length h0 h1 _ HC.out).mono ?_
  rintro e w1 ⟨r, hr, rfl, hd⟩
  have HD := Lib.hid hd
  have g0 := HR.out r hr
  have g : w1.cell? ⟨b, o + r, none⟩ = some (.int .i64 (zs.getD r 0)) := by rw [hd.2.cell_far ⟨b, o + r, none⟩ (World.block_lt_of_cell? w _ g0) (by simpa using hbB)]; exact g0
  clear hd g0
  generalize hx : zs.getD r 0 = x at g
  have HX := Lib.hid hx
  clear hx
  go_wp2
  go_ret
  exact ⟨r, hr, by rw [HX.out]; rfl, HD.out⟩

theorem row_lit (w : World) (xs : List ByteArray) (t : TypeId) : StrRow (w.alloc (.cells (xs.map Value.string).toArray t)) w.heap.size 0 xs := fun j hj => by
  rw [Nat.zero_add, World.cell?_alloc_new, List.getElem?_toArray, List.getElem?_map, List.getD, List.getElem?_eq_getElem hj]; rfl
theorem row_ints (w : World) (zs : List Int) (t : TypeId) : IntRow (w.alloc (.cells (zs.map (Value.int .i64)).toArray t)) w.heap.size 0 zs := fun j hj => by
  rw [Nat.zero_add, World.cell?_alloc_new, List.getElem?_toArray, List.getElem?_map, List.getD, List.getElem?_eq_getElem hj]; rfl
theorem Cur.alloc {w : World} {B : Nat} {a : Option Addr} {n c : Nat} (h : Cur w B a n c) (hB : B < w.heap.size) (o : Obj) : Cur (w.alloc o) B a n c := by
  have hb := (Below.refl w.heap.size w).alloc (Nat.le_refl _) o
  have e := hb.block B hB
  refine ⟨(World.cell?_of_block (w := w) (a := ⟨B, 0, none⟩) e).trans h.c0, ?_, ?_, fun j => (World.frozen?_of_block (w := w) (a := ⟨B, j, none⟩) e).trans (h.fr j), h.bs.of_but (Mem.but_of_below hb _)⟩
  · obtain ⟨i, hi, hc⟩ := h.c1
    exact ⟨i, hi, (World.cell?_of_block (w := w) (a := ⟨B, 1, none⟩) e).trans hc⟩
  · obtain ⟨x, hc⟩ := h.c2
    exact ⟨x, (World.cell?_of_block (w := w) (a := ⟨B, 2, none⟩) e).trans hc⟩

theorem below_lit (B : Nat) (a : Option Addr) (n c : Nat) (hn : n ≤ 140737488355328) (k : Int) (m : Nat) (hk : k = (m : Int)) (hm : 0 < m) (hm2 : m ≤ 4294967296) (w : World) (hc : Cur w B a n c) :
    Calls Try.prog 40 #[.pointer (some ⟨B, 0, none⟩), .int .i64 k] w fun e w' => ∃ r : Nat, r < m ∧ e = .returned (.int .i64 (r : Int)) ∧ Drew w w' B a n c := by
  subst hk; exact below_any B a n c hn m hm hm2 w hc

end Go.Proofs.Ytmonaiojejbhkaa
