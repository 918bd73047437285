/-
  TEXTS of one claim, put together: WCnt1, WCur, StrRow, WPick.
-/
import Derived.Test.YtmonaiojejbhkaaJg6
import Derived.Test.YtmonaiojejbhkaaJg1
import Derived.Test.YtmonaiojejbhkaaJg0
import Derived.Test.YtmonaiojejbhkaaProg
import Derived.WalkKit
import Derived.WalkLawsBesides
import Derived.Outline
import Derived.Lib.Hide
import Derived.Deep.QuietTactic
import Derived.BigQuiet
import Derived.WalkSmall
import Derived.IntWalk
import Derived.Laws.Bits64
import Derived.Deep.DeepCutAuto
/-! WALKS of chapter 4: DimOf, IsSimplex, UsedPoints, DegreeOf, by impl and by spec. -/

namespace Go.Proofs.Ytmonaiojejbhkaa
open Go.RowKit
open Sets

theorem l2Size_b (s p : Nat) (hp : pc s = p) (hs : s < 64) (w : World) : Calls Try.prog 58 #[.int .i64 (s : Int)] w fun e w' => e = .returned (.int .i64 (p : Int)) ∧ w = w' := by
  subst hp; exact l2Size_any s hs w

theorem specIsC_len (n : Int) (a : Option Addr) (c : Nat) (xs : List Int) (l : Nat) (hl : xs.length = l) (b : Bool) (hb : isC n xs = b) (hlen : l ≤ 1099511627776) (w : World) (h : Ints w a xs) :
    Calls Try.prog 59 #[cx n (.slice a l c)] w fun e w' => e = .returned (.bool b) ∧ Below w.heap.size w w' := by
  subst hl; exact specIsC_b n a c xs b hb hlen w h

/-! ### used points -/

theorem or_nat : ∀ a b : Nat, a < 64 → b < 64 → bits BinOp.or IntKind.i64 (a : Int) (b : Int) = ((a ||| b : Nat) : Int) := by
  refine fin64b ?_
  decide +kernel
theorem used_yes {n : Int} {xs : List Int} (h : isC n xs = true) : used n xs = (orN xs : Int) := by unfold used; rw [if_pos h]
theorem used_no {n : Int} {xs : List Int} (h : isC n xs = false) : used n xs = 0 := by unfold used; rw [if_neg (by rw [h]; simp)]

/-! ### degrees -/

theorem deg_yes {n : Int} {xs : List Int} {s : Int} (h : isC n xs = true) (k : okZ s = true) : deg n xs s = (degN xs s.toNat : Int) := by unfold deg; rw [if_pos (by rw [h, k]; rfl)]
theorem deg_no {n : Int} {xs : List Int} {s : Int} (h : isC n xs = false) : deg n xs s = -1 := by unfold deg; rw [if_neg (by rw [h]; simp)]
theorem deg_no2 {n : Int} {xs : List Int} {s : Int} (h : okZ s = false) : deg n xs s = -1 := by unfold deg; rw [if_neg (by rw [h]; simp)]

set_option maxRecDepth 100000 in
theorem l1Bit_b (b : Bool) (w : World) : Calls Try.prog 44 #[.bool b] w fun e w' => e = .returned (.int .i64 (if b = true then 1 else 0)) ∧ w = w' := by
  cases b <;>
  · go_enter Try.func44, Try.ntmps44
    go_wp2
    go_ret
    exact ⟨rfl, rfl⟩

end Go.Proofs.Ytmonaiojejbhkaa

/-! WALKS: the cursor over the bytes of a draw: what it hands back is in range; it changes its own block alone. -/

namespace Go.Proofs.Ytmonaiojejbhkaa
open Go.RowKit

/-- A slice of n bytes, none of them in block B. -/
def Bytes (w : World) (a : Option Addr) (n : Nat) (B : Nat) : Prop := ∀ j, j < n → ∃ b o x : Nat, a = some ⟨b, o, none⟩ ∧ b ≠ B ∧ x ≤ 255 ∧ w.cell? ⟨b, o + j, none⟩ = some (.int .u8 (x : Int))

/-- A cursor in block B over n bytes. -/
structure Cur (w : World) (B : Nat) (a : Option Addr) (n c : Nat) : Prop where
  c0 : w.cell? ⟨B, 0, none⟩ = some (.slice a n c)
  c1 : ∃ i : Nat, i ≤ n ∧ w.cell? ⟨B, 1, none⟩ = some (.int .i64 (i : Int))
  c2 : ∃ h : Int, w.cell? ⟨B, 2, none⟩ = some (.int .i64 h)
  fr : ∀ j, w.frozen? ⟨B, j, none⟩ = false
  bs : Bytes w a n B

theorem Bytes.of_but {w w' : World} {a : Option Addr} {n B : Nat} (h : Bytes w a n B) (hg : w.grownBy w' (some B)) : Bytes w' a n B := fun j hj => by
  obtain ⟨b, o, x, e, hb, hx, hc⟩ := h j hj
  exact ⟨b, o, x, e, hb, hx, by rw [hg.cell_far ⟨b, o + j, none⟩ (World.block_lt_of_cell? w _ hc) (by simpa using hb)]; exact hc⟩

theorem Cur.set1 {w : World} {B : Nat} {a : Option Addr} {n c : Nat} (h : Cur w B a n c) (i : Nat) (hi : i ≤ n) : Cur (w.setCell ⟨B, 1, none⟩ (.int .i64 (i : Int))) B a n c := by
  obtain ⟨c0, ⟨i0, _, c1⟩, ⟨h2, c2⟩, fr, bs⟩ := h
  refine ⟨?_, ⟨i, hi, World.cell?_setCell_same _ _ _ c1⟩, ⟨h2, ?_⟩, fun j => ?_, bs.of_but (Mem.but_setCell _ _ _ _)⟩
  · rw [World.cell?_setCell_other _ _ _ _ (by simp)]; exact c0
  · rw [World.cell?_setCell_other _ _ _ _ (by simp)]; exact c2
  · rw [World.frozen?_setCell]; exact fr j
theorem Cur.set2 {w : World} {B : Nat} {a : Option Addr} {n c : Nat} (h : Cur w B a n c) (v : Int) : Cur (w.setCell ⟨B, 2, none⟩ (.int .i64 v)) B a n c := by
  obtain ⟨c0, ⟨i0, hi, c1⟩, ⟨h2, c2⟩, fr, bs⟩ := h
  refine ⟨?_, ⟨i0, hi, ?_⟩, ⟨v, World.cell?_setCell_same _ _ _ c2⟩, fun j => ?_, bs.of_but (Mem.but_setCell _ _ _ _)⟩
  · rw [World.cell?_setCell_other _ _ _ _ (by simp)]; exact c0
  · rw [World.cell?_setCell_other _ _ _ _ (by simp)]; exact c1
  · rw [World.frozen?_setCell]; exact fr j
theorem Cur.drewN {w : World} {B : Nat} {a : Option Addr} {n c : Nat} (h : Cur w B a n c) (m : Nat) : Cur (w.drewN m) B a n c := ⟨h.c0, h.c1, h.c2, h.fr, h.bs⟩

theorem wrap_small (y : Nat) (h : y ≤ 4294967295) : IntKind.i64.wrap (y : Int) = (y : Int) := by
  rw [IntWalk.i64_in _ (by omega)]
theorem and255 (z : Int) : ∃ x : Nat, x ≤ 255 ∧ bits BinOp.and IntKind.i64 z 255 = (x : Int) := by
  have h : (BitVec.ofInt 64 z &&& BitVec.ofInt 64 255).toNat ≤ 255 := by
    rw [BitVec.toNat_and]; exact Nat.le_trans Nat.and_le_right (by decide)
  refine ⟨_, h, ?_⟩
  show IntKind.i64.wrap ((BitVec.ofInt 64 z &&& BitVec.ofInt 64 255).toNat : Int) = _
  exact wrap_small _ (Nat.le_trans h (by decide))

set_option maxRecDepth 100000 in
set_option maxHeartbeats 2000000 in
theorem byte_any (B : Nat) (a : Option Addr) (n c : Nat) (hn : n ≤ 140737488355328) (w : World) (hc : Cur w B a n c) :
    Calls Try.prog 71 #[.pointer (some ⟨B, 0, none⟩)] w fun e w' => ∃ x : Nat, x ≤ 255 ∧ e = .returned (.int .i64 (x : Int)) ∧ Cur w' B a n c ∧ w.grownBy w' (some B) := by
  have HC := Lib.hid hc
  obtain ⟨c0, ⟨i, hi, c1⟩, ⟨h, c2⟩, fr, bs⟩ := hc
  have f2 := fr 2
  clear bs fr c0 c1 hi i
  go_enter Try.func71, Try.ntmps71
  go_wp2_with fail
  generalize wrap64 (wrap64 (h * 6364136223846793005) + 1442695040888963407) = v
  generalize wrap64 (h * 6364136223846793005) = v'
  have HC1 := Lib.hid (HC.out.set2 v)
  have HG1 := Lib.hid (Mem.but_setCell w B 2 (.int .i64 v))
  clear c2 f2 HC
  generalize w.setCell ⟨B, 2, none⟩ (.int .i64 v) = w1 at *
  obtain ⟨c0, ⟨i, hi, c1⟩, ⟨h2, c2⟩, fr, bs⟩ := HC1.out
  have f1 := fr 1
  have BS := Lib.hid bs
  clear fr bs
  go_quiet (fail)
  obtain ⟨x, hx, ex⟩ := and255 (bits BinOp.xor IntKind.i64 (h2 / 8589934592) (h2 / 35184372088832))
  rw [ex]
  clear ex
  generalize bits BinOp.xor IntKind.i64 (h2 / 8589934592) (h2 / 35184372088832) = z1
  generalize h2 / 8589934592 = z2
  generalize h2 / 35184372088832 = z3
  have c0 : (w1.drewN nq).cell? ⟨B, 0, none⟩ = some (.slice a n c) := c0
  have c1 : (w1.drewN nq).cell? ⟨B, 1, none⟩ = some (.int .i64 (i : Int)) := c1
  have f1 : (w1.drewN nq).frozen? ⟨B, 1, none⟩ = false := f1
  have HC2 := Lib.hid (HC1.out.drewN nq)
  have HG2 := Lib.hid (HG1.out.trans (Mem.but_of_below (Mem.below_drewN w1 nq) _))
  clear HC1 HG1 BS c2
  generalize w1.drewN nq = w2 at *
  by_cases hlt : i < n
  · obtain ⟨b, o, y, rfl, hb, hy, g⟩ := HC2.out.bs i hlt
    go_wp2_with fail
    go_quiet (fail)
    have c0 : (w2.drewN nq).cell? ⟨B, 0, none⟩ = some (.slice (some ⟨b, o, none⟩) n c) := c0
    have c1 : (w2.drewN nq).cell? ⟨B, 1, none⟩ = some (.int .i64 (i : Int)) := c1
    have f1 : (w2.drewN nq).frozen? ⟨B, 1, none⟩ = false := f1
    have g : (w2.drewN nq).cell? ⟨b, o + i, none⟩ = some (.int .u8 (y : Int)) := g
    have HC3 := Lib.hid (HC2.out.drewN nq)
    have HG3 := Lib.hid (HG2.out.trans (Mem.but_of_below (Mem.below_drewN w2 nq) _))
    clear HC2 HG2
    generalize w2.drewN nq = w3 at *
    go_wp2_with fail
    go_quiet (fail)
    obtain ⟨x2, hx2, ex2⟩ := and255 ((x : Int) + (y : Int))
    rw [ex2]
    clear ex2
    have c0 : (w3.drewN nq).cell? ⟨B, 0, none⟩ = some (.slice (some ⟨b, o, none⟩) n c) := c0
    have c1 : (w3.drewN nq).cell? ⟨B, 1, none⟩ = some (.int .i64 (i : Int)) := c1
    have f1 : (w3.drewN nq).frozen? ⟨B, 1, none⟩ = false := f1
    have HC4 := Lib.hid (HC3.out.drewN nq)
    have HG4 := Lib.hid (HG3.out.trans (Mem.but_of_below (Mem.below_drewN w3 nq) _))
    clear HC3 HG3 g
    generalize w3.drewN nq = w4 at *
    go_wp2
    go_ret
    have hs := HC4.out.set1 (i + 1) (by omega)
    have hg := HG4.out.trans (Mem.but_setCell w4 B 1 (.int .i64 ((i + 1 : Nat) : Int)))
    rw [show ((i + 1 : Nat) : Int) = (i : Int) + 1 from by omega] at hs hg
    exact ⟨x2, hx2, rfl, hs, hg⟩
  · go_wp2_with fail
    go_quiet (fail)
    go_wp2
    go_ret
    exact ⟨x, hx, rfl, HC2.out.drewN _, HG2.out.trans (Mem.but_of_below (Mem.below_drewN w2 nq) _)⟩

/-- What a draw hands back: the cursor is as good as before; only its block has changed. -/
def Drew (w w' : World) (B : Nat) (a : Option Addr) (n c : Nat) : Prop := Cur w' B a n c ∧ w.grownBy w' (some B)
theorem Drew.trans {w w1 w2 : World} {B : Nat} {a : Option Addr} {n c : Nat} (h : Drew w w1 B a n c) (k : Drew w1 w2 B a n c) : Drew w w2 B a n c := ⟨k.1, h.2.trans k.2⟩

theorem mod_nat (x n : Nat) (hn : 0 < n) : ∃ r : Nat, r < n ∧ ((x : Int) % (n : Int)) = (r : Int) := ⟨x % n, Nat.mod_lt _ hn, by omega⟩

set_option maxRecDepth 100000 in
set_option maxHeartbeats 2000000 in
theorem below_any (B : Nat) (a : Option Addr) (n c : Nat) (hn : n ≤ 140737488355328) (m : Nat) (hm : 0 < m) (hm2 : m ≤ 4294967296) (w : World) (hc : Cur w B a n c) :
    Calls Try.prog 40 #[.pointer (some ⟨B, 0, none⟩), .int .i64 (m : Int)] w fun e w' => ∃ r : Nat, r < m ∧ e = .returned (.int .i64 (r : Int)) ∧ Drew w w' B a n c := by
  have HC := Lib.hid hc
  clear hc
  by_cases hs : m ≤ 256
  · go_enter Try.func40, Try.ntmps40
    go_wp2_with fail
    refine (byte_any B a n c hn _ HC.out).mono ?_
    rintro e w1 ⟨x, hx, rfl, hc1, hg1⟩
    have HC1 := Lib.hid hc1
    have HG1 := Lib.hid hg1
    clear hc1 hg1
    go_wp2
    go_ret
    obtain ⟨r, hr, er⟩ := mod_nat x m hm
    exact ⟨r, hr, by rw [← er]; rfl, HC1.out, HG1.out⟩
  · go_enter Try.func40, Try.ntmps40
    go_wp2_with fail
    refine (byte_any B a n c hn _ HC.out).mono ?_
    rintro e w1 ⟨x, hx, rfl, hc1, hg1⟩
    have D1 : Hid (Drew w w1 B a n c) := ⟨hc1, hg1⟩
    clear hc1 hg1
    go_wp2_with fail
    refine (byte_any B a n c hn _ D1.out.1).mono ?_
    rintro e w2 ⟨y, hy, rfl, hc1, hg1⟩
    have D2 : Hid (Drew w w2 B a n c) := D1.out.trans ⟨hc1, hg1⟩
    clear hc1 hg1 D1
    go_wp2_with fail
    refine (byte_any B a n c hn _ D2.out.1).mono ?_
    rintro e w3 ⟨z, hz, rfl, hc1, hg1⟩
    have D3 : Hid (Drew w w3 B a n c) := D2.out.trans ⟨hc1, hg1⟩
    clear hc1 hg1 D2
    go_wp2_with fail
    refine (byte_any B a n c hn _ D3.out.1).mono ?_
    rintro e w4 ⟨t, ht, rfl, hc1, hg1⟩
    have D4 : Hid (Drew w w4 B a n c) := D3.out.trans ⟨hc1, hg1⟩
    clear hc1 hg1 D3
    go_wp2
    go_ret
    obtain ⟨r, hr, er⟩ := mod_nat (x * 16777216 + y * 65536 + z * 256 + t) m hm
    have er' : (((x : Int) * 16777216 + (y : Int) * 65536 + (z : Int) * 256 + (t : Int)) % (m : Int)) = (r : Int) := by rw [← er]; simp
    exact ⟨r, hr, by rw [← er']; rfl, D4.out⟩

/-- A slice of n bytes. -/
def Code (w : World) (a : Option Addr) (n : Nat) : Prop := ∀ j, j < n → ∃ b o x : Nat, a = some ⟨b, o, none⟩ ∧ x ≤ 255 ∧ w.cell? ⟨b, o + j, none⟩ = some (.int .u8 (x : Int))
theorem Code.keeps {w w' : World} {a : Option Addr} {n : Nat} (h : Code w a n) (hb : Below w.heap.size w w') : Code w' a n := fun j hj => by
  obtain ⟨b, o, x, e, hx, hc⟩ := h j hj
  exact ⟨b, o, x, e, hx, by rw [hb.cell (p := ⟨b, o + j, none⟩) (World.block_lt_of_cell? w _ hc)]; exact hc⟩

theorem cur_new (w : World) (a : Option Addr) (n c : Nat) (h : Int) (hc : Code w a n) : Cur (w.alloc (.cells #[.slice a n c, .int .i64 0, .int .i64 h] 65)) w.heap.size a n c := by
  refine ⟨World.cell?_alloc_new w _ _ 0, ⟨0, Nat.zero_le _, World.cell?_alloc_new w _ _ 1⟩, ⟨h, World.cell?_alloc_new w _ _ 2⟩, fun j => World.frozen?_alloc_at _ _ _ _ rfl, fun j hj => ?_⟩
  obtain ⟨b, o, x, e, hx, hcell⟩ := hc j hj
  have hlt := World.block_lt_of_cell? w _ hcell
  exact ⟨b, o, x, e, by simp at hlt; omega, hx, by rw [World.cell?_alloc_lt _ _ _ hlt]; exact hcell⟩

set_option maxRecDepth 100000 in
set_option maxHeartbeats 2000000 in
/-- l1New: a cursor in a new block. -/
theorem new_any (a : Option Addr) (n c : Nat) (hn : n ≤ 140737488355328) (w : World) (hc : Code w a n) :
    Calls Try.prog 37 #[.slice a n c] w fun e w' => e = .returned (.pointer (some ⟨w.heap.size, 0, none⟩)) ∧ Cur w' w.heap.size a n c ∧ w.heap.size < w'.heap.size ∧ Below w.heap.size w w' := by
  have HC := Lib.hid hc
  clear hc
  go_enter Try.func37, Try.ntmps37
  go_wp2
  go_loop [3, 4] (fun h i => ∃ (k : Nat) (v : Int), k ≤ n ∧ i = .int .i64 (k : Int) ∧ h = .int .i64 v) (fun _ i => n - (intOf i).toNat)
  case atStart => exact ⟨0, _, Nat.zero_le _, rfl, rfl⟩
  case round =>
    obtain ⟨k, v, hk, rfl, rfl⟩ := hrel
    by_cases hlt : k < n
    · by_cases h4 : k < 4000
      · obtain ⟨b, o, x, rfl, hx, g⟩ := HC.out k hlt
        go_wp2
        go_round
        case rel => exact ⟨k + 1, _, by omega, by go_num, rfl⟩
        case measure => simp [intOf]; omega
      · go_wp2
        go_ret
        exact ⟨rfl, cur_new _ _ _ _ _ HC.out, by simp, (Below.refl _ _).alloc (Nat.le_refl _) _⟩
    · go_wp2
      go_ret
      exact ⟨rfl, cur_new _ _ _ _ _ HC.out, by simp, (Below.refl _ _).alloc (Nat.le_refl _) _⟩

end Go.Proofs.Ytmonaiojejbhkaa

/-! WALKS: slices of strings: what they read as; the laws' own equality. -/

namespace Go.Proofs.Ytmonaiojejbhkaa
open Go.RowKit

/-- A slice's address and length read as the strings xs (whatever the address where there are none). -/
def Strs (w : World) (a : Option Addr) (xs : List ByteArray) : Prop := ∀ j, j < xs.length → ∃ b o, a = some ⟨b, o, none⟩ ∧ w.cell? ⟨b, o + j, none⟩ = some (.string (xs.getD j ByteArray.empty))

/-- A slice reads as the strings xs. -/
def StrRow (w : World) (b o : Nat) (xs : List ByteArray) : Prop := ∀ j, j < xs.length → w.cell? ⟨b, o + j, none⟩ = some (.string (xs.getD j ByteArray.empty))

theorem StrRow.strs {w : World} {b o : Nat} {xs : List ByteArray} (h : StrRow w b o xs) : Strs w (some ⟨b, o, none⟩) xs := fun j hj => ⟨b, o, rfl, h j hj⟩
theorem StrRow.of_block {w w' : World} {b o : Nat} {xs : List ByteArray} (h : StrRow w b o xs) (hb : w'.heap[b]? = w.heap[b]?) : StrRow w' b o xs := fun j hj => by
  rw [World.cell?_of_block (w := w) (w' := w') (a := ⟨b, o + j, none⟩) hb]; exact h j hj
theorem Strs.keeps {w w' : World} {a : Option Addr} {xs : List ByteArray} (h : Strs w a xs) (hb : Below w.heap.size w w') : Strs w' a xs := fun j hj => by
  obtain ⟨b, o, e, hc⟩ := h j hj
  exact ⟨b, o, e, by rw [hb.cell (p := ⟨b, o + j, none⟩) (World.block_lt_of_cell? w _ hc)]; exact hc⟩

end Go.Proofs.Ytmonaiojejbhkaa

/-! WALKS: picking one of a list of strings, one of a list of numbers. -/

namespace Go.Proofs.Ytmonaiojejbhkaa
open Go.RowKit

/-- A slice reads as the numbers zs. -/
def IntRow (w : World) (b o : Nat) (zs : List Int) : Prop := ∀ j, j < zs.length → w.cell? ⟨b, o + j, none⟩ = some (.int .i64 (zs.getD j 0))

set_option maxRecDepth 100000 in
theorem pick_any (B : Nat) (a : Option Addr) (n c : Nat) (hn : n ≤ 140737488355328) (b o cc : Nat) (xs : List ByteArray) (h0 : 0 < xs.length) (h1 : xs.length ≤ 4294967296) (w : World) (hc : Cur w B a n c) (hbB : b ≠ B) (hr : StrRow w b o xs) :
    Calls Try.prog 68 #[.pointer (some ⟨B, 0, none⟩), .slice (some ⟨b, o, none⟩) xs.length cc] w fun e w' => ∃ r : Nat, r < xs.length ∧ e = .returned (.string (xs.getD r ByteArray.empty)) ∧ Drew w w' B a n c := by
  have HC := Lib.hid hc
  have HR := Lib.hid hr
  clear hc hr
  go_enter Try.func68, Try.ntmps68
  go_wp2_with fail
  refine (below_any B a n c hn xs.length h0 h1 _ HC.out).mono ?_
  rintro e w1 ⟨r, hr, rfl, hd⟩
  have HD := Lib.hid hd
  have g0 := HR.out r hr
  have g : w1.cell? ⟨b, o + r, none⟩ = some (.string (xs.getD r ByteArray.empty)) := by rw [hd.2.cell_far ⟨b, o + r, none⟩ (World.block_lt_of_cell? w _ g0) (by simpa using hbB)]; exact g0
  clear hd g0
  generalize hx : xs.getD r ByteArray.empty = x at g
  have HX := Lib.hid hx
  clear hx
  go_wp2
  go_ret
  exact ⟨r, hr, by rw [HX.out]; rfl, HD.out⟩

set_option maxRecDepth 100000 in
theorem pickInt_any (B : Nat) (a : Option Addr) (n c : Nat) (hn : n ≤ 140737488355328) (b o cc : Nat) (zs : List Int) (h0 : 0 < zs.length) (h1 : zs.length ≤ 4294967296) (w : World) (hc : Cur w B a n c) (hbB : b ≠ B) (hr : IntRow w b o zs) :
    Calls Try.prog 65 #[.pointer (some ⟨B, 0, none⟩), .slice (some ⟨b, o, none⟩) zs.length cc] w fun e w' => ∃ r : Nat, r < zs.length ∧ e = .returned (.int .i64 (zs.getD r 0)) ∧ Drew w w' B a n c := by
  have HC := Lib.hid hc
  have HR := Lib.hid hr
  clear hc hr
  go_enter Try.func65, Try.ntmps65
  go_wp2_with fail
  refine (below_any B a n c hn zs.length h0 h1 _ HC.out).mono ?_
  rintro e w1 ⟨r, hr, rfl, hd⟩
  have HD := Lib.hid hd
  have g0 := HR.out r hr
  have g : w1.cell? ⟨b, o + r, none⟩ = some (.int .i64 (zs.getD r 0)) := by rw [hd.2.cell_far ⟨b, o + r, none⟩ (World.block_lt_of_cell? w _ g0) (by simpa using hbB)]; exact g0
  clear hd g0
  generalize hx : zs.getD r 0 = x at g
  have HX := Lib.hid hx
  clear hx
  go_wp2
  go_ret
  exact ⟨r, hr, by rw [HX.out]; rfl, HD.out⟩

theorem row_lit (w : World) (xs : List ByteArray) (t : TypeId) : StrRow (w.alloc (.cells (xs.map Value.string).toArray t)) w.heap.size 0 xs := fun j hj => by
  rw [Nat.zero_add, World.cell?_alloc_new, List.getElem?_toArray, List.getElem?_map, List.getD, List.getElem?_eq_getElem hj]; rfl
theorem row_ints (w : World) (zs : List Int) (t : TypeId) : IntRow (w.alloc (.cells (zs.map (Value.int .i64)).toArray t)) w.heap.size 0 zs := fun j hj => by
  rw [Nat.zero_add, World.cell?_alloc_new, List.getElem?_toArray, List.getElem?_map, List.getD, List.getElem?_eq_getElem hj]; rfl
theorem Cur.alloc {w : World} {B : Nat} {a : Option Addr} {n c : Nat} (h : Cur w B a n c) (hB : B < w.heap.size) (o : Obj) : Cur (w.alloc o) B a n c := by
  have hb := (Below.refl w.heap.size w).alloc (Nat.le_refl _) o
  have e := hb.block B hB
  refine ⟨(World.cell?_of_block (w := w) (a := ⟨B, 0, none⟩) e).trans h.c0, ?_, ?_, fun j => (World.frozen?_of_block (w := w) (a := ⟨B, j, none⟩) e).trans (h.fr j), h.bs.of_but (Mem.but_of_below hb _)⟩
  · obtain ⟨i, hi, hc⟩ := h.c1
    exact ⟨i, hi, (World.cell?_of_block (w := w) (a := ⟨B, 1, none⟩) e).trans hc⟩
  · obtain ⟨x, hc⟩ := h.c2
    exact ⟨x, (World.cell?_of_block (w := w) (a := ⟨B, 2, none⟩) e).trans hc⟩

theorem below_lit (B : Nat) (a : Option Addr) (n c : Nat) (hn : n ≤ 140737488355328) (k : Int) (m : Nat) (hk : k = (m : Int)) (hm : 0 < m) (hm2 : m ≤ 4294967296) (w : World) (hc : Cur w B a n c) :
    Calls Try.prog 40 #[.pointer (some ⟨B, 0, none⟩), .int .i64 k] w fun e w' => ∃ r : Nat, r < m ∧ e = .returned (.int .i64 (r : Int)) ∧ Drew w w' B a n c := by
  subst hk; exact below_any B a n c hn m hm hm2 w hc

end Go.Proofs.Ytmonaiojejbhkaa
