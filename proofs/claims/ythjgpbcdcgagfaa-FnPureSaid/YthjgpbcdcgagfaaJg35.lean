/-
  TEXTS of one claim, put together: WDrawSet, WDrawSets.
-/
import Derived.Test.YthjgpbcdcgagfaaJg11
import Derived.Test.YthjgpbcdcgagfaaJg28
import Derived.Deep.RegionWith
/-! WALKS: the draws of chapter 2. -/

namespace Go.Proofs.Ythjgpbcdcgagfaa
open Go.RowKit
open Sets

theorem Cur.redo {w0 w w' : World} {B : Nat} {a : Option Addr} {n c : Nat} (hc : Code w0 a n) (h : Cur w B a n c) (hB : w0.heap.size ≤ B) (hb : Below w0.heap.size w0 w') (e : w'.heap[B]? = w.heap[B]?) : Cur w' B a n c := by
  refine ⟨(World.cell?_of_block (w := w) (a := ⟨B, 0, none⟩) e).trans h.c0, ?_, ?_, fun j => (World.frozen?_of_block (w := w) (a := ⟨B, j, none⟩) e).trans (h.fr j), fun j hj => ?_⟩
  · obtain ⟨i, hi, hc⟩ := h.c1
    exact ⟨i, hi, (World.cell?_of_block (w := w) (a := ⟨B, 1, none⟩) e).trans hc⟩
  · obtain ⟨x, hc⟩ := h.c2
    exact ⟨x, (World.cell?_of_block (w := w) (a := ⟨B, 2, none⟩) e).trans hc⟩
  · obtain ⟨b, o, x, ea, hx, hcell⟩ := hc j hj
    have hlt := World.block_lt_of_cell? w0 _ hcell
    exact ⟨b, o, x, ea, by simp at hlt; omega, hx, by rw [hb.cell (p := ⟨b, o + j, none⟩) hlt]; exact hcell⟩

theorem Cur.drew {w : World} {B : Nat} {a : Option Addr} {n c : Nat} (h : Cur w B a n c) : Cur w.drew B a n c := ⟨h.c0, h.c1, h.c2, h.fr, h.bs⟩

set_option maxRecDepth 100000 in
theorem once_any (B : Nat) (a : Option Addr) (n c : Nat) (hn : n ≤ 140737488355328) (k : Int) (m : Nat) (hk : k = (m : Int)) (hm : 0 < m) (hm2 : m ≤ 4294967296) (w : World) (hc : Cur w B a n c) :
    Calls Try.prog 53 #[.pointer (some ⟨B, 0, none⟩), .int .i64 k] w fun e w' => ∃ b : Bool, e = .returned (.bool b) ∧ Drew w w' B a n c := by
  have HC := Lib.hid (below_lit B a n c hn k m hk hm hm2 w hc)
  clear hc hk
  go_enter Try.func53, Try.ntmps53
  go_wp2_with fail
  refine HC.out.mono ?_
  rintro e w1 ⟨r, hr, rfl, hd⟩
  have HD := Lib.hid hd
  clear hd
  go_wp2
  go_ret
  exact ⟨_, rfl, HD.out⟩

theorem Mem.but_drew (w : World) (b : Option Nat) : w.grownBy w.drew b := ⟨rfl, rfl, rfl, Nat.le_refl _, fun _ _ _ => rfl⟩
theorem fives (r : Nat) (h : r < 5) : (([⟨#[97]⟩, ⟨#[102]⟩, ⟨#[45]⟩, ⟨#[103]⟩, ⟨#[98]⟩] : List ByteArray).getD r ByteArray.empty).size ≤ 1 := by
  have : ∀ k : Fin 5, (([⟨#[97]⟩, ⟨#[102]⟩, ⟨#[45]⟩, ⟨#[103]⟩, ⟨#[98]⟩] : List ByteArray).getD k.val ByteArray.empty).size ≤ 1 := by decide
  exact this ⟨r, h⟩

end Go.Proofs.Ythjgpbcdcgagfaa

/-! WALKS: the draw of a list of sets. -/

namespace Go.Proofs.Ythjgpbcdcgagfaa
open Go.RowKit
open Sets

theorem OwnInts.but {w w' : World} {base B : Nat} {v : Value} {xs : List Int} (h : OwnInts w base v xs) (hg : w.grownBy w' (some B)) (hB : B < base) : OwnInts w' base v xs := by
  refine World.ownsRow.kept h hg ?_
  cases hv : v.ownBlock with
  | none => exact .inl rfl
  | some g =>
    have := (World.ownsRow.lt h g hv).1
    exact .inr (by simp; omega)

theorem OwnInts.set0 {w : World} {base g c : Nat} {xs : List Int} (h : OwnInts w base (.slice (some ⟨g, 0, none⟩) xs.length c) xs) (z : Int) : OwnInts (w.setCell ⟨g, 0, none⟩ (.int .i64 z)) base (.slice (some ⟨g, 0, none⟩) xs.length c) (xs.set 0 z) := by
  have h1 := (World.ownsRow.stored h 0 (.int .i64 z)).1
  unfold OwnInts
  rw [List.length_set, List.map_set]
  exact h1

set_option maxRecDepth 100000 in
set_option maxHeartbeats 4000000 in
theorem l2Sets_any (a : Option Addr) (n c : Nat) (hn : n ≤ 140737488355328) (w0 : World) (hc0 : Code w0 a n) (B : Nat) (w : World) (hB0 : w0.heap.size ≤ B) (hBw : B < w.heap.size) (hb0 : Below w0.heap.size w0 w) (hc : Cur w B a n c) :
    Calls Try.prog 73 #[.pointer (some ⟨B, 0, none⟩)] w fun e w' => ∃ v xs, e = .returned v ∧ xs.length ≤ 6 ∧ OwnInts w' w.heap.size v xs ∧ Below w0.heap.size w0 w' := by
  obtain ⟨i0, hi, hz0, hz1, hz2⟩ := info_parts info_int
  have HC0 := Lib.hid hc0
  have HC := Lib.hid hc
  clear hc0 hc
  have hs0 := hb0.size
  go_enter Try.func73, Try.ntmps73
  go_wp2_with fail
  refine (below_lit B a n c hn _ 7 rfl (by omega) (by omega) _ (by exact HC.out.alloc hBw _)).mono ?_
  rintro e w1 ⟨m, hm, rfl, hd⟩
  have K1 := Lib.hid hd.1
  have O1 := Lib.hid (OwnInts.but (OwnInts.lit w _ [] (Nat.le_refl _) (by simp)) hd.2 hBw)
  have hb1 : Below w0.heap.size w0 w1 := (hb0.alloc (by omega) _).trans (Mem.below_of_but hd.2 hB0 (by simp; omega))
  have hs1 : w.heap.size ≤ w1.heap.size := by have := hd.2.size; simp at this; omega
  clear hd hb0
  go_wp2
  go_loopw [3, 5] (fun v i wr => ∃ (k : Nat) (xs : List Int), k ≤ m ∧ i = .int .i64 (k : Int) ∧ OwnInts wr w.heap.size v xs ∧ Cur wr B a n c ∧ Below w0.heap.size w0 wr ∧ w.heap.size ≤ wr.heap.size ∧ xs.length = k) (fun _ i _ => m - (intOf i).toNat)
  case atStart => exact ⟨0, [], Nat.zero_le _, rfl, O1.out, K1.out, hb1, hs1, rfl⟩
  case round =>
    clear K1 O1 hb1 hs1
    obtain ⟨k, xs, hk, rfl, hO, hK, hb1, hs1, hxl⟩ := hrel
    have HO := Lib.hid hO
    have HK := Lib.hid hK
    have HXL := Lib.hid hxl
    have hxl1 : xs.length ≤ k := by omega
    clear hO hK hxl
    by_cases hlt : k < m
    · go_wp2_with fail
      refine (below_lit B a n c hn _ 64 rfl (by omega) (by omega) _ HK.out).mono ?_
      rintro e w2 ⟨r, hr, rfl, hd⟩
      have K2 := Lib.hid hd.1
      have O2 : Hid (w2.ownsRow w.heap.size 3 1 u3 xs.length (xs.map (Value.int .i64))) := Lib.hid (OwnInts.but HO.out hd.2 hBw)
      have hb2 : Below w0.heap.size w0 w2 := hb1.trans (Mem.below_of_but hd.2 hB0 (by omega))
      have hs2 : w.heap.size ≤ w2.heap.size := by have := hd.2.size; omega
      clear hd HO HK hb1
      go_wp2_with (at_builtin; refine wpList_append_own _ rfl _ _ 24 rfl w.heap.size 3 i0 (.int .i64 0) 1 8 Try.underlying24 hi hz0 hz1 hz2 rfl (by decide) _ _ _ rfl (O2.out.alloc _) ⟨w2.heap.size, 0, none⟩ 1 1 [.int .i64 (r : Int)] rfl rfl ?c1 ?c2 ?c3 ?c4 ?c5 ?_)
      case c1 => intro j u hj; exact Mem.cell_new w2 _ _ j u hj
      case c2 => intro u hu; simp at hu; subst hu; rfl
      case c3 => unfold maxLen; omega
      case c4 => omega
      case c5 => simp; omega
      intro v' w3 hown1 hgrow _
      have hbs : Below (B + 1) w2 w3 := ((Below.refl _ _).alloc (by omega) _).grown hgrow (by simp; omega) (fun g hg => by have := (O2.out.lt g hg).1; omega)
      have hb3 : Below w0.heap.size w0 w3 := hb2.trans (hbs.mono (by omega))
      have K3 := Lib.hid (Cur.redo HC0.out K2.out hB0 hb3 (hbs.block B (by omega)))
      have hs3 : w.heap.size ≤ w3.heap.size := by have := hbs.size; omega
      have H1 := Lib.hid hown1
      clear hown1 hgrow hbs
      go_wp2
      go_roundw
      case rel => exact ⟨k + 1, xs ++ [(r : Int)], by omega, by go_num, OwnInts.next H1.out, K3.out, hb3, hs3, by rw [List.length_append, HXL.out]; rfl⟩
      case measure => simp [intOf]; omega
    · have E := Lib.hid (show k = m by omega)
      by_cases hm0 : 0 < m
      · go_wp2_with fail
        refine (once_any B a n c hn _ 12 rfl (by omega) (by omega) _ HK.out).mono ?_
        rintro e w2 ⟨b, rfl, hd⟩
        have K2 := Lib.hid hd.1
        have O2 : Hid (OwnInts w2 w.heap.size u3 xs) := Lib.hid (OwnInts.but HO.out hd.2 hBw)
        have hb2 : Below w0.heap.size w0 w2 := hb1.trans (Mem.below_of_but hd.2 hB0 (by omega))
        have hs2 : w.heap.size ≤ w2.heap.size := by have := hd.2.size; omega
        clear hd HO HK hb1
        cases b with
        | true =>
          have hx0 : 0 < xs.length := by have := HXL.out; have := E.out; omega
          obtain ⟨a1, c1, g1, hv, hg1, hr1⟩ := O2.out.at
          subst hv
          obtain ⟨ea, _, _, _⟩ := hr1 0 hx0
          subst ea
          have hlg := (World.ownsRow.lt O2.out g1 rfl)
          clear hr1
          go_wp2_with fail
          refine (pickInt_any B a n c hn w2.heap.size 0 3 [-1, 64, 63] (by decide) (by decide) _ (by exact K2.out.alloc (by omega) _) (by omega) (by exact row_ints w2 [-1, 64, 63] _)).mono ?_
          rintro e w3 ⟨r, hr, rfl, hd⟩
          have O3 := Lib.hid (OwnInts.but (OwnInts.alloc O2.out _) hd.2 hBw)
          have hb3 : Below w0.heap.size w0 w3 := (hb2.alloc (by omega) _).trans (Mem.below_of_but hd.2 hB0 (by simp; omega))
          generalize ([-1, 64, 63] : List Int).getD r 0 = z at *
          have O4 := Lib.hid (OwnInts.set0 O3.out z)
          have hx : ∃ x, w3.cell? ⟨g1, 0, none⟩ = some x := ⟨_, by rw [World.ownsRow.cellAt O3.out 0 (by omega), ints_cell xs 0 hx0]⟩
          obtain ⟨x, hx⟩ := hx
          have hf : w3.frozen? ⟨g1, 0, none⟩ = false := World.ownsRow.frozenAt O3.out 0
          have hx1 : 0 < xs.length := hx0
          clear hd
          go_wp2
          go_ret
          exact ⟨_, xs.set 0 z, rfl, by rw [List.length_set]; omega, by exact O4.out, hb3.setCell (show w0.heap.size ≤ g1 by omega) _⟩
        | false =>
          go_wp2
          go_ret
          exact ⟨_, xs, rfl, by omega, O2.out, hb2⟩
      · go_wp2
        go_ret
        exact ⟨_, xs, rfl, by omega, HO.out, hb1⟩

end Go.Proofs.Ythjgpbcdcgagfaa
