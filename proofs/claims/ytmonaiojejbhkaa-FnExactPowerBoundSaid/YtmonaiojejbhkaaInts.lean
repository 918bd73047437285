/-
  WALKS: slices of numbers: what they read as; the laws' own equality, copies, marks, what is held.
-/
import Derived.Test.YtmonaiojejbhkaaMem
import Derived.Test.YtmonaiojejbhkaaProg
import Derived.WalkKit
import Derived.WalkLawsBesides
import Derived.Outline
import Derived.Lib.Hide
import Derived.Deep.QuietTactic
import Derived.BigQuiet
import Derived.BigRegion
import Derived.WalkSmall
import Derived.OwnWalk
import Derived.Laws.OwnMore
namespace Go.Proofs.Ytmonaiojejbhkaa
open Go.RowKit

/-- A slice's address and length read as the numbers xs (whatever the address where there are none). -/
def Ints (w : World) (a : Option Addr) (xs : List Int) : Prop := ∀ j, j < xs.length → ∃ b o, a = some ⟨b, o, none⟩ ∧ w.cell? ⟨b, o + j, none⟩ = some (.int .i64 (xs.getD j 0))

/-- The same in block g alone, from its head on, not frozen. -/
def IntsAt (w : World) (g : Nat) (a : Option Addr) (xs : List Int) : Prop := ∀ j, j < xs.length → a = some ⟨g, 0, none⟩ ∧ g < w.heap.size ∧ w.cell? ⟨g, j, none⟩ = some (.int .i64 (xs.getD j 0)) ∧ w.frozen? ⟨g, j, none⟩ = false

/-- A slice value that reads as xs and lies in a block of its own from base on. -/
def OwnInts (w : World) (base : Nat) (v : Value) (xs : List Int) : Prop := w.ownsRow base 3 1 v xs.length (xs.map (Value.int .i64))

theorem Ints.keeps {w w' : World} {a : Option Addr} {xs : List Int} (h : Ints w a xs) (hb : Below w.heap.size w w') : Ints w' a xs := fun j hj => by
  obtain ⟨b, o, e, hc⟩ := h j hj
  exact ⟨b, o, e, by rw [hb.cell (p := ⟨b, o + j, none⟩) (World.block_lt_of_cell? w _ hc)]; exact hc⟩
theorem Ints.drewN {w : World} {a : Option Addr} {xs : List Int} (h : Ints w a xs) (n : Nat) : Ints (w.drewN n) a xs := h
theorem IntsAt.ints {w : World} {g : Nat} {a : Option Addr} {xs : List Int} (h : IntsAt w g a xs) : Ints w a xs := fun j hj => by
  obtain ⟨e, _, hc, _⟩ := h j hj
  exact ⟨g, 0, e, by rw [Nat.zero_add]; exact hc⟩
theorem IntsAt.keeps {w w' : World} {g : Nat} {a : Option Addr} {xs : List Int} (h : IntsAt w g a xs) (hb : Below w.heap.size w w') : IntsAt w' g a xs := fun j hj => by
  obtain ⟨e, hl, hc, hf⟩ := h j hj
  have := hb.size
  exact ⟨e, by omega, by rw [hb.cell (p := ⟨g, j, none⟩) hl]; exact hc, by rw [hb.frozen (p := ⟨g, j, none⟩) hl]; exact hf⟩
theorem IntsAt.drewN {w : World} {g : Nat} {a : Option Addr} {xs : List Int} (h : IntsAt w g a xs) (n : Nat) : IntsAt (w.drewN n) g a xs := h
/-- What another block's writes leave. -/
theorem IntsAt.far {w w' : World} {g g' : Nat} {a : Option Addr} {xs : List Int} (h : IntsAt w g a xs) (hg : w.grownBy w' (some g')) (hne : g ≠ g') : IntsAt w' g a xs := fun j hj => by
  obtain ⟨e, hl, hc, hf⟩ := h j hj
  have hb := hg.block g hl (by simpa using hne)
  have := hg.size
  exact ⟨e, by omega, by rw [World.cell?_of_block (w := w) (w' := w') (a := ⟨g, j, none⟩) hb]; exact hc, by rw [World.frozen?_of_block (w := w) (w' := w') (a := ⟨g, j, none⟩) hb]; exact hf⟩
/-- What a younger block's writes leave. -/
theorem IntsAt.farl {w0 w w' : World} {g g' : Nat} {a : Option Addr} {xs0 xs : List Int} (h0 : IntsAt w0 g a xs0) (h : IntsAt w g a xs) (hg : w.grownBy w' (some g')) (hle : w0.heap.size ≤ g') (hlen : xs.length ≤ xs0.length) : IntsAt w' g a xs := fun j hj => by
  have hl := (h0 j (by omega)).2.1
  exact IntsAt.far h hg (by omega) j hj
theorem IntsAt.fars {w0 w w' : World} {g g' : Nat} {a : Option Addr} {xs : List Int} (h0 : IntsAt w0 g a xs) (h : IntsAt w g a xs) (hg : w.grownBy w' (some g')) (hle : w0.heap.size ≤ g') : IntsAt w' g a xs :=
  IntsAt.farl h0 h hg hle (Nat.le_refl _)
theorem Ints.nil (w : World) (a : Option Addr) : Ints w a [] := fun _ hj => absurd hj (Nat.not_lt_zero _)

theorem info_int : (Try.prog.info? 3).map (fun i => (i.zero, i.size, i.bytes)) = some (some (.int .i64 0), 1, 8) := by kernel_rfl

theorem ints_cell (xs : List Int) (j : Nat) (h : j < xs.length) : (xs.map (Value.int .i64))[j]? = some (.int .i64 (xs.getD j 0)) := by
  rw [List.getElem?_map, List.getD, List.getElem?_eq_getElem h]; rfl

/-- Out of what is owned: the slice, and its block. -/
theorem OwnInts.at {w : World} {base : Nat} {v : Value} {xs : List Int} (h : OwnInts w base v xs) : ∃ a c g, v = .slice a xs.length c ∧ base ≤ g ∧ IntsAt w g a xs := by
  unfold OwnInts at h
  rcases h.2 with ⟨hv, h0⟩ | ⟨g, cap, cur, hv, _⟩
  · exact ⟨none, 0, base, by rw [hv, h0], Nat.le_refl _, fun j hj => by omega⟩
  · subst hv
    obtain ⟨h1, h2⟩ := World.ownsRow.lt h g rfl
    refine ⟨some ⟨g, 0, none⟩, cap, g, rfl, h1, fun j hj => ⟨rfl, h2, ?_, World.ownsRow.frozenAt h j⟩⟩
    rw [World.ownsRow.cellAt h j (by omega), ints_cell xs j hj]
theorem OwnInts.nil (w : World) (base : Nat) : OwnInts w base (.slice none 0 0) [] := World.ownsRow_nil _ _ _ _
theorem OwnInts.lit (w : World) (base : Nat) (xs : List Int) (h : base ≤ w.heap.size) (hl : xs.length ≤ 9223372036854775807) : OwnInts (w.alloc (.cells (xs.map (Value.int .i64)).toArray 3)) base (.slice (some ⟨w.heap.size, 0, none⟩) xs.length xs.length) xs := by
  unfold OwnInts
  have h1 := World.ownsRow_lit (base := base) (e := 3) (size := 1) w (xs.map (Value.int .i64)).toArray xs.length h (by unfold maxLen; omega) (by simp)
  simpa using h1
theorem OwnInts.next {w : World} {base : Nat} {v : Value} {xs : List Int} {x : Int} (h : w.ownsRow base 3 1 v (xs.length + 1) (xs.map (Value.int .i64) ++ [.int .i64 x])) : OwnInts w base v (xs ++ [x]) := by
  unfold OwnInts
  rw [List.length_append, List.map_append]
  exact h
theorem OwnInts.alloc {w : World} {base : Nat} {v : Value} {xs : List Int} (h : OwnInts w base v xs) (o : Obj) : OwnInts (w.alloc o) base v xs := World.ownsRow.alloc h o
theorem OwnInts.drewN {w : World} {base : Nat} {v : Value} {xs : List Int} (h : OwnInts w base v xs) (n : Nat) : OwnInts (w.drewN n) base v xs := h
theorem OwnInts.lower {w : World} {base b : Nat} {v : Value} {xs : List Int} (h : OwnInts w base v xs) (hb : b ≤ base) : OwnInts w b v xs := by
  unfold OwnInts at *
  refine ⟨h.1, ?_⟩
  rcases h.2 with h0 | ⟨g, cap, cur, hv, h1, hr⟩
  · exact .inl h0
  · exact .inr ⟨g, cap, cur, hv, by omega, hr⟩
theorem OwnInts.keeps {w w' : World} {base : Nat} {v : Value} {xs : List Int} (h : OwnInts w base v xs) (hb : Below w.heap.size w w') : OwnInts w' base v xs := by
  unfold OwnInts at *
  refine ⟨h.1, ?_⟩
  rcases h.2 with h0 | ⟨g, cap, cur, hv, h1, hh, hr⟩
  · exact .inl h0
  · refine .inr ⟨g, cap, cur, hv, h1, ?_, hr⟩
    have hlt : g < w.heap.size := by
      rcases Nat.lt_or_ge g w.heap.size with hl | hl
      · exact hl
      · rw [Array.getElem?_eq_none hl] at hh; cases hh
    rw [hb.block g hlt]; exact hh

set_option maxRecDepth 100000 in
set_option maxHeartbeats 1000000 in
theorem eqInt_any (a1 a2 : Option Addr) (c1 c2 : Nat) (xs : List Int) (hlen : xs.length ≤ 1099511627776) (w : World) (h1 : Ints w a1 xs) (h2 : Ints w a2 xs) :
    Calls Try.prog 32 #[.slice a1 xs.length c1, .slice a2 xs.length c2] w fun e w' => e = .returned (.bool true) ∧ Below w.heap.size w w' := by
  have H1 := Lib.hid h1
  have H2 := Lib.hid h2
  clear h1 h2
  go_enter Try.func32, Try.ntmps32
  go_wp2
  go_loopw [5] (fun i wr => ∃ k n : Nat, k ≤ xs.length ∧ i = .int .i64 k ∧ wr = w.drewN n) (fun i _ => xs.length - (intOf i).toNat)
  case atStart => exact ⟨0, 0, Nat.zero_le _, rfl, rfl⟩
  case round =>
    obtain ⟨k, n, hk, rfl, rfl⟩ := hrel
    by_cases hlt : k < xs.length
    · obtain ⟨b1, o1, rfl, g1⟩ := H1.out k hlt
      obtain ⟨b2, o2, rfl, g2⟩ := H2.out k hlt
      generalize xs.getD k 0 = x at *
      go_wp2
      go_quiet (fail)
      go_wp2
      go_roundw
      case rel => exact ⟨k + 1, n + nq, by omega, by go_num, rfl⟩
      case measure => simp [intOf]; omega
    · go_wp2
      go_ret
      exact ⟨rfl, Mem.below_drewN w n⟩

set_option maxRecDepth 100000 in
set_option maxHeartbeats 1000000 in
theorem sameInt_any (a1 a2 : Option Addr) (c1 c2 : Nat) (xs : List Int) (hlen : xs.length ≤ 1099511627776) (w : World) (h1 : Ints w a1 xs) (h2 : Ints w a2 xs) :
    Calls Try.prog 55 #[.slice a1 xs.length c1, .slice a2 xs.length c2] w fun e w' => e = .returned (.bool true) ∧ Below w.heap.size w w' := by
  have H1 := Lib.hid h1
  have H2 := Lib.hid h2
  clear h1 h2
  go_enter Try.func55, Try.ntmps55
  go_wp2
  go_loopw [5] (fun i wr => ∃ k n : Nat, k ≤ xs.length ∧ i = .int .i64 k ∧ wr = w.drewN n) (fun i _ => xs.length - (intOf i).toNat)
  case atStart => exact ⟨0, 0, Nat.zero_le _, rfl, rfl⟩
  case round =>
    obtain ⟨k, n, hk, rfl, rfl⟩ := hrel
    by_cases hlt : k < xs.length
    · obtain ⟨b1, o1, rfl, g1⟩ := H1.out k hlt
      obtain ⟨b2, o2, rfl, g2⟩ := H2.out k hlt
      generalize xs.getD k 0 = x at *
      go_wp2
      go_quiet (fail)
      go_wp2
      go_roundw
      case rel => exact ⟨k + 1, n + nq, by omega, by go_num, rfl⟩
      case measure => simp [intOf]; omega
    · go_wp2
      go_ret
      exact ⟨rfl, Mem.below_drewN w n⟩

set_option maxRecDepth 100000 in
set_option maxHeartbeats 1000000 in
/-- toIntS: a new row of the same numbers. -/
theorem toInt_any (a : Option Addr) (c : Nat) (xs : List Int) (hlen : xs.length ≤ 1048576) (w : World) (h : Ints w a xs) :
    Calls Try.prog 31 #[.slice a xs.length c] w fun e w' => e = .returned (.slice (some ⟨w.heap.size, 0, none⟩) xs.length xs.length) ∧ w.heap.size < w'.heap.size ∧ IntsAt w' w.heap.size (some ⟨w.heap.size, 0, none⟩) xs ∧ Below w.heap.size w w' := by
  obtain ⟨i0, hi, hz0, hz1, hz2⟩ := info_parts info_int
  have H := Lib.hid h
  clear h
  go_enter Try.func31, Try.ntmps31
  go_wp2_with (at_make; refine wpList_make_full _ rfl _ _ 26 rfl w.heap.size 3 i0 (.int .i64 0) 1 Try.underlying26 hi hz0 hz1 _ _ _ _ xs.length rfl rfl rfl rfl ?c1 ?c2 ?c3 ?_)
  case c1 => rw [hz2]; omega
  case c2 => unfold maxLen; omega
  case c3 => exact Nat.le_refl _
  intro w1 hown hgrow
  have hx0 : ∀ t, t < xs.length → ∃ x, w1.cell? ⟨w.heap.size, t, none⟩ = some x := fun t ht => by
    rw [hown.cellAt t (by omega)]
    exact ⟨_, List.getElem?_eq_getElem (by rw [hown.1]; omega)⟩
  have hz0 : ∀ t, t < xs.length → w1.frozen? ⟨w.heap.size, t, none⟩ = false := fun t _ => hown.frozenAt t
  have hsz1 : w.heap.size < w1.heap.size := (hown.lt w.heap.size rfl).2
  have hB1 := Mem.below_of_none hgrow
  have HX0 := Lib.hid hx0
  have HZ0 := Lib.hid hz0
  clear hown hgrow hx0 hz0
  go_wp2
  go_loopw [4] (fun i wr => ∃ k : Nat, k ≤ xs.length ∧ i = .int .i64 (k : Int) ∧ Below w.heap.size w wr ∧ w.heap.size < wr.heap.size ∧
      (∀ t, t < k → wr.cell? ⟨w.heap.size, t, none⟩ = some (.int .i64 (xs.getD t 0))) ∧ (∀ t, t < xs.length → ∃ x, wr.cell? ⟨w.heap.size, t, none⟩ = some x) ∧ (∀ t, t < xs.length → wr.frozen? ⟨w.heap.size, t, none⟩ = false)) (fun i _ => xs.length - (intOf i).toNat)
  case atStart => exact ⟨0, Nat.zero_le _, rfl, hB1, hsz1, fun t ht => absurd ht (Nat.not_lt_zero _), HX0.out, HZ0.out⟩
  case round =>
    obtain ⟨k, hk, rfl, hB, hsz, hm, hx, hz⟩ := hrel
    have HM := Lib.hid hm
    have HX := Lib.hid hx
    have HZ := Lib.hid hz
    clear hm hx hz
    by_cases hlt : k < xs.length
    · obtain ⟨b, o, rfl, g⟩ := H.out k hlt
      have hbl := World.block_lt_of_cell? w _ g
      have g1 : wr.cell? ⟨b, o + k, none⟩ = some (.int .i64 (xs.getD k 0)) := by rw [hB.cell (p := ⟨b, o + k, none⟩) hbl]; exact g
      obtain ⟨x, hx⟩ := HX.out k hlt
      have hz := HZ.out k hlt
      clear g
      generalize hxe : xs.getD k 0 = xk at g1
      have XE := Lib.hid hxe
      clear hxe
      go_wp2
      go_roundw
      case rel =>
        refine ⟨k + 1, by omega, by go_num, hB.setCell (Nat.le_refl _) _, by simp [World.setCell]; exact hsz, fun t ht => ?_, fun t ht => ?_, fun t ht => ?_⟩
        · by_cases e : t = k
          · subst e; rw [XE.out]; exact World.cell?_setCell_same _ _ _ hx
          · rw [World.cell?_setCell_other _ _ _ _ (fun h => e (by injection h with _ h2; omega))]; exact HM.out t (by omega)
        · by_cases e : t = k
          · subst e; exact ⟨_, World.cell?_setCell_same _ _ _ hx⟩
          · rw [World.cell?_setCell_other _ _ _ _ (fun h => e (by injection h with _ h2; omega))]; exact HX.out t ht
        · rw [World.frozen?_setCell]; exact HZ.out t ht
      case measure => simp [intOf]; omega
    · have E := Lib.hid (show k = xs.length by omega)
      go_wp2
      go_ret
      exact ⟨rfl, hsz, fun t ht => ⟨rfl, hsz, HM.out t (by rw [E.out]; exact ht), HZ.out t ht⟩, hB⟩

/-- The marks from k on. -/
def imarks (k n : Nat) : List Int := (List.range n).map fun j => ((k + j : Nat) : Int)
theorem imarks_length (k n : Nat) : (imarks k n).length = n := by simp [imarks]
theorem imarks_at (k n j : Nat) (h : j < n) : (imarks k n).getD j 0 = ((k + j : Nat) : Int) := by
  simp [imarks, List.getD, h]

set_option maxRecDepth 100000 in
set_option maxHeartbeats 1000000 in
theorem markInt_any (g : Nat) (a : Option Addr) (c : Nat) (xs : List Int) (k : Int) (m : Nat) (hkm : k = (m : Int)) (hn : xs.length ≤ 1099511627776) (hk2 : m ≤ 1099511627776) (w : World) (h : IntsAt w g a xs) :
    Calls Try.prog 63 #[.slice a xs.length c, .int .i64 k] w fun e w' =>
      e = .returned (.int .i64 ((m + xs.length : Nat) : Int)) ∧ IntsAt w' g a (imarks m xs.length) ∧ w.grownBy w' (some g) := by
  subst hkm
  have H := Lib.hid h
  clear h
  go_enter Try.func63, Try.ntmps63
  go_wp2
  go_loopw [1, 5] (fun mv i wr => ∃ j : Nat, j ≤ xs.length ∧ i = .int .i64 (j : Int) ∧ mv = .int .i64 ((m + j : Nat) : Int) ∧ w.grownBy wr (some g) ∧
      (∀ t, t < j → wr.cell? ⟨g, t, none⟩ = some (.int .i64 ((m + t : Nat) : Int))) ∧ (∀ t, t < xs.length → ∃ x, wr.cell? ⟨g, t, none⟩ = some x) ∧ (∀ t, t < xs.length → wr.frozen? ⟨g, t, none⟩ = false)) (fun _ i _ => xs.length - (intOf i).toNat)
  case atStart => exact ⟨0, Nat.zero_le _, rfl, rfl, Mem.but_refl _ _, fun t ht => absurd ht (Nat.not_lt_zero _), fun t ht => ⟨_, (H.out t ht).2.2.1⟩, fun t ht => (H.out t ht).2.2.2⟩
  case round =>
    obtain ⟨j, hj, rfl, rfl, hg, hm, hx, hz⟩ := hrel
    have HM := Lib.hid hm
    have HX := Lib.hid hx
    have HZ := Lib.hid hz
    clear hm hx hz
    have hsz := hg.size
    by_cases hlt : j < xs.length
    · obtain ⟨rfl, hl, _, _⟩ := H.out j hlt
      obtain ⟨x, hx⟩ := HX.out j hlt
      have hz := HZ.out j hlt
      go_wp2
      go_roundw
      case rel =>
        refine ⟨j + 1, by omega, by go_num, by go_num, hg.trans (Mem.but_setCell _ _ _ _), fun t ht => ?_, fun t ht => ?_, fun t ht => ?_⟩
        · by_cases e : t = j
          · subst e; exact World.cell?_setCell_same _ _ _ hx
          · rw [World.cell?_setCell_other _ _ _ _ (fun h => e (by injection h with _ h2; omega))]; exact HM.out t (by omega)
        · by_cases e : t = j
          · subst e; exact ⟨_, World.cell?_setCell_same _ _ _ hx⟩
          · rw [World.cell?_setCell_other _ _ _ _ (fun h => e (by injection h with _ h2; omega))]; exact HX.out t ht
        · rw [World.frozen?_setCell]; exact HZ.out t ht
      case measure => simp [intOf]; omega
    · have E := Lib.hid (show j = xs.length by omega)
      go_wp2
      go_ret
      refine ⟨by rw [E.out]; rfl, fun t ht => ?_, hg⟩
      rw [imarks_length] at ht
      rw [imarks_at m _ t ht]
      obtain ⟨ea, hl, _, _⟩ := H.out t ht
      exact ⟨ea, by omega, HM.out t (by rw [E.out]; exact ht), HZ.out t ht⟩

set_option maxRecDepth 100000 in
set_option maxHeartbeats 1000000 in
theorem heldInt_any (g : Nat) (a : Option Addr) (c n : Nat) (k : Int) (m : Nat) (hkm : k = (m : Int)) (hn : n ≤ 1099511627776) (hk2 : m ≤ 1099511627776) (w : World) (h : IntsAt w g a (imarks m n)) :
    Calls Try.prog 64 #[.slice a n c, .int .i64 k] w fun e w' =>
      e = .returned (.int .i64 ((m + n : Nat) : Int)) ∧ Below w.heap.size w w' := by
  subst hkm
  have H := Lib.hid h
  clear h
  go_enter Try.func64, Try.ntmps64
  go_wp2
  go_loop [1, 5] (fun mv i => ∃ j : Nat, j ≤ n ∧ i = .int .i64 (j : Int) ∧ mv = .int .i64 ((m + j : Nat) : Int)) (fun _ i => n - (intOf i).toNat)
  case atStart => exact ⟨0, Nat.zero_le _, rfl, rfl⟩
  case round =>
    obtain ⟨j, hj, rfl, rfl⟩ := hrel
    by_cases hlt : j < n
    · obtain ⟨rfl, _, hc, _⟩ := H.out j (by rw [imarks_length]; exact hlt)
      rw [imarks_at m n j hlt] at hc
      go_wp2
      go_round
      case rel => exact ⟨j + 1, by omega, by go_num, by go_num⟩
      case measure => simp [intOf]; omega
    · have E := Lib.hid (show j = n by omega)
      go_wp2
      go_ret
      exact ⟨by rw [E.out]; rfl, Below.refl _ _⟩

end Go.Proofs.Ytmonaiojejbhkaa
