/-
  TEXTS of one claim, put together: Ints, WSet1, WSet2.
-/
import Derived.Test.YtnpmhofeiflpeaaGreatJg1
import Derived.Test.YtnpmhofeiflpeaaGreatProg
import Derived.WalkKit
import Derived.WalkLawsBesides
import Derived.Outline
import Derived.Lib.Hide
import Derived.Deep.QuietTactic
import Derived.BigQuiet
import Derived.BigRegion
import Derived.WalkSmall
import Derived.OwnWalk
import Derived.Laws.OwnMore
import Derived.Test.YtnpmhofeiflpeaaGreatJg0
import Derived.IntWalk
import Derived.Laws.Bits64
/-! WALKS: slices of numbers: what they read as; the laws' own equality, copies, marks, what is held. -/

namespace Go.Proofs.YtnpmhofeiflpeaaGreat
open Go.RowKit

/-- A slice's address and length read as the numbers xs (whatever the address where there are none). -/
def Ints (w : World) (a : Option Addr) (xs : List Int) : Prop := ∀ j, j < xs.length → ∃ b o, a = some ⟨b, o, none⟩ ∧ w.cell? ⟨b, o + j, none⟩ = some (.int .i64 (xs.getD j 0))

/-- The same in block g alone, from its head on, not frozen. -/
def IntsAt (w : World) (g : Nat) (a : Option Addr) (xs : List Int) : Prop := ∀ j, j < xs.length → a = some ⟨g, 0, none⟩ ∧ g < w.heap.size ∧ w.cell? ⟨g, j, none⟩ = some (.int .i64 (xs.getD j 0)) ∧ w.frozen? ⟨g, j, none⟩ = false

/-- A slice value that reads as xs and lies in a block of its own from base on. -/
def OwnInts (w : World) (base : Nat) (v : Value) (xs : List Int) : Prop := w.ownsRow base 3 1 v xs.length (xs.map (Value.int .i64))

theorem Ints.keeps {w w' : World} {a : Option Addr} {xs : List Int} (h : Ints w a xs) (hb : Below w.heap.size w w') : Ints w' a xs := fun j hj => by
  obtain ⟨b, o, e, hc⟩ := h j hj
  exact ⟨b, o, e, by rw [hb.cell (p := ⟨b, o + j, none⟩) (World.block_lt_of_cell? w _ hc)]; exact hc⟩
theorem Ints.drewN {w : World} {a : Option Addr} {xs : List Int} (h : Ints w a xs) (n : Nat) : Ints (w.drewN n) a xs := h
theorem IntsAt.ints {w : World} {g : Nat} {a : Option Addr} {xs : List Int} (h : IntsAt w g a xs) : Ints w a xs := fun j hj => by
  obtain ⟨e, _, hc, _⟩ := h j hj
  exact ⟨g, 0, e, by rw [Nat.zero_add]; exact hc⟩
theorem IntsAt.keeps {w w' : World} {g : Nat} {a : Option Addr} {xs : List Int} (h : IntsAt w g a xs) (hb : Below w.heap.size w w') : IntsAt w' g a xs := fun j hj => by
  obtain ⟨e, hl, hc, hf⟩ := h j hj
  have := hb.size
  exact ⟨e, by omega, by rw [hb.cell (p := ⟨g, j, none⟩) hl]; exact hc, by rw [hb.frozen (p := ⟨g, j, none⟩) hl]; exact hf⟩
theorem IntsAt.drewN {w : World} {g : Nat} {a : Option Addr} {xs : List Int} (h : IntsAt w g a xs) (n : Nat) : IntsAt (w.drewN n) g a xs := h
/-- What another block's writes leave. -/
theorem IntsAt.far {w w' : World} {g g' : Nat} {a : Option Addr} {xs : List Int} (h : IntsAt w g a xs) (hg : w.grownBy w' (some g')) (hne : g ≠ g') : IntsAt w' g a xs := fun j hj => by
  obtain ⟨e, hl, hc, hf⟩ := h j hj
  have hb := hg.block g hl (by simpa using hne)
  have := hg.size
  exact ⟨e, by omega, by rw [World.cell?_of_block (w := w) (w' := w') (a := ⟨g, j, none⟩) hb]; exact hc, by rw [World.frozen?_of_block (w := w) (w' := w') (a := ⟨g, j, none⟩) hb]; exact hf⟩
/-- What a younger block's writes leave. -/
theorem IntsAt.farl {w0 w w' : World} {g g' : Nat} {a : Option Addr} {xs0 xs : List Int} (h0 : IntsAt w0 g a xs0) (h : IntsAt w g a xs) (hg : w.grownBy w' (some g')) (hle : w0.heap.size ≤ g') (hlen : xs.length ≤ xs0.length) : IntsAt w' g a xs := fun j hj => by
  have hl := (h0 j (by omega)).2.1
  exact IntsAt.far h hg (by omega) j hj
theorem IntsAt.fars {w0 w w' : World} {g g' : Nat} {a : Option Addr} {xs : List Int} (h0 : IntsAt w0 g a xs) (h : IntsAt w g a xs) (hg : w.grownBy w' (some g')) (hle : w0.heap.size ≤ g') : IntsAt w' g a xs :=
  IntsAt.farl h0 h hg hle (Nat.le_refl _)
theorem Ints.nil (w : World) (a : Option Addr) : Ints w a [] := fun _ hj => absurd hj (Nat.not_lt_zero _)

theorem info_int : (Tryz.prog.info? 3).map (fun i => (i.zero, i.size, i.bytes)) = some (some (.int .i64 0), 1, 8) := by kernel_rfl

theorem ints_cell (xs : List Int) (j : Nat) (h : j < xs.length) : (xs.map (Value.int .i64))[j]? = some (.int .i64 (xs.getD j 0)) := by
  rw [List.getElem?_map, List.getD, List.getElem?_eq_getElem h]; rfl

/-- Out of what is owned: the slice, and its block. -/
theorem OwnInts.at {w : World} {base : Nat} {v : Value} {xs : List Int} (h : OwnInts w base v xs) : ∃ a c g, v = .slice a xs.length c ∧ base ≤ g ∧ IntsAt w g a xs := by
  unfold OwnInts at h
  rcases h.2 with ⟨hv, h0⟩ | ⟨g, cap, cur, hv, _⟩
  · exact ⟨none, 0, base, by rw [hv, h0], Nat.le_refl _, fun j hj => by omega⟩
  · subst hv
    obtain ⟨h1, h2⟩ := World.ownsRow.lt h g rfl
    refine ⟨some ⟨g, 0, none⟩, cap, g, rfl, h1, fun j hj => ⟨rfl, h2, ?_, World.ownsRow.frozenAt h j⟩⟩
    rw [World.ownsRow.cellAt h j (by omega), ints_cell xs j hj]
theorem OwnInts.nil (w : World) (base : Nat) : OwnInts w base (.slice none 0 0) [] := World.ownsRow_nil _ _ _ _
theorem OwnInts.lit (w : World) (base : Nat) (xs : List Int) (h : base ≤ w.heap.size) (hl : xs.length ≤ 9223372036854775807) : OwnInts (w.alloc (.cells (xs.map (Value.int .i64)).toArray 3)) base (.slice (some ⟨w.heap.size, 0, none⟩) xs.length xs.length) xs := by
  unfold OwnInts
  have h1 := World.ownsRow_lit (base := base) (e := 3) (size := 1) w (xs.map (Value.int .i64)).toArray xs.length h (by unfold maxLen; omega) (by simp)
  simpa using h1
theorem OwnInts.next {w : World} {base : Nat} {v : Value} {xs : List Int} {x : Int} (h : w.ownsRow base 3 1 v (xs.length + 1) (xs.map (Value.int .i64) ++ [.int .i64 x])) : OwnInts w base v (xs ++ [x]) := by
  unfold OwnInts
  rw [List.length_append, List.map_append]
  exact h
theorem OwnInts.alloc {w : World} {base : Nat} {v : Value} {xs : List Int} (h : OwnInts w base v xs) (o : Obj) : OwnInts (w.alloc o) base v xs := World.ownsRow.alloc h o
theorem OwnInts.drewN {w : World} {base : Nat} {v : Value} {xs : List Int} (h : OwnInts w base v xs) (n : Nat) : OwnInts (w.drewN n) base v xs := h
theorem OwnInts.lower {w : World} {base b : Nat} {v : Value} {xs : List Int} (h : OwnInts w base v xs) (hb : b ≤ base) : OwnInts w b v xs := by
  unfold OwnInts at *
  refine ⟨h.1, ?_⟩
  rcases h.2 with h0 | ⟨g, cap, cur, hv, h1, hr⟩
  · exact .inl h0
  · exact .inr ⟨g, cap, cur, hv, by omega, hr⟩
theorem OwnInts.keeps {w w' : World} {base : Nat} {v : Value} {xs : List Int} (h : OwnInts w base v xs) (hb : Below w.heap.size w w') : OwnInts w' base v xs := by
  unfold OwnInts at *
  refine ⟨h.1, ?_⟩
  rcases h.2 with h0 | ⟨g, cap, cur, hv, h1, hh, hr⟩
  · exact .inl h0
  · refine .inr ⟨g, cap, cur, hv, h1, ?_, hr⟩
    have hlt : g < w.heap.size := by
      rcases Nat.lt_or_ge g w.heap.size with hl | hl
      · exact hl
      · rw [Array.getElem?_eq_none hl] at hh; cases hh
    rw [hb.block g hlt]; exact hh

set_option maxRecDepth 100000 in
set_option maxHeartbeats 1000000 in
theorem sameInt_any (a1 a2 : Option Addr) (c1 c2 : Nat) (xs : List Int) (hlen : xs.length ≤ 1099511627776) (w : World) (h1 : Ints w a1 xs) (h2 : Ints w a2 xs) :
    Calls Tryz.prog 17 #[.slice a1 xs.length c1, .slice a2 xs.length c2] w fun e w' => e = .returned (.bool true) ∧ Below w.heap.size w w' := by
  have H1 := Lib.hid h1
  have H2 := Lib.hid h2
  clear h1 h2
  go_enter Tryz.func17, Tryz.ntmps17
  go_wp2
  go_loopw [5] (fun i wr => ∃ k n : Nat, k ≤ xs.length ∧ i = .int .i64 k ∧ wr = w.drewN n) (fun i _ => xs.length - (intOf i).toNat)
  case atStart => exact ⟨0, 0, Nat.zero_le _, rfl, rfl⟩
  case round =>
    obtain ⟨k, n, hk, rfl, rfl⟩ := hrel
    by_cases hlt : k < xs.length
    · obtain ⟨b1, o1, rfl, g1⟩ := H1.out k hlt
      obtain ⟨b2, o2, rfl, g2⟩ := H2.out k hlt
      generalize xs.getD k 0 = x at *
      go_wp2
      go_quiet (fail)
      go_wp2
      go_roundw
      case rel => exact ⟨k + 1, n + nq, by omega, by go_num, rfl⟩
      case measure => simp [intOf]; omega
    · go_wp2
      go_ret
      exact ⟨rfl, Mem.below_drewN w n⟩

/-- The marks from k on. -/
def imarks (k n : Nat) : List Int := (List.range n).map fun j => ((k + j : Nat) : Int)
theorem imarks_length (k n : Nat) : (imarks k n).length = n := by simp [imarks]
theorem imarks_at (k n j : Nat) (h : j < n) : (imarks k n).getD j 0 = ((k + j : Nat) : Int) := by
  simp [imarks, List.getD, h]

end Go.Proofs.YtnpmhofeiflpeaaGreat

/-! WALKS: what is a set, how many points, which comes first: impl's and spec's functions on single numbers. -/

namespace Go.Proofs.YtnpmhofeiflpeaaGreat
open Go.RowKit
open Sets

/-- Is x from lo to hi? -/
def inB (lo hi x : Int) : Bool := decide (lo ≤ x ∧ x ≤ hi)
theorem inB_true {lo hi x : Int} (h1 : lo ≤ x) (h2 : x ≤ hi) : inB lo hi x = true := by unfold inB; rw [decide_eq_true_iff]; exact ⟨h1, h2⟩
theorem inB_false {lo hi x : Int} (h : ¬(lo ≤ x ∧ x ≤ hi)) : inB lo hi x = false := by unfold inB; rw [decide_eq_false_iff_not]; exact h
theorem inB_okZ (x : Int) : inB 0 63 x = okZ x := rfl

set_option maxRecDepth 100000 in
theorem in_any (x lo hi : Int) (w : World) : Calls Tryz.prog 59 #[.int .i64 x, .int .i64 lo, .int .i64 hi] w fun e w' => e = .returned (.bool (inB lo hi x)) ∧ w = w' := by
  by_cases h1 : lo ≤ x
  · by_cases h2 : x ≤ hi
    · go_enter Tryz.func59, Tryz.ntmps59
      go_wp2
      go_ret
      exact ⟨by rw [inB_true h1 h2]; rfl, rfl⟩
    · go_enter Tryz.func59, Tryz.ntmps59
      go_wp2
      go_ret
      exact ⟨by rw [inB_false (fun h => by omega)]; rfl, rfl⟩
  · go_enter Tryz.func59, Tryz.ntmps59
    go_wp2
    go_ret
    exact ⟨by rw [inB_false (fun h => by omega)]; rfl, rfl⟩

theorem in_b (x lo hi : Int) (b : Bool) (hb : inB lo hi x = b) (w : World) : Calls Tryz.prog 59 #[.int .i64 x, .int .i64 lo, .int .i64 hi] w fun e w' => e = .returned (.bool b) ∧ w = w' := by
  subst hb; exact in_any x lo hi w

/-- IsSet. -/
def setB (n s : Int) : Bool := decide (0 ≤ n ∧ n ≤ 6 ∧ 0 ≤ s ∧ s < 2 ^ n.toNat)
theorem setB_iff (n s : Int) : setB n s = true ↔ 0 ≤ n ∧ n ≤ 6 ∧ 0 ≤ s ∧ s < 2 ^ n.toNat := by unfold setB; exact decide_eq_true_iff
theorem setB_six (s : Int) : setB 6 s = okZ s := by unfold setB okZ; congr 1; apply propext; constructor <;> (intro h; simp at h ⊢; omega)
theorem inB_setB (n hi s : Int) (h0 : 0 ≤ n) (h1 : n ≤ 6) (h : hi + 1 = 2 ^ n.toNat) : inB 0 hi s = setB n s := by
  unfold inB setB; congr 1; apply propext; rw [← h]; constructor <;> (intro h; omega)
theorem seven (n : Int) (h0 : 0 ≤ n) (h1 : n ≤ 6) : n = 0 ∨ n = 1 ∨ n = 2 ∨ n = 3 ∨ n = 4 ∨ n = 5 ∨ n = 6 := by omega

set_option maxRecDepth 100000 in
set_option maxHeartbeats 2000000 in
theorem implIsSet_any (n s : Int) (w : World) : Calls Tryz.prog 31 #[.int .i64 n, .int .i64 s] w fun e w' => e = .returned (.bool (setB n s)) ∧ w = w' := by
  by_cases h0 : 0 ≤ n
  · by_cases h1 : n ≤ 6
    · by_cases h2 : 0 ≤ s
      · have hb : setB n s = decide (s < 2 ^ n.toNat) := by unfold setB; simp [h0, h1, h2]
        rw [hb]
        clear hb
        rcases seven n h0 h1 with rfl | rfl | rfl | rfl | rfl | rfl | rfl
        all_goals
          clear h0 h1
          go_enter Tryz.func31, Tryz.ntmps31
          go_wp2
          go_ret
          exact ⟨rfl, rfl⟩
      · have hb : setB n s = false := by unfold setB; simp [h2]
        rw [hb]
        clear hb
        go_enter Tryz.func31, Tryz.ntmps31
        go_wp2
        go_ret
        exact ⟨rfl, rfl⟩
    · have hb : setB n s = false := by unfold setB; simp [h1]
      rw [hb]
      clear hb
      go_enter Tryz.func31, Tryz.ntmps31
      go_wp2
      go_ret
      exact ⟨rfl, rfl⟩
  · have hb : setB n s = false := by unfold setB; simp [h0]
    rw [hb]
    clear hb
    go_enter Tryz.func31, Tryz.ntmps31
    go_wp2
    go_ret
    exact ⟨rfl, rfl⟩

set_option maxRecDepth 100000 in
theorem isAny_any (s : Int) (w : World) : Calls Tryz.prog 96 #[.int .i64 s] w fun e w' => e = .returned (.bool (okZ s)) ∧ w = w' := by
  have hc := implIsSet_any 6 s w
  rw [setB_six] at hc
  go_enter Tryz.func96, Tryz.ntmps96
  go_wp2_with fail
  refine hc.mono ?_
  rintro e w' ⟨rfl, rfl⟩
  go_wp2
  go_ret
  exact ⟨rfl, rfl⟩

theorem isAny_b (s : Int) (b : Bool) (hb : okZ s = b) (w : World) : Calls Tryz.prog 96 #[.int .i64 s] w fun e w' => e = .returned (.bool b) ∧ w = w' := by
  subst hb; exact isAny_any s w

set_option maxRecDepth 100000 in
set_option maxHeartbeats 2000000 in
theorem specIsSet_any (n s : Int) (w : World) : Calls Tryz.prog 45 #[.int .i64 n, .int .i64 s] w fun e w' => e = .returned (.bool (setB n s)) ∧ w = w' := by
  by_cases h0 : 0 ≤ n ∧ n ≤ 6
  · obtain ⟨h0, h1⟩ := h0
    have hb : ∀ hi : Int, hi + 1 = 2 ^ n.toNat → inB 0 hi s = setB n s := fun hi h => inB_setB n hi s h0 h1 h
    generalize setB n s = b at *
    have HB := Lib.hid hb
    clear hb
    rcases seven n h0 h1 with rfl | rfl | rfl | rfl | rfl | rfl | rfl
    all_goals
      clear h0 h1
      go_enter Tryz.func45, Tryz.ntmps45
      go_wp2_with fail
      refine (in_b _ _ _ true (by decide) _).mono ?_
      rintro e w' ⟨rfl, rfl⟩
      go_wp2_with fail
      refine (in_b _ _ _ b (HB.out _ (by decide)) _).mono ?_
      rintro e w' ⟨rfl, rfl⟩
      go_wp2
      go_ret
      exact ⟨rfl, rfl⟩
  · have hb : setB n s = false := by
      unfold setB; rw [decide_eq_false_iff_not]; intro h; exact h0 ⟨h.1, h.2.1⟩
    have hq : inB 0 6 n = false := inB_false h0
    rw [hb]
    clear hb h0
    go_enter Tryz.func45, Tryz.ntmps45
    go_wp2_with fail
    refine (in_b _ _ _ false hq _).mono ?_
    rintro e w' ⟨rfl, rfl⟩
    go_wp2
    go_ret
    exact ⟨rfl, rfl⟩

end Go.Proofs.YtnpmhofeiflpeaaGreat

/-! WALKS: how many points a set has, which of two comes first, its points, its subsets. -/

namespace Go.Proofs.YtnpmhofeiflpeaaGreat
open Go.RowKit
open Sets

theorem fin64 {P : Nat → Prop} (h : ∀ t : Fin 64, P t.val) : ∀ s : Nat, s < 64 → P s := fun s hs => h ⟨s, hs⟩
theorem fin64b {P : Nat → Nat → Prop} (h : ∀ t u : Fin 64, P t.val u.val) : ∀ s r : Nat, s < 64 → r < 64 → P s r := fun s r hs hr => h ⟨s, hs⟩ ⟨r, hr⟩
theorem ret_int {k : IntKind} {a b : Int} (h : a = b) : Ending.returned (.int k a) = .returned (.int k b) := by rw [h]
theorem ret_bool {a b : Bool} (h : a = b) : Ending.returned (.bool a) = .returned (.bool b) := by rw [h]

set_option maxRecDepth 100000 in
set_option maxHeartbeats 2000000 in
theorem ones64_any (s : Nat) (hs : s < 64) (w : World) : Calls Tryz.prog 103 #[.int .u64 (s : Int)] w fun e w' => e = .returned (.int .i64 (pc s : Int)) ∧ w = w' := by
  go_enter Tryz.func103, Tryz.ntmps103
  go_wp2
  go_ret
  refine ⟨ret_int ?_, rfl⟩
  revert s
  refine fin64 ?_
  decide +kernel

set_option maxRecDepth 100000 in
theorem ones_any (s : Nat) (hs : s < 64) (w : World) : Calls Tryz.prog 97 #[.int .u64 (s : Int)] w fun e w' => e = .returned (.int .i64 (pc s : Int)) ∧ w = w' := by
  go_enter Tryz.func97, Tryz.ntmps97
  go_wp2_with fail
  refine (ones64_any s hs _).mono ?_
  rintro e w' ⟨rfl, rfl⟩
  go_wp2
  go_ret
  exact ⟨rfl, rfl⟩

/-- SizeOf. -/
def sizeZ (x : Int) : Int := if okZ x = true then (pc x.toNat : Int) else -1
theorem sizeZ_nat (s : Nat) (h : s < 64) : sizeZ (s : Int) = (pc s : Int) := by unfold sizeZ; rw [if_pos ((okZ_nat s).2 h)]; rfl
theorem okZ_cast (x : Int) (h : okZ x = true) : ∃ s : Nat, x = (s : Int) ∧ s < 64 := by
  have := (okZ_iff x).1 h
  exact ⟨x.toNat, by omega, by omega⟩

set_option maxRecDepth 100000 in
theorem implSizeOf_nat (s : Nat) (hs : s < 64) (w : World) : Calls Tryz.prog 80 #[.int .i64 (s : Int)] w fun e w' => e = .returned (.int .i64 (pc s : Int)) ∧ w = w' := by
  go_enter Tryz.func80, Tryz.ntmps80
  go_wp2_with fail
  refine (isAny_b _ true ((okZ_nat s).2 hs) _).mono ?_
  rintro e w' ⟨rfl, rfl⟩
  go_wp2_with fail
  refine (ones_any s hs _).mono ?_
  rintro e w' ⟨rfl, rfl⟩
  go_wp2
  go_ret
  exact ⟨rfl, rfl⟩

set_option maxRecDepth 100000 in
theorem implSizeOf_any (x : Int) (w : World) : Calls Tryz.prog 80 #[.int .i64 x] w fun e w' => e = .returned (.int .i64 (sizeZ x)) ∧ w = w' := by
  by_cases h : okZ x = true
  · obtain ⟨s, rfl, hs⟩ := okZ_cast x h
    rw [sizeZ_nat s hs]
    exact implSizeOf_nat s hs w
  · have hb : okZ x = false := by simpa using h
    have e : sizeZ x = -1 := by unfold sizeZ; rw [if_neg h]
    rw [e]
    clear e
    have HB := Lib.hid hb
    clear hb h
    go_enter Tryz.func80, Tryz.ntmps80
    go_wp2_with fail
    refine (isAny_b _ false HB.out _).mono ?_
    rintro e w' ⟨rfl, rfl⟩
    go_wp2
    go_ret
    exact ⟨rfl, rfl⟩

theorem and_one (t : Nat) (h : t < 64) : bits BinOp.and IntKind.i64 (t : Int) 1 = ((t % 2 : Nat) : Int) := by
  revert t
  refine fin64 ?_
  decide +kernel

set_option maxRecDepth 100000 in
set_option maxHeartbeats 2000000 in
theorem l2Size_any (s : Nat) (hs : s < 64) (w : World) : Calls Tryz.prog 58 #[.int .i64 (s : Int)] w fun e w' => e = .returned (.int .i64 (pc s : Int)) ∧ w = w' := by
  go_enter Tryz.func58, Tryz.ntmps58
  go_wp2
  go_loop [0, 3] (fun x n => ∃ t m : Nat, t < 64 ∧ x = .int .i64 (t : Int) ∧ n = .int .i64 (m : Int) ∧ m ≤ 64 ∧ m + pc t = pc s) (fun x _ => (intOf x).toNat)
  case atStart => exact ⟨s, 0, hs, rfl, rfl, by omega, by omega⟩
  case round =>
    obtain ⟨t, m, ht, rfl, rfl, hm, he⟩ := hrel
    have HE := Lib.hid he
    clear he
    by_cases hpos : 0 < t
    · have ha := and_one t ht
      have hh := pc_half t ht
      have hl := pc_le s
      have HH := Lib.hid hh
      clear hh
      go_wp2
      go_round
      case rel =>
        have h1 := HH.out
        have h2 := HE.out
        exact ⟨t / 2, m + t % 2, by omega, by go_num, by first | (rw [ha]; go_num) | go_num, by omega, by omega⟩
      case measure => simp [intOf]; omega
    · have E := Lib.hid (show t = 0 by omega)
      go_wp2
      go_ret
      refine ⟨ret_int ?_, rfl⟩
      have h2 := HE.out
      rw [E.out, pc_zero] at h2
      omega

/-- Is a before b? -/
def befN (a b : Nat) : Bool := decide (pc a < pc b ∨ pc a = pc b ∧ a < b)
/-- BeforeSet. -/
def befZ (a b : Int) : Bool := okZ a && okZ b && befN a.toNat b.toNat

set_option maxRecDepth 100000 in
set_option maxHeartbeats 2000000 in
theorem implBefore_any (a b : Int) (w : World) : Calls Tryz.prog 90 #[.int .i64 a, .int .i64 b] w fun e w' => e = .returned (.bool (befZ a b)) ∧ w = w' := by
  by_cases h : okZ a = true
  · have HA := Lib.hid h
    by_cases k : okZ b = true
    · obtain ⟨s, rfl, hs⟩ := okZ_cast a h
      obtain ⟨t, rfl, ht⟩ := okZ_cast b k
      have e : befZ (s : Int) (t : Int) = befN s t := by unfold befZ; rw [h, k]; rfl
      rw [e]
      clear e
      have HB := Lib.hid k
      clear h k
      have p1 := pc_le s
      have p2 := pc_le t
      by_cases hq : pc s = pc t
      · have hq' : ((pc s : Int) != (pc t : Int)) = false := by rw [hq]; simp
        have e : befN s t = decide (s < t) := by unfold befN; simp [hq]
        have Q := Lib.hid hq'
        rw [e]
        clear e hq'
        have HQ := Lib.hid hq
        clear hq
        go_enter Tryz.func90, Tryz.ntmps90
        go_wp2_with fail
        refine (isAny_b _ true HA.out _).mono ?_
        rintro e w' ⟨rfl, rfl⟩
        go_wp2_with fail
        refine (isAny_b _ true HB.out _).mono ?_
        rintro e w' ⟨rfl, rfl⟩
        go_wp2_with fail
        refine (implSizeOf_nat s hs _).mono ?_
        rintro e w' ⟨rfl, rfl⟩
        go_wp2_with fail
        refine (implSizeOf_nat t ht _).mono ?_
        rintro e w' ⟨rfl, rfl⟩
        have hq' := Q.out
        go_wp2
        go_ret
        exact ⟨rfl, rfl⟩
      · have hq' : ((pc s : Int) != (pc t : Int)) = true := by simp; omega
        have e : befN s t = decide (pc s < pc t) := by unfold befN; simp [hq]
        have Q := Lib.hid hq'
        rw [e]
        clear e hq' hq
        go_enter Tryz.func90, Tryz.ntmps90
        go_wp2_with fail
        refine (isAny_b _ true HA.out _).mono ?_
        rintro e w' ⟨rfl, rfl⟩
        go_wp2_with fail
        refine (isAny_b _ true HB.out _).mono ?_
        rintro e w' ⟨rfl, rfl⟩
        go_wp2_with fail
        refine (implSizeOf_nat s hs _).mono ?_
        rintro e w' ⟨rfl, rfl⟩
        go_wp2_with fail
        refine (implSizeOf_nat t ht _).mono ?_
        rintro e w' ⟨rfl, rfl⟩
        have hq' := Q.out
        go_wp2_with fail
        refine (implSizeOf_nat s hs _).mono ?_
        rintro e w' ⟨rfl, rfl⟩
        go_wp2_with fail
        refine (implSizeOf_nat t ht _).mono ?_
        rintro e w' ⟨rfl, rfl⟩
        go_wp2
        go_ret
        exact ⟨rfl, rfl⟩
    · have hb : okZ b = false := by simpa using k
      have e : befZ a b = false := by unfold befZ; rw [hb]; simp
      rw [e]
      clear e
      have HB := Lib.hid hb
      clear h k hb
      go_enter Tryz.func90, Tryz.ntmps90
      go_wp2_with fail
      refine (isAny_b _ true HA.out _).mono ?_
      rintro e w' ⟨rfl, rfl⟩
      go_wp2_with fail
      refine (isAny_b _ false HB.out _).mono ?_
      rintro e w' ⟨rfl, rfl⟩
      go_wp2
      go_ret
      exact ⟨rfl, rfl⟩
  · have hb : okZ a = false := by simpa using h
    have e : befZ a b = false := by unfold befZ; rw [hb]; simp
    rw [e]
    clear e
    have HB := Lib.hid hb
    clear h hb
    go_enter Tryz.func90, Tryz.ntmps90
    go_wp2_with fail
    refine (isAny_b _ false HB.out _).mono ?_
    rintro e w' ⟨rfl, rfl⟩
    go_wp2
    go_ret
    exact ⟨rfl, rfl⟩

set_option maxRecDepth 100000 in
set_option maxHeartbeats 2000000 in
theorem l2Before_any (s t : Nat) (hs : s < 64) (ht : t < 64) (w : World) : Calls Tryz.prog 69 #[.int .i64 (s : Int), .int .i64 (t : Int)] w fun e w' => e = .returned (.bool (befN s t)) ∧ w = w' := by
  have p1 := pc_le s
  have p2 := pc_le t
  by_cases hlt : pc s < pc t
  · have e : befN s t = true := by unfold befN; simp [hlt]
    rw [e]
    clear e
    go_enter Tryz.func69, Tryz.ntmps69
    go_wp2_with fail
    refine (l2Size_any s hs _).mono ?_
    rintro e w' ⟨rfl, rfl⟩
    go_wp2_with fail
    refine (l2Size_any t ht _).mono ?_
    rintro e w' ⟨rfl, rfl⟩
    go_wp2
    go_ret
    exact ⟨rfl, rfl⟩
  · by_cases hq : pc s = pc t
    · have e : befN s t = decide (s < t) := by unfold befN; simp [hq]
      rw [e]
      clear e
      have hq' : ((pc s : Int) == (pc t : Int)) = true := by rw [hq]; simp
      have hl' : decide (pc s < pc t) = false := by simpa using hlt
      have HQ := Lib.hid hq
      clear hq hlt
      go_enter Tryz.func69, Tryz.ntmps69
      go_wp2_with fail
      refine (l2Size_any s hs _).mono ?_
      rintro e w' ⟨rfl, rfl⟩
      go_wp2_with fail
      refine (l2Size_any t ht _).mono ?_
      rintro e w' ⟨rfl, rfl⟩
      go_wp2
      go_ret
      exact ⟨rfl, rfl⟩
    · have e : befN s t = false := by unfold befN; simp [hq]; omega
      rw [e]
      clear e
      have hq' : ((pc s : Int) == (pc t : Int)) = false := by simp; omega
      have hl' : decide (pc s < pc t) = false := by simpa using hlt
      clear hq hlt
      go_enter Tryz.func69, Tryz.ntmps69
      go_wp2_with fail
      refine (l2Size_any s hs _).mono ?_
      rintro e w' ⟨rfl, rfl⟩
      go_wp2_with fail
      refine (l2Size_any t ht _).mono ?_
      rintro e w' ⟨rfl, rfl⟩
      go_wp2
      go_ret
      exact ⟨rfl, rfl⟩

end Go.Proofs.YtnpmhofeiflpeaaGreat
