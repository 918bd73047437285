/-
  TEXTS of one claim, put together: WCx6, WSz, CurB, WShS1.
-/
import Derived.Test.YtmonaiojejbhkaaJg6
import Derived.Test.YtmonaiojejbhkaaJg4
import Derived.Test.YtmonaiojejbhkaaJg7
import Derived.Test.YtmonaiojejbhkaaSh1
import Derived.IntWalk
/-! WALKS: complexes made of sets, by impl and by spec; the full complex and its border. -/

namespace Go.Proofs.Ytmonaiojejbhkaa
open Go.RowKit
open Sets

/-- Out of what is owned: the slice, its room, its block. -/
theorem OwnInts.atc {w : World} {base : Nat} {v : Value} {xs : List Int} (h : OwnInts w base v xs) : ∃ a c g, v = .slice a xs.length c ∧ xs.length ≤ c ∧ base ≤ g ∧ IntsAt w g a xs := by
  unfold OwnInts at h
  rcases h.2 with ⟨hv, h0⟩ | ⟨g, cap, cur, hv, _, _, hcap, _⟩
  · exact ⟨none, 0, base, by rw [hv, h0], by omega, Nat.le_refl _, fun j hj => by omega⟩
  · subst hv
    obtain ⟨h1, h2⟩ := World.ownsRow.lt h g rfl
    refine ⟨some ⟨g, 0, none⟩, cap, g, rfl, hcap, h1, fun j hj => ⟨rfl, h2, ?_, World.ownsRow.frozenAt h j⟩⟩
    rw [World.ownsRow.cellAt h j (by omega), ints_cell xs j hj]

theorem OwnInts.set {w : World} {base : Nat} {v : Value} {xs : List Int} (h : OwnInts w base v xs) (b o : Nat) (z : Value) (hb : b < base) : OwnInts (w.setCell ⟨b, o, none⟩ z) base v xs := by
  unfold OwnInts at *
  refine ⟨h.1, ?_⟩
  rcases h.2 with h0 | ⟨g, cap, cur, hv, h1, hh, hr⟩
  · exact .inl h0
  · refine .inr ⟨g, cap, cur, hv, h1, ?_, hr⟩
    simp only [World.setCell, Array.getElem?_modify]
    rw [if_neg (by omega)]
    exact hh

/-- Are they at most 64 sets of n points? -/
def setsOf (n : Int) (xs : List Int) : Bool := inB 1 6 n && decide (xs.length ≤ 64) && xs.all (setB n)
/-- MakeComplex. -/
def made (n : Int) (xs : List Int) : Option (Int × List Int) := if setsOf n xs = true then some (n, maximal xs) else none
/-- The points and the facets of a complex that may not be there. -/
def oN (o : Option (Int × List Int)) : Int := (o.map (·.1)).getD 0
def oL (o : Option (Int × List Int)) : List Int := (o.map (·.2)).getD []
theorem made_yes {n : Int} {xs : List Int} (h : setsOf n xs = true) : made n xs = some (n, maximal xs) := by unfold made; rw [if_pos h]
theorem made_no {n : Int} {xs : List Int} (h : setsOf n xs = false) : made n xs = none := by unfold made; rw [if_neg (by rw [h]; simp)]
theorem setsOf_iff (n : Int) (xs : List Int) : setsOf n xs = true ↔ inB 1 6 n = true ∧ xs.length ≤ 64 ∧ ∀ x, x ∈ xs → setB n x = true := by
  unfold setsOf; rw [Bool.and_eq_true, Bool.and_eq_true, decide_eq_true_iff, List.all_eq_true, and_assoc]
theorem setsOf_ok {n : Int} {xs : List Int} (h : setsOf n xs = true) : allOk xs = true := by
  unfold allOk; rw [List.all_eq_true]; exact fun x hx => setB_ok (((setsOf_iff n xs).1 h).2.2 x hx)
theorem made_isC {n : Int} {xs : List Int} (h : setsOf n xs = true) : isC n (maximal xs) = true := by
  have h' := (setsOf_iff n xs).1 h
  have hn := (inB_iff _ _ _).1 h'.1
  exact isC_maximal n xs hn.1 hn.2 h'.2.2
theorem all_any_not (xs : List Int) (q : Int → Bool) : xs.all q = !(xs.any fun x => !q x) := by
  rw [List.not_any_eq_all_not]; simp

set_option maxRecDepth 100000 in
set_option maxHeartbeats 2000000 in
theorem l3Make_any (n : Int) (a : Option Addr) (c : Nat) (xs : List Int) (hok : allOk xs = true) (hlen : xs.length ≤ 1099511627776) (w : World) (h : Ints w a xs) :
    Calls Try.prog 80 #[.int .i64 n, .slice a xs.length c] w fun e w' =>
      ∃ v, e = .returned (cx n v) ∧ OwnInts w' w.heap.size v (maximal xs) ∧ Below w.heap.size w w' := by
  have hb0 : Below w.heap.size w (w.alloc (Obj.cells #[Value.int IntKind.i64 0, Value.slice none 0 0] 33)) := (Below.refl _ _).alloc (Nat.le_refl _) _
  have htwo : Two (w.alloc (Obj.cells #[Value.int IntKind.i64 0, Value.slice none 0 0] 33)) w.heap.size (.int .i64 0) (.slice none 0 0) := Two.new _ _ _ _
  have H := Lib.hid (h.keeps hb0)
  have HB0 := Lib.hid hb0
  have HT := Lib.hid htwo
  have HOK := Lib.hid hok
  clear h hb0 htwo hok
  go_enter Try.func80, Try.ntmps80
  go_wp2_with fail
  refine (l2Extreme_true _ _ xs hlen HOK.out _ H.out).mono ?_
  rintro e w2 ⟨v, rfl, hO, hb2⟩
  have hsz1 := HT.out.1
  have hsz2 := hb2.size
  have HB2 : Hid (Below w.heap.size w w2) := HB0.out.trans (hb2.mono (by omega))
  have hO' : OwnInts w2 (w.heap.size + 1) v (maximal xs) := by
    have h2 := hO
    simp only [World.size_alloc] at h2
    exact h2
  obtain ⟨a2, c2, g2, rfl, _⟩ := hO'.atc
  have HO := Lib.hid hO'
  obtain ⟨t0, t1, t2, t3, t4⟩ := HT.out.keeps hb2
  clear hb2 hO hO'
  go_wp2
  refine ret_cx w.heap.size rfl rfl (x := .int .i64 n) (y := .slice a2 (maximal xs).length c2) (by go_simp) (by go_simp) rfl ?_
  exact ⟨_, rfl, (OwnInts.set (OwnInts.set HO.out _ _ _ (by omega)) _ _ _ (by omega)).lower (by omega), (HB2.out.setCell (by simp) _).setCell (by simp) _⟩

end Go.Proofs.Ytmonaiojejbhkaa

/-! WALKS: the law's own bound on the sizes of complexes. -/

namespace Go.Proofs.Ytmonaiojejbhkaa
open Go.RowKit

/-- What another block's writes leave. -/
theorem Two.far {w w' : World} {b g : Nat} {x y : Value} (h : Two w b x y) (hg : w.grownBy w' (some g)) (hne : b ≠ g) : Two w' b x y := by
  obtain ⟨h1, h2, h3, h4, h5⟩ := h
  have hb := hg.block b h1 (by simpa using hne)
  have := hg.size
  exact ⟨by omega, by rw [World.cell?_of_block (w := w) (w' := w') (a := ⟨b, 0, none⟩) hb]; exact h2, by rw [World.cell?_of_block (w := w) (w' := w') (a := ⟨b, 1, none⟩) hb]; exact h3,
    by rw [World.frozen?_of_block (w := w) (w' := w') (a := ⟨b, 0, none⟩) hb]; exact h4, by rw [World.frozen?_of_block (w := w) (w' := w') (a := ⟨b, 1, none⟩) hb]; exact h5⟩

theorem bdrew1 (w : World) : Below w.heap.size w w.drew := (Below.refl _ _).drew
theorem Two.drew {w : World} {b : Nat} {x y : Value} (h : Two w b x y) : Two w.drew b x y := h
theorem Ints.drew {w : World} {a : Option Addr} {xs : List Int} (h : Ints w a xs) : Ints w.drew a xs := h
theorem below_fresh {w wA : World} (h : Below w.drew.heap.size w.drew wA) : Below w.heap.size w wA := (bdrew1 w).trans h
/-- Out of what is owned: the slice, its room, and a block that is no new one. -/
theorem OwnInts.ata {w : World} {base : Nat} {v : Value} {xs : List Int} (h : OwnInts w base v xs) (hb : base ≤ w.heap.size) :
    ∃ a c g, v = .slice a xs.length c ∧ xs.length ≤ c ∧ base ≤ g ∧ IntsAt w g a xs ∧ (g < w.heap.size ∨ w.heap.size + 5 ≤ g) := by
  unfold OwnInts at h
  rcases h.2 with ⟨hv, h0⟩ | ⟨g, cap, cur, hv, _, _, hcap, _⟩
  · exact ⟨none, 0, w.heap.size + 5, by rw [hv, h0], by omega, by omega, fun j hj => by omega, Or.inr (Nat.le_refl _)⟩
  · subst hv
    obtain ⟨h1, h2⟩ := World.ownsRow.lt h g rfl
    refine ⟨some ⟨g, 0, none⟩, cap, g, rfl, hcap, h1, fun j hj => ⟨rfl, h2, ?_, World.ownsRow.frozenAt h j⟩, Or.inl h2⟩
    rw [World.ownsRow.cellAt h j (by omega), ints_cell xs j hj]

end Go.Proofs.Ytmonaiojejbhkaa

/-! MEMORY: the cursor of a draw behind calls that make memory; lists of sets that are drawn. -/

namespace Go.Proofs.Ytmonaiojejbhkaa
open Go.RowKit
open Sets

theorem Cur.keeps {w w' : World} {B : Nat} {a : Option Addr} {n c : Nat} (h : Cur w B a n c) (hB : B < w.heap.size) (hb : Below w.heap.size w w') : Cur w' B a n c := by
  have e := hb.block B hB
  refine ⟨(World.cell?_of_block (w := w) (a := ⟨B, 0, none⟩) e).trans h.c0, ?_, ?_, fun j => (World.frozen?_of_block (w := w) (a := ⟨B, j, none⟩) e).trans (h.fr j), h.bs.of_but (Mem.but_of_below hb _)⟩
  · obtain ⟨i, hi, hc⟩ := h.c1
    exact ⟨i, hi, (World.cell?_of_block (w := w) (a := ⟨B, 1, none⟩) e).trans hc⟩
  · obtain ⟨x, hc⟩ := h.c2
    exact ⟨x, (World.cell?_of_block (w := w) (a := ⟨B, 2, none⟩) e).trans hc⟩
/-- The same where only blocks from b on may have changed, the bytes lie below b. -/
theorem Bytes.below {b : Nat} {w w' : World} {a : Option Addr} {n B : Nat} (h : Bytes w a n B) (hb : Below b w w') (hl : ∀ j, j < n → ∀ g o : Nat, a = some ⟨g, o, none⟩ → g < b) : Bytes w' a n B := fun j hj => by
  obtain ⟨g, o, x, e, hne, hx, hc⟩ := h j hj
  exact ⟨g, o, x, e, hne, hx, by rw [hb.cell (p := ⟨g, o + j, none⟩) (hl j hj g o e)]; exact hc⟩
theorem Cur.below {b : Nat} {w w' : World} {B : Nat} {a : Option Addr} {n c : Nat} (h : Cur w B a n c) (hB : B < b) (hb : Below b w w') (hl : ∀ j, j < n → ∀ g o : Nat, a = some ⟨g, o, none⟩ → g < b) : Cur w' B a n c := by
  have e := hb.block B hB
  refine ⟨(World.cell?_of_block (w := w) (a := ⟨B, 0, none⟩) e).trans h.c0, ?_, ?_, fun j => (World.frozen?_of_block (w := w) (a := ⟨B, j, none⟩) e).trans (h.fr j), h.bs.below hb hl⟩
  · obtain ⟨i, hi, hc⟩ := h.c1
    exact ⟨i, hi, (World.cell?_of_block (w := w) (a := ⟨B, 1, none⟩) e).trans hc⟩
  · obtain ⟨x, hc⟩ := h.c2
    exact ⟨x, (World.cell?_of_block (w := w) (a := ⟨B, 2, none⟩) e).trans hc⟩
/-- The bytes of a cursor lie in a block that there is. -/
theorem Cur.old {w : World} {B : Nat} {a : Option Addr} {n c : Nat} (h : Cur w B a n c) : ∀ j, j < n → ∀ g o : Nat, a = some ⟨g, o, none⟩ → g < w.heap.size := fun j hj g o e => by
  obtain ⟨g', o', x, e', _, _, hc⟩ := h.bs j hj
  rw [e] at e'
  cases e'
  exact World.block_lt_of_cell? w _ hc

theorem but_below {b B : Nat} {w w2 w3 : World} (h : w.grownBy w2 (some B)) (hb : Below b w2 w3) (hle : w.heap.size ≤ b) : w.grownBy w3 (some B) :=
  ⟨hb.os.trans h.os, hb.tape.trans h.tape, hb.output.trans h.output, Nat.le_trans h.size hb.size, fun k hk hne => (hb.block k (by omega)).trans (h.block k hk hne)⟩
theorem OwnInts.away {w w' : World} {base B : Nat} {v : Value} {xs : List Int} (h : OwnInts w base v xs) (hg : w.grownBy w' (some B)) (hB : B < base) : OwnInts w' base v xs := by
  refine World.ownsRow.kept h hg ?_
  cases hv : v.ownBlock with
  | none => exact .inl rfl
  | some g =>
    have := (World.ownsRow.lt h g hv).1
    exact .inr (by simp; omega)

theorem Two.under {B : Nat} {w w' : World} {b : Nat} {x y : Value} (h : Two w b x y) (hb : Below B w w') (hlt : b < B) : Two w' b x y := by
  obtain ⟨h1, h2, h3, h4, h5⟩ := h
  refine ⟨by have := hb.size; omega, ?_, ?_, ?_, ?_⟩
  · rw [hb.cell (p := ⟨b, 0, none⟩) hlt]; exact h2
  · rw [hb.cell (p := ⟨b, 1, none⟩) hlt]; exact h3
  · rw [hb.frozen (p := ⟨b, 0, none⟩) hlt]; exact h4
  · rw [hb.frozen (p := ⟨b, 1, none⟩) hlt]; exact h5

set_option maxRecDepth 100000 in
theorem once_b (B : Nat) (a : Option Addr) (n c : Nat) (hn : n ≤ 140737488355328) (k : Int) (m : Nat) (hk : k = (m : Int)) (hm : 0 < m) (hm2 : m ≤ 4294967296) (w : World) (hc : Cur w B a n c) :
    Calls Try.prog 39 #[.pointer (some ⟨B, 0, none⟩), .int .i64 k] w fun e w' => ∃ b : Bool, e = .returned (.bool b) ∧ Drew w w' B a n c := by
  have HC := Lib.hid (below_lit B a n c hn k m hk hm hm2 w hc)
  clear hc hk
  go_enter Try.func39, Try.ntmps39
  go_wp2_with fail
  refine HC.out.mono ?_
  rintro e w1 ⟨r, hr, rfl, hd⟩
  have HD := Lib.hid hd
  clear hd
  go_wp2
  go_ret
  exact ⟨_, rfl, HD.out⟩

theorem and_nat : ∀ a b : Nat, a < 64 → b < 64 → bits BinOp.and IntKind.i64 (a : Int) (b : Int) = ((a &&& b : Nat) : Int) := by
  refine fin64b ?_
  decide +kernel
theorem and_lt64 (a b : Nat) (h : a < 64) : a &&& b < 64 := Nat.lt_of_le_of_lt Nat.and_le_left h
theorem allOk_snoc {xs : List Int} {s : Nat} (h : allOk xs = true) (hs : s < 64) : allOk (xs ++ [(s : Int)]) = true := by
  unfold allOk at *
  rw [List.all_append, h]
  simp only [List.all_cons, List.all_nil, Bool.and_true, Bool.true_and]
  exact (okZ_nat s).2 hs
theorem eight_a (r : Nat) (h : r < 8) : ∃ m : Nat, m ≤ 6 ∧ ([0, 1, 2, 3, 4, 4, 5, 6] : List Int).getD r 0 = (m : Int) := by
  have : ∀ k : Fin 8, ∃ m : Fin 7, ([0, 1, 2, 3, 4, 4, 5, 6] : List Int).getD k.val 0 = ((m.val : Nat) : Int) := by decide
  obtain ⟨m, hm⟩ := this ⟨r, h⟩
  exact ⟨m.val, by omega, hm⟩
theorem eight_b (r : Nat) (h : r < 8) : ∃ m : Nat, 1 ≤ m ∧ m ≤ 6 ∧ ([1, 2, 3, 4, 4, 5, 5, 6] : List Int).getD r 0 = (m : Int) := by
  have : ∀ k : Fin 8, ∃ m : Fin 6, ([1, 2, 3, 4, 4, 5, 5, 6] : List Int).getD k.val 0 = ((m.val + 1 : Nat) : Int) := by decide
  obtain ⟨m, hm⟩ := this ⟨r, h⟩
  exact ⟨m.val + 1, by omega, by omega, hm⟩

end Go.Proofs.Ytmonaiojejbhkaa

/-! WALKS: spec's shellings: the new faces of a facet; can it follow? -/

namespace Go.Proofs.Ytmonaiojejbhkaa
open Go.RowKit
open Sets Hn Sh

/-- Every number is a set of points. -/
def FSets (B : List Int) : Prop := ∀ j, j < B.length → ∃ b : Nat, B.getD j 0 = (b : Int) ∧ b < 64
theorem FSets.under {B : List Int} (h : FSets B) : Under B := fun x hx => by
  obtain ⟨j, hj, rfl⟩ := List.getElem_of_mem hx
  obtain ⟨b, e, hb⟩ := h j hj
  rw [List.getD, List.getElem?_eq_getElem hj] at e
  have e : B[j] = (b : Int) := e
  rw [e]; exact hb
theorem bit_and (s i : Nat) (hs : s < 64) (hi : i < 6) : (bits BinOp.and IntKind.i64 (s : Int) ((2 ^ i : Nat) : Int) == 0) = !s.testBit i := by
  have h : ∀ a : Fin 64, ∀ b : Fin 6, (bits BinOp.and IntKind.i64 (a.val : Int) ((2 ^ b.val : Nat) : Int) == 0) = !a.val.testBit b.val := by decide +kernel
  exact h ⟨s, hs⟩ ⟨i, hi⟩
theorem pow_wrap (i : Nat) (hi : i < 6) : wrap64 (2 ^ i) = ((2 ^ i : Nat) : Int) := by
  have h : ∀ b : Fin 6, wrap64 (2 ^ b.val) = ((2 ^ b.val : Nat) : Int) := by decide +kernel
  exact h ⟨i, hi⟩
theorem inF_take (B : List Int) (k t : Nat) (h : k < B.length) : inF (B.take (k + 1)) t = (inF (B.take k) t || sub t (B.getD k 0).toNat) := by
  rw [take_nx B k h, inF_snoc]
theorem or_self2 (a x : Nat) : a ||| x ||| x = a ||| x := by rw [Nat.or_assoc, Nat.or_self]

set_option maxRecDepth 100000 in
set_option maxHeartbeats 4000000 in
theorem l19New_any (a : Option Addr) (c : Nat) (B : List Int) (hlen : B.length ≤ 1099511627776) (hS : FSets B) (s : Nat) (hs : s < 64) (w : World) (h : Ints w a B) :
    Calls Try.prog 89 #[.slice a B.length c, .int .i64 (s : Int)] w fun e w' => e = .returned (.int .i64 (newN B s : Nat)) ∧ w = w' := by
  have H := Lib.hid h
  have HS := Lib.hid hS
  obtain ⟨l, hl⟩ : ∃ l, B.length = l := ⟨_, rfl⟩
  have HL := Lib.hid hl
  rw [hl] at hlen ⊢
  clear h hS hl
  go_enter Try.func89, Try.ntmps89
  go_wp2
  go_loop [5, 6] (fun v i => ∃ k : Nat, k ≤ 6 ∧ i = .int .i64 (k : Int) ∧ v = .int .i64 (newTo B s k : Nat)) (fun _ i => 6 - (intOf i).toNat)
  case atStart => exact ⟨0, by omega, rfl, rfl⟩
  case round =>
    obtain ⟨k, hk, rfl, rfl⟩ := hrel
    by_cases hlt : k < 6
    · have hw := pow_wrap k hlt
      have hba := bit_and s k hs hlt
      obtain ⟨X, hX⟩ : ∃ X : Nat, 2 ^ k = X := ⟨_, rfl⟩
      have HX := Lib.hid hX
      have hX64 : X < 64 := by rw [← hX]; exact Nat.pow_lt_pow_right (a := 2) (m := k) (n := 6) (by decide) hlt
      have hT64 := newTo_lt B s k hk
      rw [hX] at hw hba
      obtain ⟨T, hT⟩ : ∃ T, newTo B s k = T := ⟨_, rfl⟩
      have HT := Lib.hid hT
      rw [hT] at hT64 ⊢
      clear hX hT
      cases hb : s.testBit k with
      | false =>
        rw [hb] at hba
        have hba : (bits BinOp.and IntKind.i64 (s : Int) (X : Int) == 0) = true := hba
        have HN : Hid (newTo B s (k + 1) = T) := by
          have : newTo B s (k + 1) = T := by
            rw [newTo, HT.out]
            unfold newQ
            rw [hb]
            simp
          exact this
        clear hb
        go_wp2
        exact ⟨⟨k + 1, by omega, by go_num, by rw [HN.out]⟩, by simp [intOf]; omega⟩
      | true =>
        rw [hb] at hba
        have hba : (bits BinOp.and IntKind.i64 (s : Int) (X : Int) == 0) = false := hba
        have hXs : X ≤ s := by
          have h1 : sub X s = true := by
            rw [sub_iff]; intro j hj
            rw [← HX.out, Nat.testBit_two_pow] at hj
            have : k = j := of_decide_eq_true hj
            rw [← this]; exact hb
          exact sub_le h1
        have hless := less_minus s k hb hs hlt
        rw [HX.out] at hless
        obtain ⟨y, hy⟩ : ∃ y, less s k = y := ⟨_, rfl⟩
        have HY := Lib.hid hy
        have hsx : (s : Int) - (X : Int) = (y : Int) := by omega
        have hy64 : y < 64 := by omega
        have HB := Lib.hid hb
        have hor : bits BinOp.or IntKind.i64 (T : Int) (X : Int) = ((T ||| X : Nat) : Int) := or_nat T X hT64 hX64
        have hor64 : T ||| X < 64 := Nat.or_lt_two_pow (n := 6) hT64 hX64
        have hor2 : bits BinOp.or IntKind.i64 ((T ||| X : Nat) : Int) (X : Int) = ((T ||| X : Nat) : Int) := by rw [or_nat _ X hor64 hX64, or_self2]
        obtain ⟨O, hO⟩ : ∃ O, T ||| X = O := ⟨_, rfl⟩
        have HO := Lib.hid hO
        rw [hO] at hor hor64 hor2
        clear hb hless hy hO
        go_wp2
        go_loop [5, 8] (fun v j => ∃ m : Nat, m ≤ l ∧ j = .int .i64 (m : Int) ∧ (inF (B.take m) y = true ∧ v = .int .i64 (O : Int) ∨ inF (B.take m) y = false ∧ v = .int .i64 (T : Int))) (fun _ j => l - (intOf j).toNat)
        case atStart => exact ⟨0, Nat.zero_le _, rfl, .inr ⟨rfl, rfl⟩⟩
        case round =>
          obtain ⟨m, hm, rfl, hv⟩ := hrel
          by_cases hml : m < l
          · obtain ⟨b, o, rfl, g⟩ := H.out m (by rw [HL.out]; exact hml)
            obtain ⟨z, hz, hz64⟩ := HS.out m (by rw [HL.out]; exact hml)
            have HIN : Hid (inF (B.take (m + 1)) y = (inF (B.take m) y || sub y z)) := by
              have : inF (B.take (m + 1)) y = (inF (B.take m) y || sub y z) := by
                rw [inF_take B m y (by rw [HL.out]; exact hml), hz]; rfl
              exact this
            rw [hz] at g
            have hand := and_sub3 z y hz64 hy64
            clear hz
            cases hq : sub y z with
            | true =>
              rw [hq] at hand
              have HI2 : Hid (inF (B.take (m + 1)) y = true) := by
                have : inF (B.take (m + 1)) y = true := by rw [HIN.out, hq, Bool.or_true]
                exact this
              clear hq
              rcases hv with ⟨hv1, rfl⟩ | ⟨hv1, rfl⟩
              · clear hv1
                go_wp2
                exact ⟨⟨m + 1, by omega, by go_num, .inl ⟨HI2.out, rfl⟩⟩, by simp [intOf]; omega⟩
              · clear hv1
                go_wp2
                exact ⟨⟨m + 1, by omega, by go_num, .inl ⟨HI2.out, rfl⟩⟩, by simp [intOf]; omega⟩
            | false =>
              rw [hq] at hand
              rcases hv with ⟨hv1, rfl⟩ | ⟨hv1, rfl⟩
              · have HI2 : Hid (inF (B.take (m + 1)) y = true) := by
                  have : inF (B.take (m + 1)) y = true := by rw [HIN.out, hq, hv1]; rfl
                  exact this
                clear hq hv1
                go_wp2
                exact ⟨⟨m + 1, by omega, by go_num, .inl ⟨HI2.out, rfl⟩⟩, by simp [intOf]; omega⟩
              · have HI2 : Hid (inF (B.take (m + 1)) y = false) := by
                  have : inF (B.take (m + 1)) y = false := by rw [HIN.out, hq, hv1]; rfl
                  exact this
                clear hq hv1
                go_wp2
                exact ⟨⟨m + 1, by omega, by go_num, .inr ⟨HI2.out, rfl⟩⟩, by simp [intOf]; omega⟩
          · have hme : B.take m = B := List.take_of_length_le (by rw [HL.out]; omega)
            rw [hme] at hv
            clear hme
            rcases hv with ⟨hv1, rfl⟩ | ⟨hv1, rfl⟩
            · have HN : Hid (newTo B s (k + 1) = O) := by
                have : newTo B s (k + 1) = O := by
                  rw [newTo, HT.out]
                  unfold newQ
                  rw [HB.out, HY.out, hv1, ← HO.out, ← HX.out]
                  rfl
                exact this
              clear hv1
              go_wp2
              exact ⟨⟨k + 1, by omega, by go_num, by rw [HN.out]⟩, by simp [intOf]; omega⟩
            · have HN : Hid (newTo B s (k + 1) = T) := by
                have : newTo B s (k + 1) = T := by
                  rw [newTo, HT.out]
                  unfold newQ
                  rw [HB.out, HY.out, hv1]
                  simp
                exact this
              clear hv1
              go_wp2
              exact ⟨⟨k + 1, by omega, by go_num, by rw [HN.out]⟩, by simp [intOf]; omega⟩
    · have E : Hid (newTo B s k = newN B s) := by
        have h6 : k = 6 := by omega
        have : newTo B s k = newN B s := by rw [h6]; rfl
        exact this
      go_wp2
      go_ret
      exact ⟨by rw [E.out]; rfl, rfl⟩

theorem l19New_b (a : Option Addr) (c : Nat) (B : List Int) (l : Nat) (hl : B.length = l) (hlen : l ≤ 1099511627776) (hS : FSets B) (s : Nat) (hs : s < 64) (r : Nat) (hr : newN B s = r) (w : World) (h : Ints w a B) :
    Calls Try.prog 89 #[.slice a l c, .int .i64 (s : Int)] w fun e w' => e = .returned (.int .i64 (r : Int)) ∧ w = w' := by
  subst hl hr; exact l19New_any a c B hlen hS s hs w h

theorem fits_nil (s : Nat) : fitsB [] s = true := rfl
theorem fits_take {B : List Int} {s r : Nat} (hs : s < 64) (hr : newN B s = r) : fitsB B s = B.all fun b => !sub r (b.toNat &&& s) := by
  rw [fits_each B hs, hr]

set_option maxRecDepth 100000 in
set_option maxHeartbeats 4000000 in
theorem l19Fits_any (a : Option Addr) (c : Nat) (B : List Int) (l : Nat) (hl : B.length = l) (hlen : l ≤ 1099511627776) (hS : FSets B) (s : Nat) (hs : s < 64) (q : Bool) (hq : fitsB B s = q) (w : World) (h : Ints w a B) :
    Calls Try.prog 84 #[.slice a l c, .int .i64 (s : Int)] w fun e w' => e = .returned (.bool q) ∧ w = w' := by
  have H := Lib.hid h
  have HS := Lib.hid hS
  have HL := Lib.hid hl
  have HQ := Lib.hid hq
  obtain ⟨r, hr⟩ : ∃ r, newN B s = r := ⟨_, rfl⟩
  have hr64 : r < 64 := by rw [← hr]; exact newN_lt B s
  have HR := Lib.hid hr
  have HFT : Hid (q = B.all fun b => !sub r (b.toNat &&& s)) := by
    have : q = B.all fun b => !sub r (b.toNat &&& s) := by rw [← hq]; exact fits_take hs hr
    exact this
  clear h hS hl hq hr
  by_cases h0 : l = 0
  · have hB : B = [] := List.eq_nil_of_length_eq_zero (by rw [HL.out]; exact h0)
    have hq1 : q = true := by rw [← HQ.out, hB]; rfl
    subst hq1
    have hd0 : ((l : Int) == 0) = true := by rw [beq_iff_eq]; omega
    clear hB
    go_enter Try.func84, Try.ntmps84
    go_wp2
    go_ret
    exact ⟨rfl, rfl⟩
  · have hd0 : ((l : Int) == 0) = false := by rw [beq_eq_false_iff_ne]; omega
    go_enter Try.func84, Try.ntmps84
    go_wp2_with fail
    refine (l19New_b _ _ B l HL.out hlen HS.out s hs r HR.out _ H.out).mono ?_
    rintro e w' ⟨rfl, rfl⟩
    go_wp2
    go_loop [6] (fun i => ∃ k : Nat, k ≤ l ∧ i = .int .i64 (k : Int) ∧ ((B.take k).all fun b => !sub r (b.toNat &&& s)) = true) (fun i => l - (intOf i).toNat)
    case atStart => exact ⟨0, Nat.zero_le _, rfl, rfl⟩
    case round =>
      obtain ⟨k, hk, rfl, hall⟩ := hrel
      have HALL := Lib.hid hall
      clear hall
      by_cases hlt : k < l
      · obtain ⟨b, o, rfl, g⟩ := H.out k (by rw [HL.out]; exact hlt)
        obtain ⟨z, hz, hz64⟩ := HS.out k (by rw [HL.out]; exact hlt)
        have HZ := Lib.hid hz
        rw [hz] at g
        have hand : bits BinOp.and IntKind.i64 (z : Int) (s : Int) = ((z &&& s : Nat) : Int) := and_nat z s hz64 hs
        have hzs : z &&& s < 64 := Nat.lt_of_le_of_lt Nat.and_le_left hz64
        obtain ⟨y, hy⟩ : ∃ y, z &&& s = y := ⟨_, rfl⟩
        have HY := Lib.hid hy
        rw [hy] at hand hzs
        have hcmp := and_sub3 y r hzs hr64
        have HNX : Hid (B.take (k + 1) = B.take k ++ [(z : Int)]) := by
          have : B.take (k + 1) = B.take k ++ [(z : Int)] := by rw [take_nx B k (by rw [HL.out]; exact hlt), HZ.out]
          exact this
        clear hz hy
        cases hc : sub r y with
        | true =>
          rw [hc] at hcmp
          have hq0 : q = false := by
            rw [HFT.out, Bool.eq_false_iff]
            intro e
            rw [List.all_eq_true] at e
            have hm : (z : Int) ∈ B := by rw [← HZ.out]; exact (by rw [List.getD, List.getElem?_eq_getElem (by rw [HL.out]; exact hlt)]; exact List.getElem_mem _)
            have := e _ hm
            rw [Int.toNat_natCast, HY.out, hc] at this
            cases this
          subst hq0
          clear hc
          go_wp2
          go_ret
          exact ⟨rfl, rfl⟩
        | false =>
          rw [hc] at hcmp
          have HA2 : Hid (((B.take (k + 1)).all fun b => !sub r (b.toNat &&& s)) = true) := by
            have : ((B.take (k + 1)).all fun b => !sub r (b.toNat &&& s)) = true := by
              rw [HNX.out, List.all_append, HALL.out]
              simp only [List.all_cons, List.all_nil, Int.toNat_natCast, Bool.and_true, Bool.true_and]
              rw [HY.out, hc]; rfl
            exact this
          clear hc
          go_wp2
          exact ⟨⟨k + 1, by omega, by go_num, HA2.out⟩, by simp [intOf]; omega⟩
      · have hq1 : q = true := by
          have hme : B.take k = B := List.take_of_length_le (by rw [HL.out]; omega)
          have := HALL.out
          rw [hme] at this
          rw [HFT.out]; exact this
        subst hq1
        go_wp2
        go_ret
        exact ⟨rfl, rfl⟩

end Go.Proofs.Ytmonaiojejbhkaa
