/-
  TEXTS of one claim, put together: WCx6, WSz, Has, Cnt.
-/
import Derived.Test.YthobncbggaggjaaJg9
import Derived.Test.YthobncbggaggjaaJg6
import Derived.Test.YthobncbggaggjaaJg2
/-! WALKS: complexes made of sets, by impl and by spec; the full complex and its border. -/

namespace Go.Proofs.Ythobncbggaggjaa
open Go.RowKit
open Sets

/-- Out of what is owned: the slice, its room, its block. -/
theorem OwnInts.atc {w : World} {base : Nat} {v : Value} {xs : List Int} (h : OwnInts w base v xs) : ∃ a c g, v = .slice a xs.length c ∧ xs.length ≤ c ∧ base ≤ g ∧ IntsAt w g a xs := by
  unfold OwnInts at h
  rcases h.2 with ⟨hv, h0⟩ | ⟨g, cap, cur, hv, _, _, hcap, _⟩
  · exact ⟨none, 0, base, by rw [hv, h0], by omega, Nat.le_refl _, fun j hj => by omega⟩
  · subst hv
    obtain ⟨h1, h2⟩ := World.ownsRow.lt h g rfl
    refine ⟨some ⟨g, 0, none⟩, cap, g, rfl, hcap, h1, fun j hj => ⟨rfl, h2, ?_, World.ownsRow.frozenAt h j⟩⟩
    rw [World.ownsRow.cellAt h j (by omega), ints_cell xs j hj]

theorem OwnInts.set {w : World} {base : Nat} {v : Value} {xs : List Int} (h : OwnInts w base v xs) (b o : Nat) (z : Value) (hb : b < base) : OwnInts (w.setCell ⟨b, o, none⟩ z) base v xs := by
  unfold OwnInts at *
  refine ⟨h.1, ?_⟩
  rcases h.2 with h0 | ⟨g, cap, cur, hv, h1, hh, hr⟩
  · exact .inl h0
  · refine .inr ⟨g, cap, cur, hv, h1, ?_, hr⟩
    simp only [World.setCell, Array.getElem?_modify]
    rw [if_neg (by omega)]
    exact hh

/-- Are they at most 64 sets of n points? -/
def setsOf (n : Int) (xs : List Int) : Bool := inB 1 6 n && decide (xs.length ≤ 64) && xs.all (setB n)
/-- MakeComplex. -/
def made (n : Int) (xs : List Int) : Option (Int × List Int) := if setsOf n xs = true then some (n, maximal xs) else none
/-- The points and the facets of a complex that may not be there. -/
def oN (o : Option (Int × List Int)) : Int := (o.map (·.1)).getD 0
def oL (o : Option (Int × List Int)) : List Int := (o.map (·.2)).getD []
theorem made_yes {n : Int} {xs : List Int} (h : setsOf n xs = true) : made n xs = some (n, maximal xs) := by unfold made; rw [if_pos h]
theorem made_no {n : Int} {xs : List Int} (h : setsOf n xs = false) : made n xs = none := by unfold made; rw [if_neg (by rw [h]; simp)]
theorem setsOf_iff (n : Int) (xs : List Int) : setsOf n xs = true ↔ inB 1 6 n = true ∧ xs.length ≤ 64 ∧ ∀ x, x ∈ xs → setB n x = true := by
  unfold setsOf; rw [Bool.and_eq_true, Bool.and_eq_true, decide_eq_true_iff, List.all_eq_true, and_assoc]
theorem setsOf_ok {n : Int} {xs : List Int} (h : setsOf n xs = true) : allOk xs = true := by
  unfold allOk; rw [List.all_eq_true]; exact fun x hx => setB_ok (((setsOf_iff n xs).1 h).2.2 x hx)
theorem made_isC {n : Int} {xs : List Int} (h : setsOf n xs = true) : isC n (maximal xs) = true := by
  have h' := (setsOf_iff n xs).1 h
  have hn := (inB_iff _ _ _).1 h'.1
  exact isC_maximal n xs hn.1 hn.2 h'.2.2
theorem all_any_not (xs : List Int) (q : Int → Bool) : xs.all q = !(xs.any fun x => !q x) := by
  rw [List.not_any_eq_all_not]; simp

set_option maxRecDepth 100000 in
theorem areSets1_asks (n : Int) (xs : List Int) (B : Nat) (w : World) (hB : B < w.heap.size) (hc : w.cell? ⟨B, 0, none⟩ = some (.int .i64 n)) :
    Asks 89 #[.pointer (some ⟨B, 0, none⟩)] (fun x => !setB n x) xs w := by
  intro W j hj hb
  generalize xs.getD j 0 = f at *
  have d1 : W.cell? ⟨B, 0, none⟩ = some (.int .i64 n) := (hb.cell (p := ⟨B, 0, none⟩) hB).trans hc
  show Calls Try.prog 89 #[.int .i64 f, .pointer (some ⟨B, 0, none⟩)] W fun e w' => e = .returned (.bool (!setB n f)) ∧ ∃ m, w' = W.drewN m
  have hcall := implIsSet_any n f W
  generalize setB n f = b at *
  have HC := Lib.hid hcall
  clear hc hb hcall
  go_enter Try.func89, Try.ntmps89
  go_wp2_with fail
  refine HC.out.mono ?_
  rintro e w' ⟨rfl, rfl⟩
  go_wp2
  go_ret
  exact ⟨rfl, 0, rfl⟩

set_option maxRecDepth 100000 in
set_option maxHeartbeats 2000000 in
theorem areSets_any (n : Int) (a : Option Addr) (c : Nat) (xs : List Int) (hlen : xs.length ≤ 1099511627776) (b : Bool) (hb : setsOf n xs = b) (w : World) (h : Ints w a xs) :
    Calls Try.prog 72 #[.int .i64 n, .slice a xs.length c] w fun e w' => e = .returned (.bool b) ∧ Below w.heap.size w w' := by
  have hb0 : Below w.heap.size w (w.alloc (Obj.cells #[Value.int IntKind.i64 n] 3)) := (Below.refl _ _).alloc (Nat.le_refl _) _
  cases hn : inB 1 6 n with
  | false =>
    have HN := Lib.hid hn
    have HB0 := Lib.hid hb0
    obtain rfl : b = false := by rw [← hb]; unfold setsOf; rw [hn]; rfl
    clear hn hb hb0 h
    go_enter Try.func72, Try.ntmps72
    go_wp2_with fail
    refine (pointCount_b n false HN.out _).mono ?_
    rintro e w' ⟨rfl, rfl⟩
    go_wp2
    go_ret
    exact ⟨rfl, HB0.out⟩
  | true =>
    have HN := Lib.hid hn
    by_cases hl : 64 < xs.length
    · have HB0 := Lib.hid hb0
      obtain rfl : b = false := by
        rw [← hb]; unfold setsOf
        rw [show decide (xs.length ≤ 64) = false by simp; omega, Bool.and_false]; rfl
      clear hn hb hb0 h
      go_enter Try.func72, Try.ntmps72
      go_wp2_with fail
      refine (pointCount_b n true HN.out _).mono ?_
      rintro e w' ⟨rfl, rfl⟩
      go_wp2
      go_ret
      exact ⟨rfl, HB0.out⟩
    · have hany : (xs.any fun x => !setB n x) = !b := by
        rw [← hb]; unfold setsOf
        rw [hn, show decide (xs.length ≤ 64) = true by simp; omega, all_any_not]; simp
      have eg : ∀ args w, (callFunc 89 args).run Try.prog w = .ok (.enter 89 args) w := enters_of Try.func89 (by kernel_rfl) rfl
      have hc := contains_bel 89 #[.pointer (some ⟨w.heap.size, 0, none⟩)] (fun x => !setB n x) (!b) a c xs hany _ eg (areSets1_asks n xs w.heap.size (w.alloc (Obj.cells #[Value.int IntKind.i64 n] 3)) (by simp) (by simp)) hlen (h.keeps hb0)
      have HC := Lib.hid hc
      have HB0 := Lib.hid hb0
      clear hn hb hb0 h hc eg hany
      go_enter Try.func72, Try.ntmps72
      go_wp2_with fail
      refine (pointCount_b n true HN.out _).mono ?_
      rintro e w' ⟨rfl, rfl⟩
      go_wp2_with fail
      refine HC.out.mono ?_
      rintro e w1 ⟨rfl, hb1⟩
      go_wp2
      go_ret
      exact ⟨by simp, HB0.out.trans (hb1.mono (by simp))⟩

set_option maxRecDepth 100000 in
set_option maxHeartbeats 2000000 in
theorem implMake_any (n : Int) (a : Option Addr) (c : Nat) (xs : List Int) (hlen : xs.length ≤ 1099511627776) (w : World) (h : Ints w a xs) :
    Calls Try.prog 44 #[.int .i64 n, .slice a xs.length c] w fun e w' =>
      ∃ v, e = .returned (.tuple #[cx (oN (made n xs)) v, .bool (made n xs).isSome]) ∧ OwnInts w' w.heap.size v (oL (made n xs)) ∧ Below w.heap.size w w' := by
  have hb0 : Below w.heap.size w (w.alloc (Obj.cells #[Value.int IntKind.i64 0, Value.slice none 0 0] 26)) := (Below.refl _ _).alloc (Nat.le_refl _) _
  have htwo : Two (w.alloc (Obj.cells #[Value.int IntKind.i64 0, Value.slice none 0 0] 26)) w.heap.size (.int .i64 0) (.slice none 0 0) := Two.new _ _ _ _
  have H := Lib.hid (h.keeps hb0)
  have HB0 := Lib.hid hb0
  have HT := Lib.hid htwo
  clear h hb0 htwo
  cases hs : setsOf n xs with
  | false =>
    have HS := Lib.hid hs
    rw [made_no hs]
    clear hs
    go_enter Try.func44, Try.ntmps44
    go_wp2_with fail
    refine (areSets_any n _ _ xs hlen false HS.out _ H.out).mono ?_
    rintro e w1 ⟨rfl, hb1⟩
    obtain ⟨t0, t1, t2, t3, t4⟩ := HT.out.keeps hb1
    have HB1 : Hid (Below w.heap.size w w1) := HB0.out.trans (hb1.mono (by simp))
    clear hb1
    go_wp2
    refine ret_cx2 w.heap.size rfl rfl rfl (x := .int .i64 0) (y := .slice none 0 0) (by go_simp) (by go_simp) rfl ?_
    exact ⟨_, rfl, OwnInts.nil _ _, (HB1.out.setCell (by simp) _).setCell (by simp) _⟩
  | true =>
    have HS := Lib.hid hs
    rw [made_yes hs]
    clear hs
    go_enter Try.func44, Try.ntmps44
    go_wp2_with fail
    refine (areSets_any n _ _ xs hlen true HS.out _ H.out).mono ?_
    rintro e w1 ⟨rfl, hb1⟩
    have HB1 : Hid (Below w.heap.size w w1) := HB0.out.trans (hb1.mono (by simp))
    have HT1 := Lib.hid (HT.out.keeps hb1)
    have H1 := Lib.hid (H.out.keeps hb1)
    clear hb1
    go_wp2_with fail
    refine (implMaximal_any _ _ xs hlen _ H1.out).mono ?_
    rintro e w2 ⟨v, rfl, hO, hb2⟩
    have hsz1 := HT1.out.1
    have hsz2 := hb2.size
    have HB2 : Hid (Below w.heap.size w w2) := HB1.out.trans (hb2.mono (by omega))
    obtain ⟨a2, c2, g2, rfl, _⟩ := hO.atc
    have HO := Lib.hid hO
    obtain ⟨t0, t1, t2, t3, t4⟩ := HT1.out.keeps hb2
    clear hb2 hO
    go_wp2
    refine ret_cx2 w.heap.size rfl rfl rfl (x := .int .i64 n) (y := .slice a2 (maximal xs).length c2) (by go_simp) (by go_simp) rfl ?_
    exact ⟨_, rfl, (OwnInts.set (OwnInts.set HO.out _ _ _ hsz1) _ _ _ hsz1).lower (by omega), (HB2.out.setCell (by simp) _).setCell (by simp) _⟩

set_option maxRecDepth 100000 in
set_option maxHeartbeats 2000000 in
theorem l3Make_any (n : Int) (a : Option Addr) (c : Nat) (xs : List Int) (hok : allOk xs = true) (hlen : xs.length ≤ 1099511627776) (w : World) (h : Ints w a xs) :
    Calls Try.prog 42 #[.int .i64 n, .slice a xs.length c] w fun e w' =>
      ∃ v, e = .returned (cx n v) ∧ OwnInts w' w.heap.size v (maximal xs) ∧ Below w.heap.size w w' := by
  have hb0 : Below w.heap.size w (w.alloc (Obj.cells #[Value.int IntKind.i64 0, Value.slice none 0 0] 26)) := (Below.refl _ _).alloc (Nat.le_refl _) _
  have htwo : Two (w.alloc (Obj.cells #[Value.int IntKind.i64 0, Value.slice none 0 0] 26)) w.heap.size (.int .i64 0) (.slice none 0 0) := Two.new _ _ _ _
  have H := Lib.hid (h.keeps hb0)
  have HB0 := Lib.hid hb0
  have HT := Lib.hid htwo
  have HOK := Lib.hid hok
  clear h hb0 htwo hok
  go_enter Try.func42, Try.ntmps42
  go_wp2_with fail
  refine (l2Extreme_true _ _ xs hlen HOK.out _ H.out).mono ?_
  rintro e w2 ⟨v, rfl, hO, hb2⟩
  have hsz1 := HT.out.1
  have hsz2 := hb2.size
  have HB2 : Hid (Below w.heap.size w w2) := HB0.out.trans (hb2.mono (by omega))
  have hO' : OwnInts w2 (w.heap.size + 1) v (maximal xs) := by
    have h2 := hO
    simp only [World.size_alloc] at h2
    exact h2
  obtain ⟨a2, c2, g2, rfl, _⟩ := hO'.atc
  have HO := Lib.hid hO'
  obtain ⟨t0, t1, t2, t3, t4⟩ := HT.out.keeps hb2
  clear hb2 hO hO'
  go_wp2
  refine ret_cx w.heap.size rfl rfl (x := .int .i64 n) (y := .slice a2 (maximal xs).length c2) (by go_simp) (by go_simp) rfl ?_
  exact ⟨_, rfl, (OwnInts.set (OwnInts.set HO.out _ _ _ (by omega)) _ _ _ (by omega)).lower (by omega), (HB2.out.setCell (by simp) _).setCell (by simp) _⟩

end Go.Proofs.Ythobncbggaggjaa

/-! WALKS: the law's own bound on the sizes of complexes. -/

namespace Go.Proofs.Ythobncbggaggjaa
open Go.RowKit

/-- What another block's writes leave. -/
theorem Two.far {w w' : World} {b g : Nat} {x y : Value} (h : Two w b x y) (hg : w.grownBy w' (some g)) (hne : b ≠ g) : Two w' b x y := by
  obtain ⟨h1, h2, h3, h4, h5⟩ := h
  have hb := hg.block b h1 (by simpa using hne)
  have := hg.size
  exact ⟨by omega, by rw [World.cell?_of_block (w := w) (w' := w') (a := ⟨b, 0, none⟩) hb]; exact h2, by rw [World.cell?_of_block (w := w) (w' := w') (a := ⟨b, 1, none⟩) hb]; exact h3,
    by rw [World.frozen?_of_block (w := w) (w' := w') (a := ⟨b, 0, none⟩) hb]; exact h4, by rw [World.frozen?_of_block (w := w) (w' := w') (a := ⟨b, 1, none⟩) hb]; exact h5⟩

theorem bdrew1 (w : World) : Below w.heap.size w w.drew := (Below.refl _ _).drew
theorem Two.drew {w : World} {b : Nat} {x y : Value} (h : Two w b x y) : Two w.drew b x y := h
theorem Ints.drew {w : World} {a : Option Addr} {xs : List Int} (h : Ints w a xs) : Ints w.drew a xs := h
theorem below_fresh {w wA : World} (h : Below w.drew.heap.size w.drew wA) : Below w.heap.size w wA := (bdrew1 w).trans h
/-- Out of what is owned: the slice, its room, and a block that is no new one. -/
theorem OwnInts.ata {w : World} {base : Nat} {v : Value} {xs : List Int} (h : OwnInts w base v xs) (hb : base ≤ w.heap.size) :
    ∃ a c g, v = .slice a xs.length c ∧ xs.length ≤ c ∧ base ≤ g ∧ IntsAt w g a xs ∧ (g < w.heap.size ∨ w.heap.size + 5 ≤ g) := by
  unfold OwnInts at h
  rcases h.2 with ⟨hv, h0⟩ | ⟨g, cap, cur, hv, _, _, hcap, _⟩
  · exact ⟨none, 0, w.heap.size + 5, by rw [hv, h0], by omega, by omega, fun j hj => by omega, Or.inr (Nat.le_refl _)⟩
  · subst hv
    obtain ⟨h1, h2⟩ := World.ownsRow.lt h g rfl
    refine ⟨some ⟨g, 0, none⟩, cap, g, rfl, hcap, h1, fun j hj => ⟨rfl, h2, ?_, World.ownsRow.frozenAt h j⟩, Or.inl h2⟩
    rw [World.ownsRow.cellAt h j (by omega), ints_cell xs j hj]

theorem szCx_ok (n : Int) (a : Option Addr) (c : Nat) (xs : List Int) (l : Int) (left : Nat) (hl : l = (left : Int)) (h1 : left ≤ 1048576) (h : xs.length ≤ left) (w : World) :
    Calls Try.prog 34 #[cx n (.slice a xs.length c), .int .i64 l] w fun e w' => e = .returned (.int .i64 ((left - xs.length : Nat) : Int)) ∧ Below w.heap.size w w' := by
  subst hl
  refine (szCx_any n a c xs left h1 (by omega) w).mono ?_
  rintro e w' ⟨rfl, hb⟩
  rw [if_pos h, show (left : Int) - xs.length = ((left - xs.length : Nat) : Int) by omega]
  exact ⟨rfl, hb⟩

theorem szCx_big (n : Int) (a : Option Addr) (c : Nat) (xs : List Int) (hlen : xs.length ≤ 9223372036854775807) (l : Int) (left : Nat) (hl : l = (left : Int)) (h1 : left ≤ 1048576) (h : ¬ xs.length ≤ left) (w : World) :
    Calls Try.prog 34 #[cx n (.slice a xs.length c), .int .i64 l] w fun e w' => e = .returned (.int .i64 (-1)) ∧ Below w.heap.size w w' := by
  subst hl
  refine (szCx_any n a c xs left h1 hlen w).mono ?_
  rintro e w' ⟨rfl, hb⟩
  rw [if_neg h]
  exact ⟨rfl, hb⟩

end Go.Proofs.Ythobncbggaggjaa

/-! MEMORY: a slice in a block of its own, whatever the block's type. -/

namespace Go.Proofs.Ythobncbggaggjaa
open Go.RowKit

/-! ### a slice in a block of its own, whatever the block -/

/-- A slice value that reads as xs, in a block from base on; its room. -/
def HasInts (w : World) (base : Nat) (v : Value) (xs : List Int) : Prop :=
  ∃ a c g, v = .slice a xs.length c ∧ xs.length ≤ c ∧ base ≤ g ∧ IntsAt w g a xs ∧ (g < w.heap.size ∨ w.heap.size + 5 ≤ g)
theorem OwnInts.has {w : World} {base : Nat} {v : Value} {xs : List Int} (h : OwnInts w base v xs) (hb : base ≤ w.heap.size) : HasInts w base v xs := OwnInts.ata h hb
theorem HasInts.ata {w : World} {base : Nat} {v : Value} {xs : List Int} (h : HasInts w base v xs) (_ : base ≤ w.heap.size) :
    ∃ a c g, v = .slice a xs.length c ∧ xs.length ≤ c ∧ base ≤ g ∧ IntsAt w g a xs ∧ (g < w.heap.size ∨ w.heap.size + 5 ≤ g) := h
theorem HasInts.lower {w : World} {base b : Nat} {v : Value} {xs : List Int} (h : HasInts w base v xs) (hb : b ≤ base) : HasInts w b v xs := by
  obtain ⟨a, c, g, h1, h2, h3, h4⟩ := h
  exact ⟨a, c, g, h1, h2, by omega, h4⟩
theorem HasInts.nil (w : World) (base : Nat) (h : base ≤ w.heap.size) : HasInts w base (.slice none 0 0) [] :=
  ⟨none, 0, w.heap.size + 5, rfl, Nat.le_refl _, by omega, fun j hj => absurd hj (Nat.not_lt_zero _), Or.inr (Nat.le_refl _)⟩

theorem own_has {f : FuncId} {args : Array Value} {w : World} {L : List Int} (h : Calls Try.prog f args w fun e w' => ∃ v, e = .returned v ∧ OwnInts w' w.heap.size v L ∧ Below w.heap.size w w') :
    Calls Try.prog f args w fun e w' => ∃ v, e = .returned v ∧ HasInts w' w.heap.size v L ∧ Below w.heap.size w w' :=
  h.mono fun _ _ ⟨v, he, ho, hb⟩ => ⟨v, he, ho.has hb.size, hb⟩

end Go.Proofs.Ythobncbggaggjaa

/-! COUNTS OF FACES, of no program. -/

namespace Go.Proofs.Ythobncbggaggjaa
open Sets

/-- How many of a list have so many points. -/
def cnt (k : Nat) (L : List Int) : Nat := L.countP fun x => pc x.toNat == k
theorem cnt_nil (k : Nat) : cnt k [] = 0 := rfl
theorem cnt_snoc (k : Nat) (L : List Int) (x : Int) : cnt k (L ++ [x]) = cnt k L + if pc x.toNat = k then 1 else 0 := by
  unfold cnt
  rw [List.countP_append]
  by_cases h : pc x.toNat = k <;> simp [h]
theorem cnt_le (k : Nat) (L : List Int) : cnt k L ≤ L.length := List.countP_le_length
theorem take_nx (L : List Int) (k : Nat) (h : k < L.length) : L.take (k + 1) = L.take k ++ [L.getD k 0] := by
  rw [List.take_add_one, List.getD, List.getElem?_eq_getElem h]; rfl
theorem cnt_take (k : Nat) (L : List Int) (j : Nat) (h : j < L.length) : cnt k (L.take (j + 1)) = cnt k (L.take j) + if pc (L.getD j 0).toNat = k then 1 else 0 := by
  rw [take_nx L j h, cnt_snoc]
/-- The counts of the sizes from 0 to 6. -/
def cnts (L : List Int) : List Int := (List.range 7).map fun k => (cnt k L : Int)
theorem cnts_length (L : List Int) : (cnts L).length = 7 := by simp [cnts]
theorem cnts_at (L : List Int) (k : Nat) (h : k < 7) : (cnts L).getD k 0 = (cnt k L : Int) := by
  simp [cnts, List.getD, h]

/-- One more than the greatest size. -/
def top (L : List Int) : Nat := L.foldl (fun m x => max m (pc x.toNat + 1)) 0
theorem top_snoc (L : List Int) (x : Int) : top (L ++ [x]) = max (top L) (pc x.toNat + 1) := by
  unfold top; rw [List.foldl_append]; rfl
theorem top_take (L : List Int) (j : Nat) (h : j < L.length) : top (L.take (j + 1)) = max (top (L.take j)) (pc (L.getD j 0).toNat + 1) := by
  rw [take_nx L j h, top_snoc]
theorem top_le (L : List Int) : top L ≤ 7 := by
  have h : ∀ (L : List Int) (m : Nat), m ≤ 7 → L.foldl (fun m x => max m (pc x.toNat + 1)) m ≤ 7 := by
    intro L
    induction L with
    | nil => intro m h; exact h
    | cons x L ih => intro m h; exact ih _ (by have := pc_le x.toNat; dsimp only; omega)
  exact h L 0 (by omega)
theorem top_ge (L : List Int) (x : Int) (hx : x ∈ L) : pc x.toNat + 1 ≤ top L := by
  have h2 : ∀ (L : List Int) (m : Nat), m ≤ L.foldl (fun m x => max m (pc x.toNat + 1)) m := by
    intro L
    induction L with
    | nil => intro m; exact Nat.le_refl _
    | cons x L ih => intro m; exact Nat.le_trans (Nat.le_max_left _ _) (ih _)
  have h : ∀ (L : List Int) (m : Nat), x ∈ L → pc x.toNat + 1 ≤ L.foldl (fun m x => max m (pc x.toNat + 1)) m := by
    intro L
    induction L with
    | nil => intro m hx; simp at hx
    | cons y L ih =>
      intro m hx
      rcases List.mem_cons.1 hx with rfl | hx
      · exact Nat.le_trans (Nat.le_max_right _ _) (h2 L _)
      · exact ih _ hx
  exact h L 0 hx
theorem top_le_of (L : List Int) (m : Nat) (h : ∀ x, x ∈ L → pc x.toNat + 1 ≤ m) : top L ≤ m := by
  have h1 : ∀ (L : List Int) (n : Nat), n ≤ m → (∀ x, x ∈ L → pc x.toNat + 1 ≤ m) → L.foldl (fun m x => max m (pc x.toNat + 1)) n ≤ m := by
    intro L
    induction L with
    | nil => intro n h _; exact h
    | cons x L ih => intro n h k; exact ih _ (by have := k x (List.mem_cons_self ..); dsimp only; omega) (fun y hy => k y (List.mem_cons_of_mem _ hy))
  exact h1 L 0 (by omega) h

/-- Counts up to the greatest size. -/
def counts (L : List Int) : List Int := (cnts L).take (top L)
theorem counts_length (L : List Int) : (counts L).length = top L := by
  unfold counts; rw [List.length_take, cnts_length]; have := top_le L; omega
theorem counts_at (L : List Int) (k : Nat) (h : k < top L) : (counts L).getD k 0 = (cnt k L : Int) := by
  have := top_le L
  rw [← cnts_at L k (by omega)]
  unfold counts
  rw [List.getD, List.getElem?_take_of_lt h, List.getD]
theorem counts_nil : counts [] = [] := rfl
theorem ge_top (L : List Int) (k : Nat) (h : top L ≤ k) : cnt k L = 0 := by
  unfold cnt
  rw [List.countP_eq_zero]
  intro x hx e
  have := top_ge L x hx
  simp at e
  omega

/-- DimOf. -/
def dimZ (n : Int) (xs : List Int) : Int := if isC n xs = true ∧ xs ≠ [] then (pc (xs.getD (xs.length - 1) 0).toNat : Int) - 1 else -2
theorem dimZ_yes {n : Int} {xs : List Int} (h : isC n xs = true) (h0 : 0 < xs.length) : dimZ n xs = (pc (xs.getD (xs.length - 1) 0).toNat : Int) - 1 := by
  unfold dimZ; rw [if_pos ⟨h, fun e => by rw [e] at h0; simp at h0⟩]
theorem dimZ_no {n : Int} {xs : List Int} (h : isC n xs = false) : dimZ n xs = -2 := by
  unfold dimZ; rw [if_neg (by rw [h]; simp)]
theorem dimZ_nil (n : Int) : dimZ n [] = -2 := by unfold dimZ; rw [if_neg (by simp)]

/-- FacesOfSize. -/
def sized (k : Int) (L : List Int) : List Int := L.filter fun x => (pc x.toNat : Int) == k
theorem sized_length (k : Int) (L : List Int) : (sized k L).length ≤ L.length := List.length_filter_le _ _
theorem sized_cnt (k : Nat) (L : List Int) : (sized (k : Int) L).length = cnt k L := by
  unfold sized cnt
  rw [List.countP_eq_length_filter]
  congr 1
  apply List.filter_congr
  intro x _
  rw [Bool.eq_iff_iff, beq_iff_eq, beq_iff_eq]; omega
theorem sized_hit (k : Int) (L : List Int) (j : Nat) (h : j < L.length) (e : (pc (L.getD j 0).toNat : Int) = k) : sized k (L.take (j + 1)) = sized k (L.take j) ++ [L.getD j 0] := by
  rw [take_nx L j h]; unfold sized; rw [List.filter_append]; generalize L.getD j 0 = x at e ⊢; simp [e]
theorem sized_miss (k : Int) (L : List Int) (j : Nat) (h : j < L.length) (e : (pc (L.getD j 0).toNat : Int) ≠ k) : sized k (L.take (j + 1)) = sized k (L.take j) := by
  rw [take_nx L j h]; unfold sized; rw [List.filter_append]; generalize L.getD j 0 = x at e ⊢; simp [e]

/-- EulerOf. -/
def eul (L : List Int) : Int := -(cnt 0 L : Int) + cnt 1 L - cnt 2 L + cnt 3 L - cnt 4 L + cnt 5 L - cnt 6 L
theorem eul_nil : eul [] = 0 := rfl
theorem eul_snoc (L : List Int) (x : Int) : eul (L ++ [x]) = eul L + (2 * ((pc x.toNat % 2 : Nat) : Int) - 1) := by
  unfold eul
  simp only [cnt_snoc]
  have h := pc_le x.toNat
  generalize pc x.toNat = p at h
  rcases (by omega : p = 0 ∨ p = 1 ∨ p = 2 ∨ p = 3 ∨ p = 4 ∨ p = 5 ∨ p = 6) with rfl | rfl | rfl | rfl | rfl | rfl | rfl <;> simp <;> omega
theorem eul_take (L : List Int) (j : Nat) (h : j < L.length) : eul (L.take (j + 1)) = eul (L.take j) + (2 * ((pc (L.getD j 0).toNat % 2 : Nat) : Int) - 1) := by
  rw [take_nx L j h, eul_snoc]
theorem eul_bound (L : List Int) : -(L.length : Int) * 7 ≤ eul L ∧ eul L ≤ (L.length : Int) * 7 := by
  unfold eul
  have h0 := cnt_le 0 L; have h1 := cnt_le 1 L; have h2 := cnt_le 2 L; have h3 := cnt_le 3 L; have h4 := cnt_le 4 L; have h5 := cnt_le 5 L; have h6 := cnt_le 6 L
  omega

/-- All facets have one size. -/
def evenB (xs : List Int) : Bool := xs.all fun x => pc x.toNat == pc (xs.getD 0 0).toNat
/-- IsPure. -/
def pureB (n : Int) (xs : List Int) : Bool := isC n xs && evenB xs
theorem even_no {xs : List Int} {k : Nat} (hk : k < xs.length) (h : pc (xs.getD k 0).toNat ≠ pc (xs.getD 0 0).toNat) : evenB xs = false := by
  rw [Bool.eq_false_iff]; intro e
  unfold evenB at e
  have := List.all_eq_true.1 e (xs.getD k 0) (by rw [List.getD, List.getElem?_eq_getElem hk]; exact List.getElem_mem hk)
  rw [beq_iff_eq] at this
  exact h this
theorem even_yes {xs : List Int} (h : ∀ j, j < xs.length → pc (xs.getD j 0).toNat = pc (xs.getD 0 0).toNat) : evenB xs = true := by
  unfold evenB; rw [List.all_eq_true]; intro x hx
  obtain ⟨j, hj, rfl⟩ := List.mem_iff_getElem.1 hx
  have := h j hj
  rw [List.getD, List.getElem?_eq_getElem hj] at this
  rw [beq_iff_eq]; exact this
theorem even_at {xs : List Int} (h : evenB xs = true) (x : Int) (hx : x ∈ xs) : pc x.toNat = pc (xs.getD 0 0).toNat := by
  unfold evenB at h
  have := List.all_eq_true.1 h x hx
  rwa [beq_iff_eq] at this

/-- What IsPure compares: as many facets as there are, at every size that there is. -/
def ones (xs : List Int) (k : Nat) : List Int := (List.range 7).map fun s => if cnt s (xs.take k) = 0 then 0 else (xs.length : Int)
theorem ones_length (xs : List Int) (k : Nat) : (ones xs k).length = 7 := by simp [ones]
theorem ones_at (xs : List Int) (k s : Nat) (h : s < 7) : (ones xs k).getD s 0 = if cnt s (xs.take k) = 0 then 0 else (xs.length : Int) := by
  simp [ones, List.getD, h]
theorem cnts_ones (xs : List Int) : (cnts xs == ones xs xs.length) = evenB xs := by
  rw [Bool.eq_iff_iff, beq_iff_eq]
  constructor
  · intro h
    apply even_yes
    intro j hj
    have h0 : 0 < xs.length := by omega
    have hm : ∀ i, i < xs.length → cnt (pc (xs.getD i 0).toNat) xs = xs.length := by
      intro i hi
      have hp := pc_le (xs.getD i 0).toNat
      have hmem : xs.getD i 0 ∈ xs := by rw [List.getD, List.getElem?_eq_getElem hi]; exact List.getElem_mem hi
      generalize xs.getD i 0 = x at hp hmem ⊢
      have e := congrArg (fun l => l.getD (pc x.toNat) 0) h
      have e : (cnts xs).getD (pc x.toNat) 0 = (ones xs xs.length).getD (pc x.toNat) 0 := e
      rw [cnts_at _ _ (by omega), ones_at _ _ _ (by omega), List.take_length] at e
      have hne : cnt (pc x.toNat) xs ≠ 0 := by
        intro e0
        unfold cnt at e0
        rw [List.countP_eq_zero] at e0
        exact e0 x hmem (by simp)
      rw [if_neg hne] at e
      omega
    have h1 := hm 0 h0
    unfold cnt at h1
    rw [List.countP_eq_length] at h1
    have := h1 (xs.getD j 0) (by rw [List.getD, List.getElem?_eq_getElem hj]; exact List.getElem_mem hj)
    rwa [beq_iff_eq] at this
  · intro h
    unfold cnts ones
    rw [List.take_length]
    apply List.map_congr_left
    intro s _
    by_cases e : cnt s xs = 0
    · rw [if_pos e, e]; rfl
    · rw [if_neg e]
      have : cnt s xs = xs.length := by
        unfold cnt at e ⊢
        rw [List.countP_eq_length]
        obtain ⟨x, hx, hs⟩ := List.countP_pos_iff.1 (Nat.pos_of_ne_zero e)
        rw [beq_iff_eq] at hs
        intro y hy
        rw [beq_iff_eq, even_at h y hy, ← even_at h x hx, hs]
      rw [this]

/-- The points of a list's sets. -/
def orN (xs : List Int) : Nat := xs.foldl (fun a x => a ||| x.toNat) 0
theorem orN_take (L : List Int) (j : Nat) (h : j < L.length) : orN (L.take (j + 1)) = orN (L.take j) ||| (L.getD j 0).toNat := by
  rw [take_nx L j h]; unfold orN; rw [List.foldl_append]; rfl
theorem orN_lt (xs : List Int) (h : allOk xs = true) : orN xs < 64 := by
  have h1 : ∀ (xs : List Int) (a : Nat), a < 64 → allOk xs = true → xs.foldl (fun a x => a ||| x.toNat) a < 64 := by
    intro xs
    induction xs with
    | nil => intro a ha _; exact ha
    | cons x xs ih =>
      intro a ha h
      unfold allOk at h ih
      rw [List.all_cons, Bool.and_eq_true] at h
      obtain ⟨s, rfl, hs⟩ : ∃ s : Nat, x = (s : Int) ∧ s < 64 := by
        have := (okZ_iff x).1 h.1
        exact ⟨x.toNat, by omega, by omega⟩
      exact ih _ (or_lt _ _ ha hs) h.2
  exact h1 xs 0 (by omega) h
theorem allOk_take (xs : List Int) (k : Nat) (h : allOk xs = true) : allOk (xs.take k) = true := by
  unfold allOk at *
  rw [List.all_eq_true] at *
  intro x hx
  exact h x (List.mem_of_mem_take hx)
/-- UsedPoints. -/
def used (n : Int) (xs : List Int) : Int := if isC n xs = true then (orN xs : Int) else 0

/-- IsSimplex. -/
def simplexB (n : Int) (xs : List Int) : Bool := isC n xs && xs.length == 1

/-- DegreeOf. -/
def degN (xs : List Int) (s : Nat) : Nat := xs.countP fun f => sub s f.toNat
def deg (n : Int) (xs : List Int) (s : Int) : Int := if (isC n xs && okZ s) = true then (degN xs s.toNat : Int) else -1
theorem degN_take (xs : List Int) (s j : Nat) (h : j < xs.length) : degN (xs.take (j + 1)) s = degN (xs.take j) s + if sub s (xs.getD j 0).toNat = true then 1 else 0 := by
  rw [take_nx xs j h]
  unfold degN
  rw [List.countP_append]
  generalize xs.getD j 0 = x
  by_cases h : sub s x.toNat = true <;> simp [h]
theorem degN_le (xs : List Int) (s : Nat) : degN xs s ≤ xs.length := List.countP_le_length

/-! ### faces of complexes -/

theorem faces_at (n : Int) (xs : List Int) (j : Nat) (h : j < (faces n xs).length) : ∃ s : Nat, (faces n xs).getD j 0 = (s : Int) ∧ s < 64 := by
  unfold faces at h ⊢
  split at h
  · rw [if_pos (by assumption)]
    obtain ⟨s, h1, h2, _⟩ := ord_at _ j h
    exact ⟨s, h1, h2⟩
  · simp at h
theorem faces_nil (n : Int) : faces n [] = [] := by
  unfold faces; split
  · exact (ord_congr fun s _ => rfl).trans ord_false
  · rfl
theorem faces_top {n : Int} {xs : List Int} (h : isC n xs = true) (h0 : 0 < xs.length) : (top (faces n xs) : Int) = dimZ n xs + 2 := by
  rw [dimZ_yes h h0]
  obtain ⟨t, ht, ht64⟩ := isC_at h (xs.length - 1) (by omega)
  have hF : faces n xs = ord (inF xs) := by unfold faces; rw [if_pos h]
  rw [ht, hF]
  have hl : ∀ x, x ∈ xs → pc x.toNat ≤ pc t := by
    intro x hx
    obtain ⟨i, hi, rfl⟩ := List.mem_iff_getElem.1 hx
    have hr := isC_rises h
    unfold Rises at hr
    have el : xs[xs.length - 1]'(by omega) = (t : Int) := by
      rw [List.getD, List.getElem?_eq_getElem (by omega)] at ht; exact ht
    by_cases e : i = xs.length - 1
    · subst e; rw [el]; exact Nat.le_refl _
    · have hb := List.pairwise_iff_getElem.1 hr i (xs.length - 1) hi (by omega) (by omega)
      rw [el, befZ_iff] at hb
      have := (befN_iff _ _).1 hb.2.2
      have e2 : (t : Int).toNat = t := rfl
      rw [e2] at this
      omega
  have h1 : top (ord (inF xs)) ≤ pc t + 1 := by
    apply top_le_of
    intro x hx
    obtain ⟨s, rfl, hs, hin⟩ := (mem_ord _ _).1 hx
    unfold inF at hin
    obtain ⟨f, hf, hsub⟩ := List.any_eq_true.1 hin
    obtain ⟨u, rfl, hu⟩ := okZ_cast f (setB_ok (isC_set h f hf))
    have h3 := hl _ hf
    have e2 : (u : Int).toNat = u := rfl
    rw [e2] at h3 hsub
    show pc s + 1 ≤ pc t + 1
    rcases sub_pc s u hs hu hsub with h4 | rfl <;> omega
  have h2 : pc t + 1 ≤ top (ord (inF xs)) := by
    apply top_ge (ord (inF xs)) (t : Int)
    refine (mem_ord _ _).2 ⟨t, rfl, ht64, ?_⟩
    unfold inF
    rw [List.any_eq_true]
    refine ⟨(t : Int), ?_, ?_⟩
    · rw [← ht, List.getD, List.getElem?_eq_getElem (by omega)]; exact List.getElem_mem _
    · show sub t t = true
      unfold sub; simp
  have e2 : (t : Int).toNat = t := rfl
  rw [e2]
  omega
theorem faces_pos {n : Int} {xs : List Int} (h : isC n xs = true) (h0 : 0 < xs.length) : 0 < (faces n xs).length := by
  have h1 := faces_top h h0
  rw [dimZ_yes h h0] at h1
  by_cases e : faces n xs = []
  · rw [e] at h1; simp [top] at h1; omega
  · exact List.length_pos_iff.2 e

end Go.Proofs.Ythobncbggaggjaa
