/-
  WALKS: complexes made of sets, by impl and by spec; the full complex and its border.
-/
import Derived.Test.YtamoejjkaebhkaaWCx5
namespace Go.Proofs.Ytamoejjkaebhkaa
open Go.RowKit
open Sets

/-- Out of what is owned: the slice, its room, its block. -/
theorem OwnInts.atc {w : World} {base : Nat} {v : Value} {xs : List Int} (h : OwnInts w base v xs) : ∃ a c g, v = .slice a xs.length c ∧ xs.length ≤ c ∧ base ≤ g ∧ IntsAt w g a xs := by
  unfold OwnInts at h
  rcases h.2 with ⟨hv, h0⟩ | ⟨g, cap, cur, hv, _, _, hcap, _⟩
  · exact ⟨none, 0, base, by rw [hv, h0], by omega, Nat.le_refl _, fun j hj => by omega⟩
  · subst hv
    obtain ⟨h1, h2⟩ := World.ownsRow.lt h g rfl
    refine ⟨some ⟨g, 0, none⟩, cap, g, rfl, hcap, h1, fun j hj => ⟨rfl, h2, ?_, World.ownsRow.frozenAt h j⟩⟩
    rw [World.ownsRow.cellAt h j (by omega), ints_cell xs j hj]

theorem OwnInts.set {w : World} {base : Nat} {v : Value} {xs : List Int} (h : OwnInts w base v xs) (b o : Nat) (z : Value) (hb : b < base) : OwnInts (w.setCell ⟨b, o, none⟩ z) base v xs := by
  unfold OwnInts at *
  refine ⟨h.1, ?_⟩
  rcases h.2 with h0 | ⟨g, cap, cur, hv, h1, hh, hr⟩
  · exact .inl h0
  · refine .inr ⟨g, cap, cur, hv, h1, ?_, hr⟩
    simp only [World.setCell, Array.getElem?_modify]
    rw [if_neg (by omega)]
    exact hh

/-- Are they at most 64 sets of n points? -/
def setsOf (n : Int) (xs : List Int) : Bool := inB 1 6 n && decide (xs.length ≤ 64) && xs.all (setB n)
/-- MakeComplex. -/
def made (n : Int) (xs : List Int) : Option (Int × List Int) := if setsOf n xs = true then some (n, maximal xs) else none
/-- The points and the facets of a complex that may not be there. -/
def oN (o : Option (Int × List Int)) : Int := (o.map (·.1)).getD 0
def oL (o : Option (Int × List Int)) : List Int := (o.map (·.2)).getD []
theorem made_yes {n : Int} {xs : List Int} (h : setsOf n xs = true) : made n xs = some (n, maximal xs) := by unfold made; rw [if_pos h]
theorem made_no {n : Int} {xs : List Int} (h : setsOf n xs = false) : made n xs = none := by unfold made; rw [if_neg (by rw [h]; simp)]
theorem setsOf_iff (n : Int) (xs : List Int) : setsOf n xs = true ↔ inB 1 6 n = true ∧ xs.length ≤ 64 ∧ ∀ x, x ∈ xs → setB n x = true := by
  unfold setsOf; rw [Bool.and_eq_true, Bool.and_eq_true, decide_eq_true_iff, List.all_eq_true, and_assoc]
theorem setsOf_ok {n : Int} {xs : List Int} (h : setsOf n xs = true) : allOk xs = true := by
  unfold allOk; rw [List.all_eq_true]; exact fun x hx => setB_ok (((setsOf_iff n xs).1 h).2.2 x hx)
theorem made_isC {n : Int} {xs : List Int} (h : setsOf n xs = true) : isC n (maximal xs) = true := by
  have h' := (setsOf_iff n xs).1 h
  have hn := (inB_iff _ _ _).1 h'.1
  exact isC_maximal n xs hn.1 hn.2 h'.2.2
theorem all_any_not (xs : List Int) (q : Int → Bool) : xs.all q = !(xs.any fun x => !q x) := by
  rw [List.not_any_eq_all_not]; simp

set_option maxRecDepth 100000 in
theorem areSets1_asks (n : Int) (xs : List Int) (B : Nat) (w : World) (hB : B < w.heap.size) (hc : w.cell? ⟨B, 0, none⟩ = some (.int .i64 n)) :
    Asks 72 #[.pointer (some ⟨B, 0, none⟩)] (fun x => !setB n x) xs w := by
  intro W j hj hb
  generalize xs.getD j 0 = f at *
  have d1 : W.cell? ⟨B, 0, none⟩ = some (.int .i64 n) := (hb.cell (p := ⟨B, 0, none⟩) hB).trans hc
  show Calls Try.prog 72 #[.int .i64 f, .pointer (some ⟨B, 0, none⟩)] W fun e w' => e = .returned (.bool (!setB n f)) ∧ ∃ m, w' = W.drewN m
  have hcall := implIsSet_any n f W
  generalize setB n f = b at *
  have HC := Lib.hid hcall
  clear hc hb hcall
  go_enter Try.func72, Try.ntmps72
  go_wp2_with fail
  refine HC.out.mono ?_
  rintro e w' ⟨rfl, rfl⟩
  go_wp2
  go_ret
  exact ⟨rfl, 0, rfl⟩

set_option maxRecDepth 100000 in
set_option maxHeartbeats 2000000 in
theorem areSets_any (n : Int) (a : Option Addr) (c : Nat) (xs : List Int) (hlen : xs.length ≤ 1099511627776) (b : Bool) (hb : setsOf n xs = b) (w : World) (h : Ints w a xs) :
    Calls Try.prog 57 #[.int .i64 n, .slice a xs.length c] w fun e w' => e = .returned (.bool b) ∧ Below w.heap.size w w' := by
  have hb0 : Below w.heap.size w (w.alloc (Obj.cells #[Value.int IntKind.i64 n] 3)) := (Below.refl _ _).alloc (Nat.le_refl _) _
  cases hn : inB 1 6 n with
  | false =>
    have HN := Lib.hid hn
    have HB0 := Lib.hid hb0
    obtain rfl : b = false := by rw [← hb]; unfold setsOf; rw [hn]; rfl
    clear hn hb hb0 h
    go_enter Try.func57, Try.ntmps57
    go_wp2_with fail
    refine (pointCount_b n false HN.out _).mono ?_
    rintro e w' ⟨rfl, rfl⟩
    go_wp2
    go_ret
    exact ⟨rfl, HB0.out⟩
  | true =>
    have HN := Lib.hid hn
    by_cases hl : 64 < xs.length
    · have HB0 := Lib.hid hb0
      obtain rfl : b = false := by
        rw [← hb]; unfold setsOf
        rw [show decide (xs.length ≤ 64) = false by simp; omega, Bool.and_false]; rfl
      clear hn hb hb0 h
      go_enter Try.func57, Try.ntmps57
      go_wp2_with fail
      refine (pointCount_b n true HN.out _).mono ?_
      rintro e w' ⟨rfl, rfl⟩
      go_wp2
      go_ret
      exact ⟨rfl, HB0.out⟩
    · have hany : (xs.any fun x => !setB n x) = !b := by
        rw [← hb]; unfold setsOf
        rw [hn, show decide (xs.length ≤ 64) = true by simp; omega, all_any_not]; simp
      have eg : ∀ args w, (callFunc 72 args).run Try.prog w = .ok (.enter 72 args) w := enters_of Try.func72 (by kernel_rfl) rfl
      have hc := contains_bel 72 #[.pointer (some ⟨w.heap.size, 0, none⟩)] (fun x => !setB n x) (!b) a c xs hany _ eg (areSets1_asks n xs w.heap.size (w.alloc (Obj.cells #[Value.int IntKind.i64 n] 3)) (by simp) (by simp)) hlen (h.keeps hb0)
      have HC := Lib.hid hc
      have HB0 := Lib.hid hb0
      clear hn hb hb0 h hc eg hany
      go_enter Try.func57, Try.ntmps57
      go_wp2_with fail
      refine (pointCount_b n true HN.out _).mono ?_
      rintro e w' ⟨rfl, rfl⟩
      go_wp2_with fail
      refine HC.out.mono ?_
      rintro e w1 ⟨rfl, hb1⟩
      go_wp2
      go_ret
      exact ⟨by simp, HB0.out.trans (hb1.mono (by simp))⟩

set_option maxRecDepth 100000 in
set_option maxHeartbeats 2000000 in
theorem implMake_any (n : Int) (a : Option Addr) (c : Nat) (xs : List Int) (hlen : xs.length ≤ 1099511627776) (w : World) (h : Ints w a xs) :
    Calls Try.prog 41 #[.int .i64 n, .slice a xs.length c] w fun e w' =>
      ∃ v, e = .returned (.tuple #[cx (oN (made n xs)) v, .bool (made n xs).isSome]) ∧ OwnInts w' w.heap.size v (oL (made n xs)) ∧ Below w.heap.size w w' := by
  have hb0 : Below w.heap.size w (w.alloc (Obj.cells #[Value.int IntKind.i64 0, Value.slice none 0 0] 30)) := (Below.refl _ _).alloc (Nat.le_refl _) _
  have htwo : Two (w.alloc (Obj.cells #[Value.int IntKind.i64 0, Value.slice none 0 0] 30)) w.heap.size (.int .i64 0) (.slice none 0 0) := Two.new _ _ _ _
  have H := Lib.hid (h.keeps hb0)
  have HB0 := Lib.hid hb0
  have HT := Lib.hid htwo
  clear h hb0 htwo
  cases hs : setsOf n xs with
  | false =>
    have HS := Lib.hid hs
    rw [made_no hs]
    clear hs
    go_enter Try.func41, Try.ntmps41
    go_wp2_with fail
    refine (areSets_any n _ _ xs hlen false HS.out _ H.out).mono ?_
    rintro e w1 ⟨rfl, hb1⟩
    obtain ⟨t0, t1, t2, t3, t4⟩ := HT.out.keeps hb1
    have HB1 : Hid (Below w.heap.size w w1) := HB0.out.trans (hb1.mono (by simp))
    clear hb1
    go_wp2
    refine ret_cx2 w.heap.size rfl rfl rfl (x := .int .i64 0) (y := .slice none 0 0) (by go_simp) (by go_simp) rfl ?_
    exact ⟨_, rfl, OwnInts.nil _ _, (HB1.out.setCell (by simp) _).setCell (by simp) _⟩
  | true =>
    have HS := Lib.hid hs
    rw [made_yes hs]
    clear hs
    go_enter Try.func41, Try.ntmps41
    go_wp2_with fail
    refine (areSets_any n _ _ xs hlen true HS.out _ H.out).mono ?_
    rintro e w1 ⟨rfl, hb1⟩
    have HB1 : Hid (Below w.heap.size w w1) := HB0.out.trans (hb1.mono (by simp))
    have HT1 := Lib.hid (HT.out.keeps hb1)
    have H1 := Lib.hid (H.out.keeps hb1)
    clear hb1
    go_wp2_with fail
    refine (implMaximal_any _ _ xs hlen _ H1.out).mono ?_
    rintro e w2 ⟨v, rfl, hO, hb2⟩
    have hsz1 := HT1.out.1
    have hsz2 := hb2.size
    have HB2 : Hid (Below w.heap.size w w2) := HB1.out.trans (hb2.mono (by omega))
    obtain ⟨a2, c2, g2, rfl, _⟩ := hO.atc
    have HO := Lib.hid hO
    obtain ⟨t0, t1, t2, t3, t4⟩ := HT1.out.keeps hb2
    clear hb2 hO
    go_wp2
    refine ret_cx2 w.heap.size rfl rfl rfl (x := .int .i64 n) (y := .slice a2 (maximal xs).length c2) (by go_simp) (by go_simp) rfl ?_
    exact ⟨_, rfl, (OwnInts.set (OwnInts.set HO.out _ _ _ hsz1) _ _ _ hsz1).lower (by omega), (HB2.out.setCell (by simp) _).setCell (by simp) _⟩

set_option maxRecDepth 100000 in
set_option maxHeartbeats 2000000 in
theorem l3Make_any (n : Int) (a : Option Addr) (c : Nat) (xs : List Int) (hok : allOk xs = true) (hlen : xs.length ≤ 1099511627776) (w : World) (h : Ints w a xs) :
    Calls Try.prog 42 #[.int .i64 n, .slice a xs.length c] w fun e w' =>
      ∃ v, e = .returned (cx n v) ∧ OwnInts w' w.heap.size v (maximal xs) ∧ Below w.heap.size w w' := by
  have hb0 : Below w.heap.size w (w.alloc (Obj.cells #[Value.int IntKind.i64 0, Value.slice none 0 0] 30)) := (Below.refl _ _).alloc (Nat.le_refl _) _
  have htwo : Two (w.alloc (Obj.cells #[Value.int IntKind.i64 0, Value.slice none 0 0] 30)) w.heap.size (.int .i64 0) (.slice none 0 0) := Two.new _ _ _ _
  have H := Lib.hid (h.keeps hb0)
  have HB0 := Lib.hid hb0
  have HT := Lib.hid htwo
  have HOK := Lib.hid hok
  clear h hb0 htwo hok
  go_enter Try.func42, Try.ntmps42
  go_wp2_with fail
  refine (l2Extreme_true _ _ xs hlen HOK.out _ H.out).mono ?_
  rintro e w2 ⟨v, rfl, hO, hb2⟩
  have hsz1 := HT.out.1
  have hsz2 := hb2.size
  have HB2 : Hid (Below w.heap.size w w2) := HB0.out.trans (hb2.mono (by omega))
  have hO' : OwnInts w2 (w.heap.size + 1) v (maximal xs) := by
    have h2 := hO
    simp only [World.size_alloc] at h2
    exact h2
  obtain ⟨a2, c2, g2, rfl, _⟩ := hO'.atc
  have HO := Lib.hid hO'
  obtain ⟨t0, t1, t2, t3, t4⟩ := HT.out.keeps hb2
  clear hb2 hO hO'
  go_wp2
  refine ret_cx w.heap.size rfl rfl (x := .int .i64 n) (y := .slice a2 (maximal xs).length c2) (by go_simp) (by go_simp) rfl ?_
  exact ⟨_, rfl, (OwnInts.set (OwnInts.set HO.out _ _ _ (by omega)) _ _ _ (by omega)).lower (by omega), (HB2.out.setCell (by simp) _).setCell (by simp) _⟩

end Go.Proofs.Ytamoejjkaebhkaa
