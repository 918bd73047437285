/-
  TEXTS of one claim, put together: WJoinIA, WPartI, OpenB.
-/
import Derived.Test.YthobncbggaggjaaWJoinI9
import Derived.Test.YthobncbggaggjaaJg13
import Derived.Test.YthobncbggaggjaaJg3
import Derived.Test.YthobncbggaggjaaJg10
import Derived.Deep.RegionHeld3
import Derived.Deep.RegionLaw
import Derived.Deep.AppendLies
import Derived.Test.YthobncbggaggjaaJg19
import Derived.ProofKit
import Derived.SizedLaws
/-! WALKS of chapter 6 by impl: CrossComplex. -/

namespace Go.Proofs.Ythobncbggaggjaa
open Go.RowKit
open Sets Lin Hom Join

theorem cross_all1 (a : Option Addr) (c : Nat) : allO [(2, a, c, [1, 2])] = crossO 1 := by
  show (if ((isC 2 [1, 2] && true) && decide (((0 : Int) + 2) ≤ 6)) = true then made ((0 : Int) + 2) (pairs 0 ([0]) [1, 2]) else none) = _
  decide +kernel
theorem cross_all2 (a : Option Addr) (c : Nat) : allO [(2, a, c, [1, 2]), (2, a, c, [1, 2])] = crossO 2 := by
  show (if ((isC 2 [1, 2] && (isC 2 [1, 2] && true)) && decide ((((0 : Int) + 2) + 2) ≤ 6)) = true then made (((0 : Int) + 2) + 2) (pairs 2 (pairs 0 ([0]) [1, 2]) [1, 2]) else none) = _
  decide +kernel
theorem cross_all3 (a : Option Addr) (c : Nat) : allO [(2, a, c, [1, 2]), (2, a, c, [1, 2]), (2, a, c, [1, 2])] = crossO 3 := by
  show (if ((isC 2 [1, 2] && (isC 2 [1, 2] && (isC 2 [1, 2] && true))) && decide (((((0 : Int) + 2) + 2) + 2) ≤ 6)) = true then made ((((0 : Int) + 2) + 2) + 2) (pairs 4 (pairs 2 (pairs 0 ([0]) [1, 2]) [1, 2]) [1, 2]) else none) = _
  decide +kernel

theorem parts_rep {w : World} {b : Nat} {a : Option Addr} {c k : Nat} {row : Array Value} (ps : List Pt) (hp : ps = List.replicate k (2, a, c, [1, 2])) (hr : row = (List.replicate k [Value.int .i64 2, Value.slice a 2 c]).flatten.toArray) (h : w.heap[b]? = some (.cells row 26 (0, 0))) (hc : 2 ≤ c) (hi : Ints w a [1, 2]) : PartsAt w b ps := fun j hj => by
  rw [hp, List.length_replicate] at hj
  have hcell : ∀ i u, row[i]? = some u → w.cell? ⟨b, i, none⟩ = some u := fun i u hu => by simp [World.cell?, h, hu]
  have hfl : ∀ k j : Nat, j < k → ((List.replicate k [Value.int .i64 2, Value.slice a 2 c]).flatten)[j * 2]? = some (.int .i64 2) ∧ ((List.replicate k [Value.int .i64 2, Value.slice a 2 c]).flatten)[j * 2 + 1]? = some (.slice a 2 c) := by
    intro k
    induction k with
    | zero => intro j hj; exact absurd hj (Nat.not_lt_zero _)
    | succ k ih =>
      intro j hj
      rw [List.replicate_succ, List.flatten_cons]
      cases j with
      | zero => exact ⟨rfl, rfl⟩
      | succ j =>
        obtain ⟨h1, h2⟩ := ih j (by omega)
        rw [show (j + 1) * 2 = j * 2 + 2 by omega, show j * 2 + 2 + 1 = (j * 2 + 1) + 2 by omega]
        exact ⟨h1, h2⟩
  obtain ⟨h1, h2⟩ := hfl k j hj
  refine ⟨2, a, c, [1, 2], ?_, hcell _ _ (by rw [hr]; simpa using h1), hcell _ _ (by rw [hr]; simpa using h2), hi, hc, by decide⟩
  rw [hp, List.getD, List.getElem?_replicate, if_pos hj]; rfl

set_option maxRecDepth 100000 in
set_option maxHeartbeats 4000000 in
theorem cross1_any (w : World) :
    Calls Try.prog 24 #[.int .i64 1] w fun e w' => ∃ v, e = .returned (.tuple #[cx (oN (crossO 1)) v, .bool (crossO 1).isSome]) ∧ OwnInts w' w.heap.size v (oL (crossO 1)) ∧ Below w.heap.size w w' := by
  have hb0 : Below w.heap.size w (w.alloc (.cells #[.int .i64 0, .slice none 0 0] 26)) := (Below.refl _ _).alloc (Nat.le_refl _) _
  have htr := Two.new w (.int .i64 0) (.slice none 0 0) 26
  have TR := Lib.hid htr
  have HB0 := Lib.hid hb0
  clear hb0 htr
  have HCO := Lib.hid (fun a c => cross_all1 a c)
  generalize crossO 1 = o at HCO ⊢
  go_enter Try.func24, Try.ntmps24
  go_wp2_with fail
  refine (twoPoints_at _).mono ?_
  rintro e V ⟨a, c, rfl, hc2, hi, hb1⟩
  have TR1 := Lib.hid (TR.out.keeps hb1)
  have HB1 : Hid (Below w.heap.size w V) := HB0.out.trans (hb1.mono HB0.out.size)
  have HI := Lib.hid hi
  have hvr := TR1.out.1
  have hvz := HB1.out.size
  clear hb1 hi
  go_wp2_with fail
  refine (repeat1_any 2 a 2 c V).mono ?_
  rintro e w2 ⟨rfl, hg2, hb2⟩
  have HP := Lib.hid (parts_rep (k := 1) ([(2, a, c, [1, 2])]) rfl (by simp [List.replicate, List.flatten]) hg2 hc2 (HI.out.keeps hb2))
  have HB2 := Lib.hid hb2
  clear hg2 hb2
  go_wp2_with fail
  refine (joinAll_any (V.heap.size + 1) 1 ([(2, a, c, [1, 2])]) (by show 1 ≤ 6; decide) w2 HP.out).mono ?_
  rw [HCO.out]
  rintro e w3 ⟨v, rfl, hO, hb3⟩
  obtain ⟨a2, c2, g2, rfl, _⟩ := OwnInts.ata hO hb3.size
  have hz2 := HB2.out.size
  have HB3 := Lib.hid (HB2.out.trans (hb3.mono hz2))
  obtain ⟨r0, r1, r2, r3, r4⟩ := TR1.out.keeps HB3.out
  have HO2 := Lib.hid (hO.lower hz2)
  have HB4 : Hid (Below w.heap.size w w3) := HB1.out.trans (HB3.out.mono hvz)
  clear hO hb3
  go_wp2
  refine ret_cx2 w.heap.size rfl rfl rfl (x := .int .i64 (oN o)) (y := .slice a2 (oL o).length c2) (by go_simp) (by go_simp) rfl ?_
  exact ⟨_, rfl, (OwnInts.set (OwnInts.set HO2.out _ _ _ (by omega)) _ _ _ (by omega)).lower (by omega), (HB4.out.setCell (by dsimp only; omega) _).setCell (by dsimp only; omega) _⟩

set_option maxRecDepth 100000 in
set_option maxHeartbeats 4000000 in
theorem cross2_any (w : World) :
    Calls Try.prog 24 #[.int .i64 2] w fun e w' => ∃ v, e = .returned (.tuple #[cx (oN (crossO 2)) v, .bool (crossO 2).isSome]) ∧ OwnInts w' w.heap.size v (oL (crossO 2)) ∧ Below w.heap.size w w' := by
  have hb0 : Below w.heap.size w (w.alloc (.cells #[.int .i64 0, .slice none 0 0] 26)) := (Below.refl _ _).alloc (Nat.le_refl _) _
  have htr := Two.new w (.int .i64 0) (.slice none 0 0) 26
  have TR := Lib.hid htr
  have HB0 := Lib.hid hb0
  clear hb0 htr
  have HCO := Lib.hid (fun a c => cross_all2 a c)
  generalize crossO 2 = o at HCO ⊢
  go_enter Try.func24, Try.ntmps24
  go_wp2_with fail
  refine (twoPoints_at _).mono ?_
  rintro e V ⟨a, c, rfl, hc2, hi, hb1⟩
  have TR1 := Lib.hid (TR.out.keeps hb1)
  have HB1 : Hid (Below w.heap.size w V) := HB0.out.trans (hb1.mono HB0.out.size)
  have HI := Lib.hid hi
  have hvr := TR1.out.1
  have hvz := HB1.out.size
  clear hb1 hi
  go_wp2_with fail
  refine (repeat2_any 2 a 2 c V).mono ?_
  rintro e w2 ⟨rfl, hg2, hb2⟩
  have HP := Lib.hid (parts_rep (k := 2) ([(2, a, c, [1, 2]), (2, a, c, [1, 2])]) rfl (by simp [List.replicate, List.flatten]) hg2 hc2 (HI.out.keeps hb2))
  have HB2 := Lib.hid hb2
  clear hg2 hb2
  go_wp2_with fail
  refine (joinAll_any (V.heap.size + 1) 2 ([(2, a, c, [1, 2]), (2, a, c, [1, 2])]) (by show 2 ≤ 6; decide) w2 HP.out).mono ?_
  rw [HCO.out]
  rintro e w3 ⟨v, rfl, hO, hb3⟩
  obtain ⟨a2, c2, g2, rfl, _⟩ := OwnInts.ata hO hb3.size
  have hz2 := HB2.out.size
  have HB3 := Lib.hid (HB2.out.trans (hb3.mono hz2))
  obtain ⟨r0, r1, r2, r3, r4⟩ := TR1.out.keeps HB3.out
  have HO2 := Lib.hid (hO.lower hz2)
  have HB4 : Hid (Below w.heap.size w w3) := HB1.out.trans (HB3.out.mono hvz)
  clear hO hb3
  go_wp2
  refine ret_cx2 w.heap.size rfl rfl rfl (x := .int .i64 (oN o)) (y := .slice a2 (oL o).length c2) (by go_simp) (by go_simp) rfl ?_
  exact ⟨_, rfl, (OwnInts.set (OwnInts.set HO2.out _ _ _ (by omega)) _ _ _ (by omega)).lower (by omega), (HB4.out.setCell (by dsimp only; omega) _).setCell (by dsimp only; omega) _⟩

set_option maxRecDepth 100000 in
set_option maxHeartbeats 4000000 in
theorem cross3_any (w : World) :
    Calls Try.prog 24 #[.int .i64 3] w fun e w' => ∃ v, e = .returned (.tuple #[cx (oN (crossO 3)) v, .bool (crossO 3).isSome]) ∧ OwnInts w' w.heap.size v (oL (crossO 3)) ∧ Below w.heap.size w w' := by
  have hb0 : Below w.heap.size w (w.alloc (.cells #[.int .i64 0, .slice none 0 0] 26)) := (Below.refl _ _).alloc (Nat.le_refl _) _
  have htr := Two.new w (.int .i64 0) (.slice none 0 0) 26
  have TR := Lib.hid htr
  have HB0 := Lib.hid hb0
  clear hb0 htr
  have HCO := Lib.hid (fun a c => cross_all3 a c)
  generalize crossO 3 = o at HCO ⊢
  go_enter Try.func24, Try.ntmps24
  go_wp2_with fail
  refine (twoPoints_at _).mono ?_
  rintro e V ⟨a, c, rfl, hc2, hi, hb1⟩
  have TR1 := Lib.hid (TR.out.keeps hb1)
  have HB1 : Hid (Below w.heap.size w V) := HB0.out.trans (hb1.mono HB0.out.size)
  have HI := Lib.hid hi
  have hvr := TR1.out.1
  have hvz := HB1.out.size
  clear hb1 hi
  go_wp2_with fail
  refine (repeat3_any 2 a 2 c V).mono ?_
  rintro e w2 ⟨rfl, hg2, hb2⟩
  have HP := Lib.hid (parts_rep (k := 3) ([(2, a, c, [1, 2]), (2, a, c, [1, 2]), (2, a, c, [1, 2])]) rfl (by simp [List.replicate, List.flatten]) hg2 hc2 (HI.out.keeps hb2))
  have HB2 := Lib.hid hb2
  clear hg2 hb2
  go_wp2_with fail
  refine (joinAll_any (V.heap.size + 1) 3 ([(2, a, c, [1, 2]), (2, a, c, [1, 2]), (2, a, c, [1, 2])]) (by show 3 ≤ 6; decide) w2 HP.out).mono ?_
  rw [HCO.out]
  rintro e w3 ⟨v, rfl, hO, hb3⟩
  obtain ⟨a2, c2, g2, rfl, _⟩ := OwnInts.ata hO hb3.size
  have hz2 := HB2.out.size
  have HB3 := Lib.hid (HB2.out.trans (hb3.mono hz2))
  obtain ⟨r0, r1, r2, r3, r4⟩ := TR1.out.keeps HB3.out
  have HO2 := Lib.hid (hO.lower hz2)
  have HB4 : Hid (Below w.heap.size w w3) := HB1.out.trans (HB3.out.mono hvz)
  clear hO hb3
  go_wp2
  refine ret_cx2 w.heap.size rfl rfl rfl (x := .int .i64 (oN o)) (y := .slice a2 (oL o).length c2) (by go_simp) (by go_simp) rfl ?_
  exact ⟨_, rfl, (OwnInts.set (OwnInts.set HO2.out _ _ _ (by omega)) _ _ _ (by omega)).lower (by omega), (HB4.out.setCell (by dsimp only; omega) _).setCell (by dsimp only; omega) _⟩

set_option maxRecDepth 100000 in
set_option maxHeartbeats 4000000 in
theorem implCross_any (k : Int) (w : World) :
    Calls Try.prog 24 #[.int .i64 k] w fun e w' => ∃ v, e = .returned (.tuple #[cx (oN (crossO k)) v, .bool (crossO k).isSome]) ∧ OwnInts w' w.heap.size v (oL (crossO k)) ∧ Below w.heap.size w w' := by
  cases hk : inB 1 3 k with
  | true =>
    obtain ⟨h1, h3⟩ := (inB_iff _ _ _).1 hk
    rcases (by omega : k = 1 ∨ k = 2 ∨ k = 3) with rfl | rfl | rfl
    · exact cross1_any w
    · exact cross2_any w
    · exact cross3_any w
  | false =>
    have hnot : ¬ (1 ≤ k ∧ k ≤ 3) := fun h => by rw [(inB_iff _ _ _).2 h] at hk; cases hk
    rw [show crossO k = none from partJ_no hk]
    have htr := Two.new w (.int .i64 0) (.slice none 0 0) 26
    have hb0 : Below w.heap.size w (w.alloc (.cells #[.int .i64 0, .slice none 0 0] 26)) := (Below.refl _ _).alloc (Nat.le_refl _) _
    have HB0 := Lib.hid hb0
    obtain ⟨r0, r1, r2, r3, r4⟩ := htr
    clear hb0 hk
    by_cases h1 : k < 1
    · have h1d : decide (k < 1) = true := by simpa using h1
      go_enter Try.func24, Try.ntmps24
      go_wp2
      refine ret_cx2 w.heap.size rfl rfl rfl (x := .int .i64 0) (y := .slice none 0 0) (by go_simp) (by go_simp) rfl ?_
      exact ⟨_, rfl, OwnInts.nil _ _, by first | exact (HB0.out.setCell (by dsimp only; omega) _).setCell (by dsimp only; omega) _ | exact HB0.out⟩
    · have h1d : decide (k < 1) = false := by simpa using h1
      have h3 : k > 3 := by omega
      have h3d : decide (k > 3) = true := by simpa using h3
      go_enter Try.func24, Try.ntmps24
      go_wp2
      refine ret_cx2 w.heap.size rfl rfl rfl (x := .int .i64 0) (y := .slice none 0 0) (by go_simp) (by go_simp) rfl ?_
      exact ⟨_, rfl, OwnInts.nil _ _, by first | exact (HB0.out.setCell (by dsimp only; omega) _).setCell (by dsimp only; omega) _ | exact HB0.out⟩

end Go.Proofs.Ythobncbggaggjaa

/-! WALKS: impl's chapter 5: parts of a complex (written by genparti.py). -/

namespace Go.Proofs.Ythobncbggaggjaa
open Go.RowKit
open Sets

theorem own_has_cx {f : FuncId} {args : Array Value} {w : World} {n : Int} {L : List Int} {b : Bool} (h : Calls Try.prog f args w fun e w' => ∃ v, e = .returned (.tuple #[cx n v, .bool b]) ∧ OwnInts w' w.heap.size v L ∧ Below w.heap.size w w') :
    Calls Try.prog f args w fun e w' => ∃ v, e = .returned (.tuple #[cx n v, .bool b]) ∧ HasInts w' w.heap.size v L ∧ Below w.heap.size w w' :=
  h.mono fun _ _ ⟨v, he, ho, hb⟩ => ⟨v, he, ho.has hb.size, hb⟩
theorem pO_no {ok : Bool} {n : Int} {q : Nat → Bool} (h : ok = false) : partO ok n q = none := by unfold partO; rw [if_neg (by rw [h]; simp)]
theorem pO_yes {ok : Bool} {n : Int} {q : Nat → Bool} (h : ok = true) : partO ok n q = some (n, maxQ q) := by unfold partO; rw [if_pos h]
theorem part_le (ok : Bool) (n : Int) (q : Nat → Bool) : (oL (partO ok n q)).length ≤ 1048576 := by
  refine Nat.le_trans (m := 64) ?_ (by decide)
  cases ok
  · rw [pO_no rfl]; exact Nat.zero_le _
  · rw [pO_yes rfl]; exact maxQ_le q

/-- A family of sets of n points that holds with a set all of its subsets, made by MakeComplex. -/
def Fam (n : Int) (q : Nat → Bool) : Prop := Down q ∧ ∀ t, t < 64 → q t = true → setB n (t : Int) = true
theorem made_ord {n : Int} {q : Nat → Bool} (hn : inB 1 6 n = true) (h : Fam n q) : made n (ord q) = some (n, maxQ q) := by
  rw [made_yes ((setsOf_iff _ _).2 ⟨hn, ord_le _, fun x hx => ?_⟩), maximal_ord q h.1]
  obtain ⟨s, rfl, hs, hq⟩ := (mem_ord q x).1 hx
  exact h.2 s hs hq
theorem and_natP : ∀ a b : Nat, a < 64 → b < 64 → bits BinOp.and IntKind.i64 (a : Int) (b : Int) = ((a &&& b : Nat) : Int) := by
  refine fin64b ?_
  decide +kernel
theorem or_natP : ∀ a b : Nat, a < 64 → b < 64 → bits BinOp.or IntKind.i64 (a : Int) (b : Int) = ((a ||| b : Nat) : Int) := by
  refine fin64b ?_
  decide +kernel
theorem or_lt64 {s t : Nat} (hs : s < 64) (ht : t < 64) : s ||| t < 64 := Nat.or_lt_two_pow (n := 6) hs ht

/-! ### a family by its function value -/

/-! ### the seven families -/

theorem fam_of {n : Int} {xs : List Int} {q : Nat → Bool} (hd : Down q) (hc : isC n xs = true) (h : ∀ t, q t = true → inF xs t = true) : Fam n q := ⟨hd, fun t _ hq => inF_set hc t (h t hq)⟩
theorem sub_orl (s t : Nat) : sub s (s ||| t) = true := (sub_iff _ _).2 fun i h => by rw [Nat.testBit_or, h]; rfl
theorem star_fam {n : Int} {xs : List Int} (hc : isC n xs = true) (u : Nat) : Fam n (starQ xs u) := fam_of (starQ_down xs u) hc fun t h => inF_sub (sub_orl t u) h
theorem link_fam {n : Int} {xs : List Int} (hc : isC n xs = true) (u : Nat) : Fam n (linkQ xs u) := fam_of (linkQ_down xs u) hc fun t h => by
  unfold linkQ at h
  rw [Bool.and_eq_true] at h
  exact inF_sub (sub_orl t u) h.2
theorem del_fam {n : Int} {xs : List Int} (hc : isC n xs = true) (u : Nat) : Fam n (delQ xs u) := fam_of (delQ_down xs u) hc fun t h => by
  unfold delQ at h
  rw [Bool.and_eq_true] at h
  exact h.1
theorem ind_fam {n : Int} {xs : List Int} (hc : isC n xs = true) (u : Nat) : Fam n (indQ xs u) := fam_of (indQ_down xs u) hc fun t h => by
  unfold indQ at h
  rw [Bool.and_eq_true] at h
  exact h.1
theorem skel_fam {n : Int} {xs : List Int} (hc : isC n xs = true) (k : Int) : Fam n (skelQ xs k) := fam_of (skelQ_down xs k) hc fun t h => by
  unfold skelQ at h
  rw [Bool.and_eq_true] at h
  exact h.1
theorem and_fam {n : Int} {xs : List Int} (ys : List Int) (hc : isC n xs = true) : Fam n (andQ xs ys) := fam_of (andQ_down xs ys) hc fun t h => by
  unfold andQ at h
  rw [Bool.and_eq_true] at h
  exact h.1
theorem or_fam {n : Int} {xs ys : List Int} (hx : isC n xs = true) (hy : isC n ys = true) : Fam n (orQ xs ys) := ⟨orQ_down xs ys, fun t _ h => by
  unfold orQ at h
  rw [Bool.or_eq_true] at h
  exact h.elim (inF_set hx t) (inF_set hy t)⟩

end Go.Proofs.Ythobncbggaggjaa

/-! AN ARGUMENT that is a slice of bytes: what its cells hold. -/

namespace Go.Proofs.Ythobncbggaggjaa
open Go.ChangeShapes Go.WideShapes Go.ChangeAt Go.RowKit

theorem open_bytes {H : Type} {enc : TypeId × Value → H} {P : Program} {W : World} {base : Nat} {held : Bool} {t e : TypeId} {a : Option Addr} {n c : Nat} {d : DataW H} {p : List MemPlace}
    (ht : P.underlying t = some (.slice e)) (he : P.underlying e = some (.int .u8)) (hc : P.cellsOf e = 1) (h : DataW.Trod enc P W base (fun _ => true) held t (.slice a n c) d p) :
    Code W a n ∧ n ≤ 9223372036854775807 := by
  obtain ⟨fuel, hf⟩ := h
  rcases open_ints ht he hc hf with ⟨hcs, _⟩ | ⟨b, len, cap, zs, hcs, _, hl, hm, hz, _, hcell, hws⟩
  · simp [Value.cells] at hcs
    obtain ⟨rfl, rfl, rfl⟩ := hcs
    exact ⟨fun j hj => absurd hj (Nat.not_lt_zero _), by omega⟩
  · simp [Value.cells] at hcs
    obtain ⟨rfl, rfl, rfl⟩ := hcs
    simp only [if_true] at hz
    unfold maxLen at hm
    refine ⟨fun j hj => ?_, by omega⟩
    have hc2 := hcell j (by omega)
    have hc3 := hws (zs.getD j 0) (by rw [List.getD, List.getElem?_eq_getElem (show j < zs.length by omega)]; exact List.getElem_mem _)
    obtain ⟨bl, off, spot⟩ := b
    have hspot : spot = none := by simpa [Addr.add] using World.cell?_spot (hcell 0 (by omega))
    subst hspot
    rw [add_plain] at hc2
    have hb : 0 ≤ zs.getD j 0 ∧ zs.getD j 0 ≤ 255 := by simpa [Lit.wf, IntKind.min, IntKind.max, IntKind.signed, IntKind.bits] using hc3
    refine ⟨bl, off, (zs.getD j 0).toNat, rfl, by omega, ?_⟩
    rw [hc2, Int.toNat_of_nonneg hb.1]

end Go.Proofs.Ythobncbggaggjaa
