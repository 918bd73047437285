/-
  WALKS: impl's chapter 5: parts of a complex (written by genparti.py).
-/
import Derived.Test.YtfnpkglijknnoaaPart
import Derived.Test.YtfnpkglijknnoaaWCx6
import Derived.Test.YtfnpkglijknnoaaHas
import Derived.Deep.RegionHeld3
import Derived.Deep.RegionLaw
import Derived.Deep.AppendLies
namespace Go.Proofs.Ytfnpkglijknnoaa
open Go.RowKit
open Sets

theorem own_has_cx {f : FuncId} {args : Array Value} {w : World} {n : Int} {L : List Int} {b : Bool} (h : Calls Try.prog f args w fun e w' => ∃ v, e = .returned (.tuple #[cx n v, .bool b]) ∧ OwnInts w' w.heap.size v L ∧ Below w.heap.size w w') :
    Calls Try.prog f args w fun e w' => ∃ v, e = .returned (.tuple #[cx n v, .bool b]) ∧ HasInts w' w.heap.size v L ∧ Below w.heap.size w w' :=
  h.mono fun _ _ ⟨v, he, ho, hb⟩ => ⟨v, he, ho.has hb.size, hb⟩
theorem pO_no {ok : Bool} {n : Int} {q : Nat → Bool} (h : ok = false) : partO ok n q = none := by unfold partO; rw [if_neg (by rw [h]; simp)]
theorem pO_yes {ok : Bool} {n : Int} {q : Nat → Bool} (h : ok = true) : partO ok n q = some (n, maxQ q) := by unfold partO; rw [if_pos h]
theorem part_le (ok : Bool) (n : Int) (q : Nat → Bool) : (oL (partO ok n q)).length ≤ 1048576 := by
  refine Nat.le_trans (m := 64) ?_ (by decide)
  cases ok
  · rw [pO_no rfl]; exact Nat.zero_le _
  · rw [pO_yes rfl]; exact maxQ_le q

/-- A family of sets of n points that holds with a set all of its subsets, made by MakeComplex. -/
def Fam (n : Int) (q : Nat → Bool) : Prop := Down q ∧ ∀ t, t < 64 → q t = true → setB n (t : Int) = true
theorem made_ord {n : Int} {q : Nat → Bool} (hn : inB 1 6 n = true) (h : Fam n q) : made n (ord q) = some (n, maxQ q) := by
  rw [made_yes ((setsOf_iff _ _).2 ⟨hn, ord_le _, fun x hx => ?_⟩), maximal_ord q h.1]
  obtain ⟨s, rfl, hs, hq⟩ := (mem_ord q x).1 hx
  exact h.2 s hs hq
theorem and_natP : ∀ a b : Nat, a < 64 → b < 64 → bits BinOp.and IntKind.i64 (a : Int) (b : Int) = ((a &&& b : Nat) : Int) := by
  refine fin64b ?_
  decide +kernel
theorem or_natP : ∀ a b : Nat, a < 64 → b < 64 → bits BinOp.or IntKind.i64 (a : Int) (b : Int) = ((a ||| b : Nat) : Int) := by
  refine fin64b ?_
  decide +kernel
theorem or_lt64 {s t : Nat} (hs : s < 64) (ht : t < 64) : s ||| t < 64 := Nat.or_lt_two_pow (n := 6) hs ht

/-! ### a family by its function value -/

set_option maxRecDepth 100000 in
set_option maxHeartbeats 2000000 in
theorem partWhere_any (n : Int) (g : Nat) (lb : Array Value) (q : Nat → Bool) (w : World) (hn : inB 1 6 n = true) (hf : Fam n q) (eg : ∀ args w, (callFunc g args).run Try.prog w = .ok (.enter g args) w) (hp : ∀ W : World, Below w.heap.size w W → PredB g lb q W) :
    Calls Try.prog 51 #[.int .i64 n, .func (.func g) #[] lb] w fun e w' => ∃ v, e = .returned (.tuple #[cx n v, .bool true]) ∧ OwnInts w' w.heap.size v (maxQ q) ∧ Below w.heap.size w w' := by
  have hb0 : Below w.heap.size w (w.alloc (.cells #[.int .i64 0, .slice none 0 0] 26)) := (Below.refl _ _).alloc (Nat.le_refl _) _
  have htr := Two.new w (.int .i64 0) (.slice none 0 0) 26
  have HP := Lib.hid (hp _ hb0)
  have HM := Lib.hid (made_ord hn hf)
  have HQ := Lib.hid (setsWhere_bel g lb q)
  have EG := Lib.hid eg
  have HB0 := Lib.hid hb0
  have TR := Lib.hid htr
  clear hb0 htr eg hp hf hn
  go_enter Try.func51, Try.ntmps51
  go_wp2_with fail
  refine (HQ.out _ EG.out HP.out).mono ?_
  rintro e w1 ⟨v, rfl, hO1, hb1⟩
  obtain ⟨a1, c1, g1, rfl, hc1, hg1, hr1, _⟩ := OwnInts.ata hO1 hb1.size
  have hl1 : (ord q).length ≤ 1099511627776 := Nat.le_trans (ord_le _) (by decide)
  have R1 := Lib.hid hr1
  have HB1 : Hid (Below w.heap.size w w1) := HB0.out.trans (hb1.mono HB0.out.size)
  have TR1 := Lib.hid (TR.out.keeps hb1)
  have hz1 := HB1.out.size
  clear hO1 hr1 hb1 hg1 hc1
  go_wp2_with fail
  refine (implMake_any n _ _ (ord q) hl1 _ R1.out.ints).mono ?_
  rintro e w2 ⟨v, he, hO2, hb2⟩
  rw [HM.out] at he hO2
  replace he : e = .returned (.tuple #[cx n v, .bool true]) := he
  subst he
  obtain ⟨a2, c2, g2, hv2, hc2, hg2, hr2, _⟩ := OwnInts.ata hO2 hb2.size
  replace hv2 : v = .slice a2 (maxQ q).length c2 := hv2
  subst hv2
  obtain ⟨r0, r1, r2, r3, r4⟩ := TR1.out.keeps hb2
  have hz0 := TR1.out.1
  have HO2 : Hid (OwnInts w2 w1.heap.size (.slice a2 (maxQ q).length c2) (maxQ q)) := hO2
  have HB2 : Hid (Below w.heap.size w w2) := HB1.out.trans (hb2.mono hz1)
  clear hO2 hr2 hb2
  go_wp2
  refine ret_cx2 w.heap.size rfl rfl rfl (x := .int .i64 n) (y := .slice a2 (maxQ q).length c2) (by go_simp) (by go_simp) rfl ?_
  exact ⟨_, rfl, (OwnInts.set (OwnInts.set HO2.out _ _ _ hz0) _ _ _ hz0).lower hz1, (HB2.out.setCell (by dsimp only; omega) _).setCell (by dsimp only; omega) _⟩

/-! ### the seven families -/

theorem fam_of {n : Int} {xs : List Int} {q : Nat → Bool} (hd : Down q) (hc : isC n xs = true) (h : ∀ t, q t = true → inF xs t = true) : Fam n q := ⟨hd, fun t _ hq => inF_set hc t (h t hq)⟩
theorem sub_orl (s t : Nat) : sub s (s ||| t) = true := (sub_iff _ _).2 fun i h => by rw [Nat.testBit_or, h]; rfl
theorem star_fam {n : Int} {xs : List Int} (hc : isC n xs = true) (u : Nat) : Fam n (starQ xs u) := fam_of (starQ_down xs u) hc fun t h => inF_sub (sub_orl t u) h
theorem link_fam {n : Int} {xs : List Int} (hc : isC n xs = true) (u : Nat) : Fam n (linkQ xs u) := fam_of (linkQ_down xs u) hc fun t h => by
  unfold linkQ at h
  rw [Bool.and_eq_true] at h
  exact inF_sub (sub_orl t u) h.2
theorem del_fam {n : Int} {xs : List Int} (hc : isC n xs = true) (u : Nat) : Fam n (delQ xs u) := fam_of (delQ_down xs u) hc fun t h => by
  unfold delQ at h
  rw [Bool.and_eq_true] at h
  exact h.1
theorem ind_fam {n : Int} {xs : List Int} (hc : isC n xs = true) (u : Nat) : Fam n (indQ xs u) := fam_of (indQ_down xs u) hc fun t h => by
  unfold indQ at h
  rw [Bool.and_eq_true] at h
  exact h.1
theorem skel_fam {n : Int} {xs : List Int} (hc : isC n xs = true) (k : Int) : Fam n (skelQ xs k) := fam_of (skelQ_down xs k) hc fun t h => by
  unfold skelQ at h
  rw [Bool.and_eq_true] at h
  exact h.1
theorem and_fam {n : Int} {xs : List Int} (ys : List Int) (hc : isC n xs = true) : Fam n (andQ xs ys) := fam_of (andQ_down xs ys) hc fun t h => by
  unfold andQ at h
  rw [Bool.and_eq_true] at h
  exact h.1
theorem or_fam {n : Int} {xs ys : List Int} (hx : isC n xs = true) (hy : isC n ys = true) : Fam n (orQ xs ys) := ⟨orQ_down xs ys, fun t _ h => by
  unfold orQ at h
  rw [Bool.or_eq_true] at h
  exact h.elim (inF_set hx t) (inF_set hy t)⟩

end Go.Proofs.Ytfnpkglijknnoaa
