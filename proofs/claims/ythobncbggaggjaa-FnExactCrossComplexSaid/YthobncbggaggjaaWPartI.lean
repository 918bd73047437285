/-
  WALKS: impl's chapter 5: parts of a complex (written by genparti.py).
-/
import Derived.Test.YthobncbggaggjaaPart
import Derived.Test.YthobncbggaggjaaWCx6
import Derived.Test.YthobncbggaggjaaHas
import Derived.Deep.RegionHeld3
import Derived.Deep.RegionLaw
import Derived.Deep.AppendLies
namespace Go.Proofs.Ythobncbggaggjaa
open Go.RowKit
open Sets

theorem own_has_cx {f : FuncId} {args : Array Value} {w : World} {n : Int} {L : List Int} {b : Bool} (h : Calls Try.prog f args w fun e w' => ∃ v, e = .returned (.tuple #[cx n v, .bool b]) ∧ OwnInts w' w.heap.size v L ∧ Below w.heap.size w w') :
    Calls Try.prog f args w fun e w' => ∃ v, e = .returned (.tuple #[cx n v, .bool b]) ∧ HasInts w' w.heap.size v L ∧ Below w.heap.size w w' :=
  h.mono fun _ _ ⟨v, he, ho, hb⟩ => ⟨v, he, ho.has hb.size, hb⟩
theorem pO_no {ok : Bool} {n : Int} {q : Nat → Bool} (h : ok = false) : partO ok n q = none := by unfold partO; rw [if_neg (by rw [h]; simp)]
theorem pO_yes {ok : Bool} {n : Int} {q : Nat → Bool} (h : ok = true) : partO ok n q = some (n, maxQ q) := by unfold partO; rw [if_pos h]
theorem part_le (ok : Bool) (n : Int) (q : Nat → Bool) : (oL (partO ok n q)).length ≤ 1048576 := by
  refine Nat.le_trans (m := 64) ?_ (by decide)
  cases ok
  · rw [pO_no rfl]; exact Nat.zero_le _
  · rw [pO_yes rfl]; exact maxQ_le q

/-- A family of sets of n points that holds with a set all of its subsets, made by MakeComplex. -/
def Fam (n : Int) (q : Nat → Bool) : Prop := Down q ∧ ∀ t, t < 64 → q t = true → setB n (t : Int) = true
theorem made_ord {n : Int} {q : Nat → Bool} (hn : inB 1 6 n = true) (h : Fam n q) : made n (ord q) = some (n, maxQ q) := by
  rw [made_yes ((setsOf_iff _ _).2 ⟨hn, ord_le _, fun x hx => ?_⟩), maximal_ord q h.1]
  obtain ⟨s, rfl, hs, hq⟩ := (mem_ord q x).1 hx
  exact h.2 s hs hq
theorem and_natP : ∀ a b : Nat, a < 64 → b < 64 → bits BinOp.and IntKind.i64 (a : Int) (b : Int) = ((a &&& b : Nat) : Int) := by
  refine fin64b ?_
  decide +kernel
theorem or_natP : ∀ a b : Nat, a < 64 → b < 64 → bits BinOp.or IntKind.i64 (a : Int) (b : Int) = ((a ||| b : Nat) : Int) := by
  refine fin64b ?_
  decide +kernel
theorem or_lt64 {s t : Nat} (hs : s < 64) (ht : t < 64) : s ||| t < 64 := Nat.or_lt_two_pow (n := 6) hs ht

/-! ### a family by its function value -/

/-! ### the seven families -/

theorem fam_of {n : Int} {xs : List Int} {q : Nat → Bool} (hd : Down q) (hc : isC n xs = true) (h : ∀ t, q t = true → inF xs t = true) : Fam n q := ⟨hd, fun t _ hq => inF_set hc t (h t hq)⟩
theorem sub_orl (s t : Nat) : sub s (s ||| t) = true := (sub_iff _ _).2 fun i h => by rw [Nat.testBit_or, h]; rfl
theorem star_fam {n : Int} {xs : List Int} (hc : isC n xs = true) (u : Nat) : Fam n (starQ xs u) := fam_of (starQ_down xs u) hc fun t h => inF_sub (sub_orl t u) h
theorem link_fam {n : Int} {xs : List Int} (hc : isC n xs = true) (u : Nat) : Fam n (linkQ xs u) := fam_of (linkQ_down xs u) hc fun t h => by
  unfold linkQ at h
  rw [Bool.and_eq_true] at h
  exact inF_sub (sub_orl t u) h.2
theorem del_fam {n : Int} {xs : List Int} (hc : isC n xs = true) (u : Nat) : Fam n (delQ xs u) := fam_of (delQ_down xs u) hc fun t h => by
  unfold delQ at h
  rw [Bool.and_eq_true] at h
  exact h.1
theorem ind_fam {n : Int} {xs : List Int} (hc : isC n xs = true) (u : Nat) : Fam n (indQ xs u) := fam_of (indQ_down xs u) hc fun t h => by
  unfold indQ at h
  rw [Bool.and_eq_true] at h
  exact h.1
theorem skel_fam {n : Int} {xs : List Int} (hc : isC n xs = true) (k : Int) : Fam n (skelQ xs k) := fam_of (skelQ_down xs k) hc fun t h => by
  unfold skelQ at h
  rw [Bool.and_eq_true] at h
  exact h.1
theorem and_fam {n : Int} {xs : List Int} (ys : List Int) (hc : isC n xs = true) : Fam n (andQ xs ys) := fam_of (andQ_down xs ys) hc fun t h => by
  unfold andQ at h
  rw [Bool.and_eq_true] at h
  exact h.1
theorem or_fam {n : Int} {xs ys : List Int} (hx : isC n xs = true) (hy : isC n ys = true) : Fam n (orQ xs ys) := ⟨orQ_down xs ys, fun t _ h => by
  unfold orQ at h
  rw [Bool.or_eq_true] at h
  exact h.elim (inF_set hx t) (inF_set hy t)⟩

end Go.Proofs.Ythobncbggaggjaa
