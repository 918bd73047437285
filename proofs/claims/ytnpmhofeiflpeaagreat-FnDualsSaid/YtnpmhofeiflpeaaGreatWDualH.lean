/-
  THE LAW ON DUALS: its helpers (written by genduallaw.py).
-/
import Derived.Test.YtnpmhofeiflpeaaGreatJg18
import Derived.Test.YtnpmhofeiflpeaaGreatWDualD
import Derived.Test.YtnpmhofeiflpeaaGreatWPartB
import Derived.Test.YtnpmhofeiflpeaaGreatJg36
import Derived.IntWalk
namespace Go.Proofs.YtnpmhofeiflpeaaGreat
open Go.RowKit
open Sets Hom

theorem specCompB (n s z : Int) (h : compZ n s = z) (w : World) : Calls Tryz.prog 14 #[.int .i64 n, .int .i64 s] w fun e w' => e = .returned (.int .i64 z) ∧ Below w.heap.size w w' := by
  refine (specComp_b n s z h w).mono ?_
  rintro e w' ⟨rfl, rfl⟩
  exact ⟨rfl, Below.refl _ _⟩
theorem specSelfB (n : Int) (a : Option Addr) (c : Nat) (xs : List Int) (b : Bool) (hb : selfB n xs = b) (hlen : xs.length ≤ 1099511627776) (w : World) (h : Ints w a xs) :
    Calls Tryz.prog 16 #[cx n (.slice a xs.length c)] w fun e w' => e = .returned (.bool b) ∧ Below w.heap.size w w' := by
  subst hb; exact specSelf_any n a c xs hlen w h
theorem specCoversB (n : Int) (a : Option Addr) (c : Nat) (xs C : List Int) (hC : coversL n xs = C) (hlen : xs.length ≤ 1099511627776) (w : World) (h : Ints w a xs) :
    Calls Tryz.prog 18 #[.int .i64 n, .slice a xs.length c] w fun e w' => ∃ v, e = .returned v ∧ OwnInts w' w.heap.size v C ∧ Below w.heap.size w w' := by
  subst hC; exact specCovers_any n a c xs hlen w h
theorem sizedLen (n : Int) (a : Option Addr) (c : Nat) (xs : List Int) (hlen : xs.length ≤ 1099511627776) (z q : Int) (y : Nat) (hz : z = q) (hy : (sized q (faces n xs)).length = y) (w : World) (h : Ints w a xs) :
    Calls Tryz.prog 22 #[cx n (.slice a xs.length c), .int .i64 z] w fun e w' => ∃ a' c', e = .returned (.slice a' y c') ∧ Below w.heap.size w w' := by
  subst hz
  subst hy
  refine (specSized_any n a c xs hlen z w h).mono ?_
  rintro e w' ⟨v, rfl, hO, hb⟩
  obtain ⟨pa, pc0, pg, rfl, _⟩ := OwnInts.ata hO hb.size
  exact ⟨_, _, rfl, hb⟩
theorem at22B (a : Option Addr) (c : Nat) (xs : List Int) (i j x : Int) (hi : i = j) (hx : at0 xs j = x) (w : World) (h : Ints w a xs) :
    Calls Tryz.prog 24 #[.slice a xs.length c, .int .i64 i] w fun e w' => e = .returned (.int .i64 x) ∧ Below w.heap.size w w' := by
  subst hi; subst hx; exact at22_any a c xs i w h
theorem chooseB (n : Int) (m k y : Nat) (hn : n = (m : Int)) (hm : m ≤ 6) (hk : k ≤ m) (hy : chooseN m k = y) (w : World) : Calls Tryz.prog 23 #[.int .i64 n, .int .i64 (k : Int)] w fun e w' => e = .returned (.int .i64 (y : Nat)) ∧ Below w.heap.size w w' := by
  subst hn; subst hy; exact specChoose_any m k hm hk w
theorem parts_someD (ok : Bool) (n : Int) (q : Nat → Bool) : (partO ok n q).isSome = ok := by unfold partO; cases ok <;> rfl
theorem okD_at {xs : List Int} (h : allOk xs = true) (k : Nat) (hk : k < xs.length) : ∃ t : Nat, xs.getD k 0 = (t : Int) ∧ t < 64 := by
  refine ok_nat h ?_
  rw [List.getD, List.getElem?_eq_getElem hk]; exact List.getElem_mem hk

/-- A region of a function's text. -/
def regAtD (n : Nat) : Go.Code → Option Go.Code
  | .region id ops d => if id = n then some (.region id ops d) else none
  | .seq a b => match regAtD n a with
    | some c => some c
    | none => regAtD n b
  | .cond _ a b => match regAtD n a with
    | some c => some c
    | none => regAtD n b
  | .block _ a => regAtD n a
  | .loop a => regAtD n a
  | _ => none

noncomputable def dualReg (n : Nat) : Go.Code := (Tryz.f3.body.bind (regAtD n)).getD .skip

end Go.Proofs.YtnpmhofeiflpeaaGreat
