/-
  THE LAW ON H NUMBERS: its helpers (written by genhlaw.py).
-/
import Derived.Test.YtcgfioakjmbciaaWHS3
import Derived.Test.YtcgfioakjmbciaaJg10
import Derived.Test.YtcgfioakjmbciaaWHSym2
import Derived.Test.YtcgfioakjmbciaaWDrawH
import Derived.Test.YtcgfioakjmbciaaJg29
import Derived.Test.YtcgfioakjmbciaaJg7
import Derived.Test.YtcgfioakjmbciaaJg2
import Derived.IntWalk
namespace Go.Proofs.Ytcgfioakjmbciaa
open Go.RowKit
open Sets Hn

theorem hnSH (n : Int) (a : Option Addr) (c : Nat) (xs : List Int) (F : List Int) (hF : hnum n xs = F) (hlen : xs.length ≤ 1099511627776) (w : World) (h : Ints w a xs) :
    Calls Try.prog 17 #[cx n (.slice a xs.length c)] w fun e w' => ∃ v, e = .returned v ∧ OwnInts w' w.heap.size v F ∧ Below w.heap.size w w' := by
  subst hF; exact specH_any n a c xs hlen w h
theorem hnSG (n : Int) (a : Option Addr) (c : Nat) (xs : List Int) (F : List Int) (hF : gnum (hnum n xs) = F) (hlen : xs.length ≤ 1099511627776) (w : World) (h : Ints w a xs) :
    Calls Try.prog 22 #[cx n (.slice a xs.length c)] w fun e w' => ∃ v, e = .returned v ∧ OwnInts w' w.heap.size v F ∧ Below w.heap.size w w' := by
  subst hF; exact specG_any n a c xs hlen w h
theorem hnSF (n : Int) (a : Option Addr) (c : Nat) (xs : List Int) (F : List Int) (hF : counts (faces n xs) = F) (hlen : xs.length ≤ 1099511627776) (w : World) (h : Ints w a xs) :
    Calls Try.prog 27 #[cx n (.slice a xs.length c)] w fun e w' => ∃ v, e = .returned v ∧ OwnInts w' w.heap.size v F ∧ Below w.heap.size w w' := by
  subst hF; exact specCounts_any n a c xs hlen w h
theorem hnST (n : Int) (a : Option Addr) (c : Nat) (xs : List Int) (z : Int) (hz : topZ (hnum n xs) = z) (hlen : xs.length ≤ 1099511627776) (w : World) (h : Ints w a xs) :
    Calls Try.prog 26 #[cx n (.slice a xs.length c)] w fun e w' => e = .returned (.int .i64 z) ∧ Below w.heap.size w w' := by
  subst hz; exact specTop_any n a c xs hlen w h
theorem hnSE (n : Int) (a : Option Addr) (c : Nat) (xs : List Int) (z : Int) (hz : eul (faces n xs) = z) (hlen : xs.length ≤ 1099511627776) (w : World) (h : Ints w a xs) :
    Calls Try.prog 28 #[cx n (.slice a xs.length c)] w fun e w' => e = .returned (.int .i64 z) ∧ Below w.heap.size w w' := by
  subst hz; exact specEuler_any n a c xs hlen w h
theorem hnSS (n : Int) (a : Option Addr) (c : Nat) (xs : List Int) (z : Bool) (hz : symB (hnum n xs) = z) (hlen : xs.length ≤ 1099511627776) (w : World) (h : Ints w a xs) :
    Calls Try.prog 24 #[cx n (.slice a xs.length c)] w fun e w' => e = .returned (.bool z) ∧ Below w.heap.size w w' := by
  subst hz; exact specSym_any n a c xs hlen w h
theorem hnSC (a : Option Addr) (c : Nat) (xs F : List Int) (hF : fromH xs = F) (hlen : xs.length ≤ 1099511627776) (w : World) (h : Ints w a xs) :
    Calls Try.prog 19 #[.slice a xs.length c] w fun e w' => ∃ v, e = .returned v ∧ OwnInts w' w.heap.size v F ∧ Below w.heap.size w w' := by
  subst hF; exact specFrom_any a c xs hlen w h
theorem hnSZ (x y z : Int) (hz : chZ x y = z) (w : World) : Calls Try.prog 21 #[.int .i64 x, .int .i64 y] w fun e w' => e = .returned (.int .i64 z) ∧ Below w.heap.size w w' := by
  subst hz; exact specChooseZ_any x y w

/-- A region of a function's text. -/
def regAtH (n : Nat) : Go.Code → Option Go.Code
  | .region id ops d => if id = n then some (.region id ops d) else none
  | .seq a b => match regAtH n a with
    | some c => some c
    | none => regAtH n b
  | .cond _ a b => match regAtH n a with
    | some c => some c
    | none => regAtH n b
  | .block _ a => regAtH n a
  | .loop a => regAtH n a
  | _ => none

noncomputable def hnReg (n : Nat) : Go.Code := (Try.f3.body.bind (regAtH n)).getD .skip

end Go.Proofs.Ytcgfioakjmbciaa
