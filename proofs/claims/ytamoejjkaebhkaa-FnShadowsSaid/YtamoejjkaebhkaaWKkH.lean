/-
  THE LAW ON POSSIBLE COUNTS: its helpers (written by genkklaw.py).
-/
import Derived.Test.YtamoejjkaebhkaaWKkS4
import Derived.Test.YtamoejjkaebhkaaWDrawKk
import Derived.Test.YtamoejjkaebhkaaJg36
import Derived.Test.YtamoejjkaebhkaaJg12
import Derived.Test.YtamoejjkaebhkaaHas
import Derived.Test.YtamoejjkaebhkaaJg16
import Derived.IntWalk
namespace Go.Proofs.Ytamoejjkaebhkaa
open Go.RowKit
open Sets Hn Kk

theorem kkSH (m k z : Int) (hz : boundZ 0 m k = z) (w : World) : Calls Try.prog 21 #[.int .i64 m, .int .i64 k] w fun e w' => e = .returned (.int .i64 z) ∧ Below w.heap.size w w' := by
  subst hz; exact specShadow_any m k w
theorem kkSC (m k : Int) (F : List Int) (hF : cascZ m k = F) (w : World) : Calls Try.prog 19 #[.int .i64 m, .int .i64 k] w fun e w' => ∃ v, e = .returned v ∧ OwnInts w' w.heap.size v F ∧ Below w.heap.size w w' := by
  subst hF; exact specCascade_any m k w
theorem kkSF (k m : Int) (F : List Int) (hF : fsZ k m = F) (w : World) : Calls Try.prog 24 #[.int .i64 k, .int .i64 m] w fun e w' => ∃ v, e = .returned v ∧ OwnInts w' w.heap.size v F ∧ Below w.heap.size w w' := by
  subst hF; exact specFirst_any k m w
theorem kkSA (a : Option Addr) (c : Nat) (xs : List Int) (b : Bool) (hb : countsB xs = b) (hlen : xs.length ≤ 1099511627776) (w : World) (h : Ints w a xs) :
    Calls Try.prog 26 #[.slice a xs.length c] w fun e w' => e = .returned (.bool b) ∧ Below w.heap.size w w' := by
  subst hb; exact specAFC_any a c xs hlen w h
theorem kkCounts (n : Int) (a : Option Addr) (c : Nat) (xs F : List Int) (hF : counts (faces n xs) = F) (hlen : xs.length ≤ 1099511627776) (w : World) (h : Ints w a xs) :
    Calls Try.prog 16 #[cx n (.slice a xs.length c)] w fun e w' => ∃ v, e = .returned v ∧ OwnInts w' w.heap.size v F ∧ Below w.heap.size w w' := by
  subst hF; exact specCounts_any n a c xs hlen w h
/-- A compressed complex has the counts that it is made of. -/
theorem compO_counts {L : List Int} (h : (compO L).isSome = true) : counts (faces (oN (compO L)) (oL (compO L))) = L := by
  cases hf : fitsB L with
  | false => rw [compO_no hf] at h; cases h
  | true => rw [compO_yes hf]; exact comp_counts hf
theorem compO_le (L : List Int) : (oL (compO L)).length ≤ 1048576 := by
  unfold compO
  split
  · exact Nat.le_trans (maximal_length _) (by decide)
  · simp [oL]

/-- A region of a function's text. -/
def regAtK (n : Nat) : Go.Code → Option Go.Code
  | .region id ops d => if id = n then some (.region id ops d) else none
  | .seq a b => match regAtK n a with
    | some c => some c
    | none => regAtK n b
  | .cond _ a b => match regAtK n a with
    | some c => some c
    | none => regAtK n b
  | .block _ a => regAtK n a
  | .loop a => regAtK n a
  | _ => none

noncomputable def kkReg (n : Nat) : Go.Code := (Try.f3.body.bind (regAtK n)).getD .skip

end Go.Proofs.Ytamoejjkaebhkaa
