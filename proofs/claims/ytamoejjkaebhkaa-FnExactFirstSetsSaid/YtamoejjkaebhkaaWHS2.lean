/-
  WALKS: spec's chapter 10: HNumbers.
-/
import Derived.Test.YtamoejjkaebhkaaWHS1
import Derived.Test.YtamoejjkaebhkaaWCx3
namespace Go.Proofs.Ytamoejjkaebhkaa
open Go.RowKit
open Sets Hn

theorem quietlyH {f : FuncId} {args : Array Value} {w : World} {n : Nat} {v : Value}
    (h : Calls Try.prog f args (w.drewN n) fun e w' => e = .returned v ∧ w.drewN n = w') : Calls Try.prog f args (w.drewN n) fun e w'' => e = .returned v ∧ ∃ n, w'' = w.drewN n :=
  h.mono fun _ _ ⟨he, hw⟩ => ⟨he, n, hw.symm⟩

theorem hsums_take (s : Int) (L : List Int) (k : Nat) (h : k < L.length) : (hsums s L).take (k + 1) = (hsums s L).take k ++ [hs s L (L.length - 1) k (k + 1)] := by
  rw [take_nx _ _ (by rw [hsums_length]; exact h), hsums_at s L k h]
theorem hsums_take_length (s : Int) (L : List Int) (k : Nat) (h : k ≤ L.length) : ((hsums s L).take k).length = k := by
  rw [List.length_take, hsums_length]; omega

end Go.Proofs.Ytamoejjkaebhkaa
