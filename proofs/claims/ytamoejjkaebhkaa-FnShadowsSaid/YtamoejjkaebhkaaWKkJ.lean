/-
  THE CONTRACTS of chapter 11 as the laws ask for them.
-/
import Derived.Test.YtamoejjkaebhkaaWKkI6
import Derived.Test.YtamoejjkaebhkaaHas
namespace Go.Proofs.Ytamoejjkaebhkaa
open Go.RowKit
open Sets Hn Kk

theorem specCas_has (m k : Int) (W : World) : Calls Try.prog 19 #[.int .i64 m, .int .i64 k] W fun e w' => ∃ v, e = .returned v ∧ HasInts w' W.heap.size v (cascZ m k) ∧ Below W.heap.size W w' := by
  refine (specCascade_any m k W).mono ?_
  rintro e w' ⟨v, h1, h2, h3⟩
  exact ⟨v, h1, h2.has h3.size, h3⟩
theorem implCas_has (m k : Int) (W : World) : Calls Try.prog 11 #[.int .i64 m, .int .i64 k] W fun e w' => ∃ v, e = .returned v ∧ HasInts w' W.heap.size v (cascZ m k) ∧ Below W.heap.size W w' := by
  refine (implCasc_any m k W).mono ?_
  rintro e w' ⟨v, h1, h2, h3⟩
  exact ⟨v, h1, h2.has h3.size, h3⟩
theorem specFs_has (k m : Int) (W : World) : Calls Try.prog 24 #[.int .i64 k, .int .i64 m] W fun e w' => ∃ v, e = .returned v ∧ HasInts w' W.heap.size v (fsZ k m) ∧ Below W.heap.size W w' := by
  refine (specFirst_any k m W).mono ?_
  rintro e w' ⟨v, h1, h2, h3⟩
  exact ⟨v, h1, h2.has h3.size, h3⟩
theorem implFs_has (k m : Int) (W : World) : Calls Try.prog 23 #[.int .i64 k, .int .i64 m] W fun e w' => ∃ v, e = .returned v ∧ HasInts w' W.heap.size v (fsZ k m) ∧ Below W.heap.size W w' := by
  refine (implFirst_any k m W).mono ?_
  rintro e w' ⟨v, h1, h2, h3⟩
  exact ⟨v, h1, h2.has h3.size, h3⟩
theorem specCmp_has (a : Option Addr) (c : Nat) (xs : List Int) (hlen : xs.length ≤ 1099511627776) (W : World) (h : Ints W a xs) : Calls Try.prog 14 #[.slice a xs.length c] W fun e w' => ∃ v, e = .returned (.tuple #[cx (oN (compO xs)) v, .bool (compO xs).isSome]) ∧ HasInts w' W.heap.size v (oL (compO xs)) ∧ Below W.heap.size W w' := by
  refine (specComp11_any a c xs hlen W h).mono ?_
  rintro e w' ⟨v, h1, h2, h3⟩
  exact ⟨v, h1, h2.has h3.size, h3⟩
theorem implCmp_has (a : Option Addr) (c : Nat) (xs : List Int) (hlen : xs.length ≤ 1099511627776) (W : World) (h : Ints W a xs) : Calls Try.prog 13 #[.slice a xs.length c] W fun e w' => ∃ v, e = .returned (.tuple #[cx (oN (compO xs)) v, .bool (compO xs).isSome]) ∧ HasInts w' W.heap.size v (oL (compO xs)) ∧ Below W.heap.size W w' := by
  refine (implComp11_any a c xs hlen W h).mono ?_
  rintro e w' ⟨v, h1, h2, h3⟩
  exact ⟨v, h1, h2.has h3.size, h3⟩
theorem compO_few (L : List Int) : (oL (compO L)).length ≤ 1048576 := by
  unfold compO
  split
  · exact Nat.le_trans (maximal_length _) (by decide)
  · simp [oL]

end Go.Proofs.Ytamoejjkaebhkaa
