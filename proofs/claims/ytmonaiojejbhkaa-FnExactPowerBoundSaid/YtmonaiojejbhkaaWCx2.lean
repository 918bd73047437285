/-
  WALKS: impl.IsComplex and spec.IsComplex.
-/
import Derived.Test.YtmonaiojejbhkaaWCx1
import Derived.Test.YtmonaiojejbhkaaWOrder
import Derived.Test.YtmonaiojejbhkaaWSpecOrder
namespace Go.Proofs.Ytmonaiojejbhkaa
open Go.RowKit
open Sets

set_option maxRecDepth 100000 in
theorem pointCount_b (n : Int) (b : Bool) (hb : inB 1 6 n = b) (w : World) : Calls Try.prog 41 #[.int .i64 n] w fun e w' => e = .returned (.bool b) ∧ w = w' := by
  subst hb
  by_cases h1 : 1 ≤ n
  · by_cases h2 : n ≤ 6
    · go_enter Try.func41, Try.ntmps41
      go_wp2
      go_ret
      exact ⟨by rw [inB_true h1 h2]; rfl, rfl⟩
    · go_enter Try.func41, Try.ntmps41
      go_wp2
      go_ret
      exact ⟨by rw [inB_false (fun h => by omega)]; rfl, rfl⟩
  · go_enter Try.func41, Try.ntmps41
    go_wp2
    go_ret
    exact ⟨by rw [inB_false (fun h => by omega)]; rfl, rfl⟩

theorem all_false {q : Int → Bool} {xs : List Int} {k : Nat} (hk : k < xs.length) (h : q (xs.getD k 0) = false) : xs.all q = false := by
  rw [Bool.eq_false_iff]; intro e
  have := List.all_eq_true.1 e (xs.getD k 0) (by rw [List.getD, List.getElem?_eq_getElem hk]; exact List.getElem_mem hk)
  rw [h] at this; cases this
theorem all_true {q : Int → Bool} {xs : List Int} (h : ∀ j, j < xs.length → q (xs.getD j 0) = true) : xs.all q = true := by
  rw [List.all_eq_true]; intro x hx
  obtain ⟨j, hj, rfl⟩ := List.mem_iff_getElem.1 hx
  have := h j hj
  rwa [List.getD, List.getElem?_eq_getElem hj] at this

theorem Ints.take {w : World} {a : Option Addr} {xs : List Int} (h : Ints w a xs) (k : Nat) : Ints w a (xs.take k) := fun j hj => by
  rw [List.length_take] at hj
  obtain ⟨b, o, e, hc⟩ := h j (by omega)
  refine ⟨b, o, e, ?_⟩
  rw [List.getD, List.getElem?_take_of_lt (by omega)]
  exact hc

end Go.Proofs.Ytmonaiojejbhkaa
