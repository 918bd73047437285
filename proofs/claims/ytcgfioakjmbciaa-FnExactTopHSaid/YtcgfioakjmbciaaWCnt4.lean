/-
  WALKS of chapter 4: EulerOf by impl and by spec.
-/
import Derived.Test.YtcgfioakjmbciaaWCnt3
namespace Go.Proofs.Ytcgfioakjmbciaa
open Go.RowKit
open Sets

theorem countSizes_lit (a : Option Addr) (c : Nat) (xs : List Int) (hok : allOk xs = true) (hlen : xs.length ≤ 1099511627776) (c0 c1 c2 c3 c4 c5 c6 : Nat) (h0 : cnt 0 xs = c0) (h1 : cnt 1 xs = c1) (h2 : cnt 2 xs = c2) (h3 : cnt 3 xs = c3) (h4 : cnt 4 xs = c4) (h5 : cnt 5 xs = c5) (h6 : cnt 6 xs = c6) (w : World) (h : Ints w a xs) :
    Calls Try.prog 58 #[.slice a xs.length c] w fun e w' => e = .returned (.agg #[.int .i64 (c0 : Int), .int .i64 (c1 : Int), .int .i64 (c2 : Int), .int .i64 (c3 : Int), .int .i64 (c4 : Int), .int .i64 (c5 : Int), .int .i64 (c6 : Int)]) ∧ Below w.heap.size w w' := by
  subst h0 h1 h2 h3 h4 h5 h6
  exact countSizes_any a c xs hok hlen w h

theorem index7 (L : List Int) (hL : L.length = 7) (k : Nat) (hk : k < 7) (w : World) :
    (Instr.index 63 (.agg (icells L).toArray) (.int .i64 (k : Int))).run Try.prog w = .ok (.int .i64 (L.getD k 0)) w := by
  have hu : Try.prog.underlying 63 = some (.array 7 3) := by kernel_rfl
  have hi : Try.prog.underlying 3 = some (.int .i64) := by kernel_rfl
  have h1 : (0 : Int) ≤ (k : Int) ∧ (k : Int) < (7 : Nat) := by omega
  have hc : (icells L)[k]? = some (.int .i64 (L.getD k 0)) := icells_at L k (by omega)
  simp [Instr.index, asIntOf, run_underlying hu, run_underlying hi, part, isAgg, hc, hk, Result.andThen]

end Go.Proofs.Ytcgfioakjmbciaa
