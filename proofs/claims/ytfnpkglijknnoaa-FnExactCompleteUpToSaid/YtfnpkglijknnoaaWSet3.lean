/-
  WALKS: the points of a set; its subsets; lists in order.
-/
import Derived.Test.YtfnpkglijknnoaaWSet2
namespace Go.Proofs.Ytfnpkglijknnoaa
open Go.RowKit
open Sets

/-- Is point i in s? -/
def ptB (s i : Nat) : Bool := s / 2 ^ i % 2 == 1

theorem shr_and (s i : Nat) (hs : s < 64) : bits BinOp.and IntKind.i64 ((s : Int) / 2 ^ i) 1 = ((s / 2 ^ i % 2 : Nat) : Int) := by
  have h : s / 2 ^ i < 64 := Nat.lt_of_le_of_lt (Nat.div_le_self _ _) hs
  have := and_one (s / 2 ^ i) h
  rw [← this]
  congr 1
theorem ptB_int (s i : Nat) (hs : s < 64) : (bits BinOp.and IntKind.i64 ((s : Int) / 2 ^ i) 1 == 1) = ptB s i := by
  rw [shr_and s i hs]
  unfold ptB
  rw [Bool.eq_iff_iff, beq_iff_eq, beq_iff_eq]
  omega

set_option maxRecDepth 100000 in
set_option maxHeartbeats 2000000 in
theorem hasPoint_any (s i : Nat) (hs : s < 64) (hi : i < 6) (w : World) : Calls Try.prog 70 #[.int .i64 (s : Int), .int .i64 (i : Int)] w fun e w' => e = .returned (.bool (ptB s i)) ∧ w = w' := by
  go_enter Try.func70, Try.ntmps70
  go_wp2
  go_ret
  exact ⟨ret_bool (ptB_int s i hs), rfl⟩

theorem hasPoint_b (s i : Nat) (b : Bool) (hb : ptB s i = b) (hs : s < 64) (hi : i < 6) (w : World) : Calls Try.prog 70 #[.int .i64 (s : Int), .int .i64 (i : Int)] w fun e w' => e = .returned (.bool b) ∧ w = w' := by
  subst hb; exact hasPoint_any s i hs hi w

theorem pts_hit (s i : Nat) (h : ptB s i = true) : pts s (i + 1) = pts s i ++ [(i : Int)] := by
  rw [pts_next, if_pos (by unfold ptB at h; simpa using h)]
theorem pts_miss (s i : Nat) (h : ptB s i = false) : pts s (i + 1) = pts s i := by
  rw [pts_next, if_neg (by unfold ptB at h; simpa using h), List.append_nil]

theorem points_nat (s : Nat) (h : s < 64) : points (s : Int) = pts s 6 := by unfold points; rw [if_pos ((okZ_nat s).2 h)]; rfl
theorem points_no (x : Int) (h : okZ x = false) : points x = [] := by unfold points; rw [if_neg (by rw [h]; simp)]

end Go.Proofs.Ytfnpkglijknnoaa
