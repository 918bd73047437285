/-
  WALKS: what is a set, how many points, which comes first: impl's and spec's functions on single numbers.
-/
import Derived.Test.YtmonaiojejbhkaaSets
import Derived.Test.YtmonaiojejbhkaaInts
import Derived.IntWalk
import Derived.Laws.Bits64
namespace Go.Proofs.Ytmonaiojejbhkaa
open Go.RowKit
open Sets

/-- Is x from lo to hi? -/
def inB (lo hi x : Int) : Bool := decide (lo ≤ x ∧ x ≤ hi)
theorem inB_true {lo hi x : Int} (h1 : lo ≤ x) (h2 : x ≤ hi) : inB lo hi x = true := by unfold inB; rw [decide_eq_true_iff]; exact ⟨h1, h2⟩
theorem inB_false {lo hi x : Int} (h : ¬(lo ≤ x ∧ x ≤ hi)) : inB lo hi x = false := by unfold inB; rw [decide_eq_false_iff_not]; exact h
theorem inB_okZ (x : Int) : inB 0 63 x = okZ x := rfl

set_option maxRecDepth 100000 in
theorem in_any (x lo hi : Int) (w : World) : Calls Try.prog 54 #[.int .i64 x, .int .i64 lo, .int .i64 hi] w fun e w' => e = .returned (.bool (inB lo hi x)) ∧ w = w' := by
  by_cases h1 : lo ≤ x
  · by_cases h2 : x ≤ hi
    · go_enter Try.func54, Try.ntmps54
      go_wp2
      go_ret
      exact ⟨by rw [inB_true h1 h2]; rfl, rfl⟩
    · go_enter Try.func54, Try.ntmps54
      go_wp2
      go_ret
      exact ⟨by rw [inB_false (fun h => by omega)]; rfl, rfl⟩
  · go_enter Try.func54, Try.ntmps54
    go_wp2
    go_ret
    exact ⟨by rw [inB_false (fun h => by omega)]; rfl, rfl⟩

theorem in_b (x lo hi : Int) (b : Bool) (hb : inB lo hi x = b) (w : World) : Calls Try.prog 54 #[.int .i64 x, .int .i64 lo, .int .i64 hi] w fun e w' => e = .returned (.bool b) ∧ w = w' := by
  subst hb; exact in_any x lo hi w

/-- IsSet. -/
def setB (n s : Int) : Bool := decide (0 ≤ n ∧ n ≤ 6 ∧ 0 ≤ s ∧ s < 2 ^ n.toNat)
theorem setB_iff (n s : Int) : setB n s = true ↔ 0 ≤ n ∧ n ≤ 6 ∧ 0 ≤ s ∧ s < 2 ^ n.toNat := by unfold setB; exact decide_eq_true_iff
theorem setB_six (s : Int) : setB 6 s = okZ s := by unfold setB okZ; congr 1; apply propext; constructor <;> (intro h; simp at h ⊢; omega)
theorem inB_setB (n hi s : Int) (h0 : 0 ≤ n) (h1 : n ≤ 6) (h : hi + 1 = 2 ^ n.toNat) : inB 0 hi s = setB n s := by
  unfold inB setB; congr 1; apply propext; rw [← h]; constructor <;> (intro h; omega)
theorem seven (n : Int) (h0 : 0 ≤ n) (h1 : n ≤ 6) : n = 0 ∨ n = 1 ∨ n = 2 ∨ n = 3 ∨ n = 4 ∨ n = 5 ∨ n = 6 := by omega

set_option maxRecDepth 100000 in
set_option maxHeartbeats 2000000 in
theorem specIsSet_any (n s : Int) (w : World) : Calls Try.prog 75 #[.int .i64 n, .int .i64 s] w fun e w' => e = .returned (.bool (setB n s)) ∧ w = w' := by
  by_cases h0 : 0 ≤ n ∧ n ≤ 6
  · obtain ⟨h0, h1⟩ := h0
    have hb : ∀ hi : Int, hi + 1 = 2 ^ n.toNat → inB 0 hi s = setB n s := fun hi h => inB_setB n hi s h0 h1 h
    generalize setB n s = b at *
    have HB := Lib.hid hb
    clear hb
    rcases seven n h0 h1 with rfl | rfl | rfl | rfl | rfl | rfl | rfl
    all_goals
      clear h0 h1
      go_enter Try.func75, Try.ntmps75
      go_wp2_with fail
      refine (in_b _ _ _ true (by decide) _).mono ?_
      rintro e w' ⟨rfl, rfl⟩
      go_wp2_with fail
      refine (in_b _ _ _ b (HB.out _ (by decide)) _).mono ?_
      rintro e w' ⟨rfl, rfl⟩
      go_wp2
      go_ret
      exact ⟨rfl, rfl⟩
  · have hb : setB n s = false := by
      unfold setB; rw [decide_eq_false_iff_not]; intro h; exact h0 ⟨h.1, h.2.1⟩
    have hq : inB 0 6 n = false := inB_false h0
    rw [hb]
    clear hb h0
    go_enter Try.func75, Try.ntmps75
    go_wp2_with fail
    refine (in_b _ _ _ false hq _).mono ?_
    rintro e w' ⟨rfl, rfl⟩
    go_wp2
    go_ret
    exact ⟨rfl, rfl⟩

end Go.Proofs.Ytmonaiojejbhkaa
