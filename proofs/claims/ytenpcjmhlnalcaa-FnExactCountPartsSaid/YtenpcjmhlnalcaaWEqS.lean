/-
  WALK: the library's Equal at slices of numbers.
-/
import Derived.Test.YtenpcjmhlnalcaaHas
import Derived.Test.YtenpcjmhlnalcaaJg6
import Derived.Deep.RegionLaw
namespace Go.Proofs.Ytenpcjmhlnalcaa
open Go.RowKit
open Sets

theorem eq_at {xs ys : List Int} {l : Nat} (hx : xs.length = l) (hy : ys.length = l) (h : ∀ j, j < l → xs.getD j 0 = ys.getD j 0) : (xs == ys) = true := by
  rw [beq_iff_eq]
  apply List.ext_getElem (by rw [hx, hy])
  intro j h1 h2
  have := h j (by omega)
  rw [List.getD, List.getElem?_eq_getElem h1, List.getD, List.getElem?_eq_getElem h2] at this
  simpa using this
theorem ne_at {xs ys : List Int} {j : Nat} (h : xs.getD j 0 ≠ ys.getD j 0) : (xs == ys) = false := by
  rw [Bool.eq_false_iff]
  intro e
  rw [beq_iff_eq] at e
  exact h (by rw [e])

set_option maxRecDepth 100000 in
set_option maxHeartbeats 2000000 in
theorem equalS_b (a1 a2 : Option Addr) (c1 c2 : Nat) (xs ys : List Int) (l : Nat) (hx : xs.length = l) (hy : ys.length = l) (hl : l ≤ 1099511627776) (b : Bool) (hb : (xs == ys) = b) (w : World) (h1 : Ints w a1 xs) (h2 : Ints w a2 ys) :
    Calls Try.prog 49 #[.slice a1 l c1, .slice a2 l c2] w fun e w' => e = .returned (.bool b) ∧ Below w.heap.size w w' := by
  have H1 := Lib.hid h1
  have H2 := Lib.hid h2
  have HB := Lib.hid hb
  have HX := Lib.hid hx
  have HY := Lib.hid hy
  clear h1 h2 hb hx hy
  go_enter Try.func49, Try.ntmps49
  go_wp2
  go_loopw [13] (fun i wr => ∃ k n : Nat, k ≤ l ∧ i = .int .i64 k ∧ wr = w.drewN n ∧ (∀ j, j < k → xs.getD j 0 = ys.getD j 0)) (fun i _ => l - (intOf i).toNat)
  case atStart => exact ⟨0, 0, Nat.zero_le _, rfl, rfl, fun j hj => absurd hj (Nat.not_lt_zero _)⟩
  case round =>
    obtain ⟨k, n, hk, rfl, rfl, hq⟩ := hrel
    have HQ := Lib.hid hq
    clear hq
    by_cases hlt : k < l
    · obtain ⟨b1, o1, rfl, g1⟩ := H1.out k (by rw [HX.out]; exact hlt)
      obtain ⟨b2, o2, rfl, g2⟩ := H2.out k (by rw [HY.out]; exact hlt)
      obtain ⟨x, hx⟩ : ∃ x, xs.getD k 0 = x := ⟨_, rfl⟩
      obtain ⟨y, hy⟩ : ∃ y, ys.getD k 0 = y := ⟨_, rfl⟩
      rw [hx] at g1
      rw [hy] at g2
      have HXK := Lib.hid hx
      have HYK := Lib.hid hy
      clear hx hy
      by_cases e : x = y
      · subst e
        go_wp2
        go_quiet (fail)
        go_wp2
        go_roundw
        case rel =>
          refine ⟨k + 1, n + nq, by omega, by go_num, rfl, fun j hj => ?_⟩
          by_cases e : j = k
          · subst e; rw [HXK.out, HYK.out]
          · exact HQ.out j (by omega)
        case measure => simp [intOf]; omega
      · have hne : (x == y) = false := by simpa using e
        have HR : Hid (b = false) := by
          have : b = false := by rw [← HB.out]; exact ne_at (j := k) (by rw [HXK.out, HYK.out]; exact e)
          exact this
        have E := Lib.hid e
        clear e
        go_wp2
        go_quiet (fail)
        go_wp2
        go_ret
        exact ⟨by rw [HR.out]; rfl, bdrew (Mem.below_drewN w n) _⟩
    · have E := Lib.hid (show k = l by omega)
      have HR : Hid (b = true) := by
        have : b = true := by rw [← HB.out]; exact eq_at HX.out HY.out (fun j hj => HQ.out j (by rw [E.out]; exact hj))
        exact this
      go_wp2
      go_ret
      exact ⟨by rw [HR.out]; rfl, Mem.below_drewN w n⟩

end Go.Proofs.Ytenpcjmhlnalcaa
