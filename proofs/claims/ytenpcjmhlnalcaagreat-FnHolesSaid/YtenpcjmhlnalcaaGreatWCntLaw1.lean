/-
  WALKS: the law's own sums of small numbers.
-/
import Derived.Test.YtenpcjmhlnalcaaGreatJg27
import Derived.Test.YtenpcjmhlnalcaaGreatJg7
namespace Go.Proofs.YtenpcjmhlnalcaaGreat
open Go.RowKit
open Sets

set_option maxRecDepth 100000 in
set_option maxHeartbeats 2000000 in
theorem total_b (a : Option Addr) (c : Nat) (F : List Int) (s : Int) (hs : tsumK F F.length = s) (hl : F.length ≤ 7) (hx : ∀ j, j < F.length → 0 ≤ F.getD j 0 ∧ F.getD j 0 ≤ 64) (w : World) (h : Ints w a F) :
    Calls Tryz.prog 13 #[.slice a F.length c] w fun e w' => e = .returned (.int .i64 s) ∧ Below w.heap.size w w' := by
  have H := Lib.hid h
  have HX := Lib.hid hx
  have HS := Lib.hid hs
  clear h hx hs
  go_enter Tryz.func13, Tryz.ntmps13
  go_wp2
  go_loop [3, 4] (fun v i => ∃ k : Nat, k ≤ F.length ∧ i = .int .i64 (k : Int) ∧ v = .int .i64 (tsumK F k) ∧ 0 ≤ tsumK F k ∧ tsumK F k ≤ 64 * (k : Int)) (fun _ i => F.length - (intOf i).toNat)
  case atStart => exact ⟨0, Nat.zero_le _, rfl, rfl, by simp [tsumK], by simp [tsumK]⟩
  case round =>
    obtain ⟨k, hk, rfl, rfl, h0, h1⟩ := hrel
    by_cases hlt : k < F.length
    · obtain ⟨b0, o, rfl, g⟩ := H.out k hlt
      obtain ⟨x0, x1⟩ := HX.out k hlt
      have hn : tsumK F (k + 1) = tsumK F k + F.getD k 0 := rfl
      have HN := Lib.hid hn
      clear hn
      generalize tsumK F k = s0 at *
      generalize F.getD k 0 = x at *
      go_wp2
      go_round
      case rel => exact ⟨k + 1, by omega, by go_num, by rw [HN.out], by rw [HN.out]; omega, by rw [HN.out]; omega⟩
      case measure => simp [intOf]; omega
    · have E := Lib.hid (show k = F.length by omega)
      go_wp2
      go_ret
      exact ⟨by rw [← HS.out, ← E.out]; rfl, Below.refl _ _⟩

set_option maxRecDepth 100000 in
set_option maxHeartbeats 4000000 in
theorem signed_b (a : Option Addr) (c : Nat) (F : List Int) (s : Int) (hs : ssumK F F.length = s) (hl : F.length ≤ 7) (hx : ∀ j, j < F.length → 0 ≤ F.getD j 0 ∧ F.getD j 0 ≤ 64) (w : World) (h : Ints w a F) :
    Calls Tryz.prog 22 #[.slice a F.length c] w fun e w' => e = .returned (.int .i64 s) ∧ Below w.heap.size w w' := by
  have H := Lib.hid h
  have HX := Lib.hid hx
  have HS := Lib.hid hs
  clear h hx hs
  go_enter Tryz.func22, Tryz.ntmps22
  go_wp2
  go_loop [3, 4] (fun v i => ∃ k : Nat, k ≤ F.length ∧ i = .int .i64 (k : Int) ∧ v = .int .i64 (ssumK F k) ∧ -64 * (k : Int) ≤ ssumK F k ∧ ssumK F k ≤ 64 * (k : Int)) (fun _ i => F.length - (intOf i).toNat)
  case atStart => exact ⟨0, Nat.zero_le _, rfl, rfl, by simp [ssumK], by simp [ssumK]⟩
  case round =>
    obtain ⟨k, hk, rfl, rfl, h0, h1⟩ := hrel
    by_cases hlt : k < F.length
    · obtain ⟨b0, o, rfl, g⟩ := H.out k hlt
      obtain ⟨x0, x1⟩ := HX.out k hlt
      obtain ⟨k1, hk1⟩ : ∃ k1, k + 1 = k1 := ⟨_, rfl⟩
      have hn : ssumK F k1 = ssumK F k + sgn k (F.getD k 0) := by rw [← hk1]; rfl
      have HK1 : Hid ((k1 : Int) = (k : Int) + 1 ∧ k1 ≤ F.length) := Lib.hid ⟨by omega, by omega⟩
      clear hk1
      generalize ssumK F k = s0 at *
      generalize F.getD k 0 = x at *
      rcases (by omega : k = 0 ∨ k = 1 ∨ k = 2 ∨ k = 3 ∨ k = 4 ∨ k = 5 ∨ k = 6) with rfl | rfl | rfl | rfl | rfl | rfl | rfl <;>
      · first | rw [sgn0] at hn | rw [sgn1] at hn | rw [sgn2] at hn | rw [sgn3] at hn | rw [sgn4] at hn | rw [sgn5] at hn | rw [sgn6] at hn
        have HN := Lib.hid hn
        clear hn
        try rw [Nat.add_zero] at g
        go_wp2
        go_round
        case rel =>
          have h2 := HK1.out
          refine ⟨k1, h2.2, ?_, ?_, by rw [HN.out, h2.1]; omega, by rw [HN.out, h2.1]; omega⟩
          · rw [h2.1]; try go_num
          · rw [HN.out]; try go_num
        case measure => simp [intOf]; omega
    · have E := Lib.hid (show k = F.length by omega)
      go_wp2
      go_ret
      exact ⟨by rw [← HS.out, ← E.out]; rfl, Below.refl _ _⟩

end Go.Proofs.YtenpcjmhlnalcaaGreat
