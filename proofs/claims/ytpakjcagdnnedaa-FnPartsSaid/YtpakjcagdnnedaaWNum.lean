/-
  WALKS: spec.FormatInt returns the decimal numeral of every int.
-/
import Derived.Test.YtpakjcagdnnedaaNum
import Derived.Test.YtpakjcagdnnedaaProg
import Derived.WalkKit
import Derived.WalkLawsBesides
import Derived.Outline
import Derived.Lib.Hide
import Derived.IntWalk
import Derived.Deep.DeepFit
import Derived.Laws.BytesString
namespace Go.Proofs.Ytpakjcagdnnedaa
open Go.RowKit
open Num (digs digs_step)

/-- 'string([]byte{x})' -/
theorem one_byte (w : World) (x : Int) :
    (convert 22 9 (.slice (some ⟨w.heap.size, 0, none⟩) 1 1)).run Try.prog (w.alloc (.cells #[.int .u8 x] 5)) = .ok (.string ⟨#[UInt8.ofNat x.toNat]⟩) (w.alloc (.cells #[.int .u8 x] 5)) := by
  rw [run_convert_bytes_string _ _ _ 5 _ _ _ Try.underlying22 Try.underlying5 Try.underlying9]
  rw [run_bytesToString _ _ 1 1 [x] (run_loadCells_list _ _ [.int .u8 x] (fun j v hj => by
    rcases j with _ | j
    · simp at hj; subst hj; exact World.cell?_alloc_new w _ _ _
    · simp at hj))]
  simp [ByteArray.push]

theorem ret_str {a b : List UInt8} (h : a = b) : Ending.returned (.string ⟨a.toArray⟩) = .returned (.string ⟨b.toArray⟩) := by rw [h]

theorem str_cons (a : UInt8) (t : List UInt8) : ({ data := #[a] } ++ { data := t.toArray } : ByteArray) = { data := (a :: t).toArray } := by
  apply ByteArray.ext; simp

theorem digs_length (n k : Nat) (t : List UInt8) (h1 : n ≤ 9223372036854775808) (h : digs n = digs k ++ t) : t.length ≤ 20 := by
  have h2 : (digs n).length ≤ 20 := by
    unfold digs
    split
    · simp
    · rw [Lib.decDigits_length]; exact Lib.nDigits_le20 n (by omega)
  rw [h, List.length_append] at h2
  omega

theorem round_str (k : Nat) (t : List UInt8) (b : UInt8) (h : b = UInt8.ofNat (48 + k % 10)) : (Value.string ({ data := #[b] } ++ { data := t.toArray })) = Value.string { data := ([UInt8.ofNat (48 + k % 10)] ++ t).toArray } := by
  rw [str_cons, h]; rfl
theorem round_digs (n k : Nat) (t : List UInt8) (hk : ¬ k = 0) (h : digs n = digs k ++ t) : digs n = digs (k / 10) ++ ([UInt8.ofNat (48 + k % 10)] ++ t) := by
  rw [h, digs_step k hk, List.append_assoc]

set_option maxRecDepth 100000 in
set_option maxHeartbeats 1000000 in
theorem format_neg (n : Nat) (h0 : 1 ≤ n) (h1 : n ≤ 9223372036854775808) (w : World) :
    Calls Try.prog 111 #[.int .i64 (-(n : Int))] w fun e w' => e = .returned (.string ⟨(45 :: Lib.decDigits n).toArray⟩) ∧ Below w.heap.size w w' := by
  have hb : (-(n : Int) == 0) = false := by rw [beq_eq_false_iff_ne]; omega
  have hlt : 0 < n := h0
  go_enter Try.func111, Try.ntmps111
  go_wp2
  go_loopw [0, 4] (fun m o wr => ∃ (k : Nat) (t : List UInt8), m = .int .i64 (-(k : Int)) ∧ k ≤ n ∧ o = .string ⟨t.toArray⟩ ∧ digs n = digs k ++ t ∧ Below w.heap.size w wr) (fun m _ _ => (intOf m).natAbs)
  case atStart => exact ⟨n, [], rfl, Nat.le_refl _, rfl, by simp, Below.refl _ _⟩
  case round =>
    obtain ⟨k, t, rfl, hk, rfl, hd, hB⟩ := hrel
    have hT : t.length ≤ 20 := digs_length n k t h1 hd
    have HD : Hid (digs n = digs k ++ t) := hd
    clear hd
    have hkc := fun (w : World) (x : Int) => one_byte w x
    by_cases hk0 : k = 0
    · subst hk0
      go_wp2
      go_ret
      have hd := HD.out
      rw [show digs 0 = [] from rfl, List.nil_append] at hd
      refine ⟨?_, hB⟩
      rw [str_cons, ← hd]
      unfold digs
      rw [if_neg (by omega)]
      rfl
    · have hne : (-(k : Int) != 0) = true := by rw [bne_iff_ne]; omega
      have hsz := hB.size
      by_cases hm1 : 0 < (k : Int) % 10
      all_goals
        go_wp2
        go_roundw
        case rel => exact ⟨k / 10, [UInt8.ofNat (48 + k % 10)] ++ t, by go_num, by omega, round_str k t _ (by first | (rw [UInt8.ofNat_add]; rfl) | (congr 1; omega)), round_digs n k t hk0 HD.out, hB.alloc hsz _⟩
        case measure => simp [intOf]; omega

set_option maxRecDepth 100000 in
set_option maxHeartbeats 1000000 in
theorem format_pos (n : Nat) (h0 : 1 ≤ n) (h1 : n ≤ 9223372036854775807) (w : World) :
    Calls Try.prog 111 #[.int .i64 (n : Int)] w fun e w' => e = .returned (.string ⟨(Lib.decDigits n).toArray⟩) ∧ Below w.heap.size w w' := by
  have hb : ((n : Int) == 0) = false := by rw [beq_eq_false_iff_ne]; omega
  have hlt : 0 < n := h0
  go_enter Try.func111, Try.ntmps111
  go_wp2
  go_loopw [0, 4] (fun m o wr => ∃ (k : Nat) (t : List UInt8), m = .int .i64 (k : Int) ∧ k ≤ n ∧ o = .string ⟨t.toArray⟩ ∧ digs n = digs k ++ t ∧ Below w.heap.size w wr) (fun m _ _ => (intOf m).natAbs)
  case atStart => exact ⟨n, [], rfl, Nat.le_refl _, rfl, by simp, Below.refl _ _⟩
  case round =>
    obtain ⟨k, t, rfl, hk, rfl, hd, hB⟩ := hrel
    have hT : t.length ≤ 20 := digs_length n k t (by omega) hd
    have HD : Hid (digs n = digs k ++ t) := hd
    clear hd
    have hkc := fun (w : World) (x : Int) => one_byte w x
    by_cases hk0 : k = 0
    · subst hk0
      go_wp2
      go_ret
      have hd := HD.out
      rw [show digs 0 = [] from rfl, List.nil_append] at hd
      refine ⟨?_, hB⟩
      rw [← hd]
      unfold digs
      rw [if_neg (by omega)]
      rfl
    · have hne : ((k : Int) != 0) = true := by rw [bne_iff_ne]; omega
      have hsz := hB.size
      go_wp2
      go_roundw
      case rel => exact ⟨k / 10, [UInt8.ofNat (48 + k % 10)] ++ t, by go_num, by omega, round_str k t _ (by first | (rw [UInt8.ofNat_add]; rfl) | (congr 1; omega)), round_digs n k t hk0 HD.out, hB.alloc hsz _⟩
      case measure => simp [intOf]; omega

set_option maxRecDepth 100000 in
theorem format_zero (w : World) :
    Calls Try.prog 111 #[.int .i64 0] w fun e w' => e = .returned (.string ⟨#[48]⟩) ∧ Below w.heap.size w w' := by
  go_enter Try.func111, Try.ntmps111
  go_wp2
  go_ret
  exact ⟨rfl, Below.refl _ _⟩

/-- spec.FormatInt: the decimal numeral. -/
theorem format_any (n : Int) (h0 : -9223372036854775808 ≤ n) (h1 : n ≤ 9223372036854775807) (w : World) :
    Calls Try.prog 111 #[.int .i64 n] w fun e w' => e = .returned (.string ⟨(Lib.itoa n).toArray⟩) ∧ Below w.heap.size w w' := by
  by_cases hz : n = 0
  · subst hz
    rw [show Lib.itoa 0 = [48] by rw [Lib.itoa, if_neg (by omega)]; exact Lib.decDigits_one (by omega)]
    exact format_zero w
  · by_cases hneg : n < 0
    · obtain ⟨u, rfl⟩ : ∃ u : Nat, n = -(u : Int) := ⟨n.natAbs, by omega⟩
      rw [Lib.itoa_neg u (by omega)]
      exact format_neg u (by omega) (by omega) w
    · obtain ⟨u, rfl⟩ : ∃ u : Nat, n = (u : Int) := ⟨n.toNat, by omega⟩
      rw [Lib.itoa_nonneg u]
      exact format_pos u (by omega) (by omega) w

end Go.Proofs.Ytpakjcagdnnedaa
