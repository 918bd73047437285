/-
  WALKS: how many points a set has, which of two comes first, its points, its subsets.
-/
import Derived.Test.YtmonaiojejbhkaaWSet1
namespace Go.Proofs.Ytmonaiojejbhkaa
open Go.RowKit
open Sets

theorem fin64 {P : Nat → Prop} (h : ∀ t : Fin 64, P t.val) : ∀ s : Nat, s < 64 → P s := fun s hs => h ⟨s, hs⟩
theorem fin64b {P : Nat → Nat → Prop} (h : ∀ t u : Fin 64, P t.val u.val) : ∀ s r : Nat, s < 64 → r < 64 → P s r := fun s r hs hr => h ⟨s, hs⟩ ⟨r, hr⟩
theorem ret_int {k : IntKind} {a b : Int} (h : a = b) : Ending.returned (.int k a) = .returned (.int k b) := by rw [h]
theorem ret_bool {a b : Bool} (h : a = b) : Ending.returned (.bool a) = .returned (.bool b) := by rw [h]

/-- SizeOf. -/
def sizeZ (x : Int) : Int := if okZ x = true then (pc x.toNat : Int) else -1
theorem sizeZ_nat (s : Nat) (h : s < 64) : sizeZ (s : Int) = (pc s : Int) := by unfold sizeZ; rw [if_pos ((okZ_nat s).2 h)]; rfl
theorem okZ_cast (x : Int) (h : okZ x = true) : ∃ s : Nat, x = (s : Int) ∧ s < 64 := by
  have := (okZ_iff x).1 h
  exact ⟨x.toNat, by omega, by omega⟩

theorem and_one (t : Nat) (h : t < 64) : bits BinOp.and IntKind.i64 (t : Int) 1 = ((t % 2 : Nat) : Int) := by
  revert t
  refine fin64 ?_
  decide +kernel

set_option maxRecDepth 100000 in
set_option maxHeartbeats 2000000 in
theorem l2Size_any (s : Nat) (hs : s < 64) (w : World) : Calls Try.prog 58 #[.int .i64 (s : Int)] w fun e w' => e = .returned (.int .i64 (pc s : Int)) ∧ w = w' := by
  go_enter Try.func58, Try.ntmps58
  go_wp2
  go_loop [0, 3] (fun x n => ∃ t m : Nat, t < 64 ∧ x = .int .i64 (t : Int) ∧ n = .int .i64 (m : Int) ∧ m ≤ 64 ∧ m + pc t = pc s) (fun x _ => (intOf x).toNat)
  case atStart => exact ⟨s, 0, hs, rfl, rfl, by omega, by omega⟩
  case round =>
    obtain ⟨t, m, ht, rfl, rfl, hm, he⟩ := hrel
    have HE := Lib.hid he
    clear he
    by_cases hpos : 0 < t
    · have ha := and_one t ht
      have hh := pc_half t ht
      have hl := pc_le s
      have HH := Lib.hid hh
      clear hh
      go_wp2
      go_round
      case rel =>
        have h1 := HH.out
        have h2 := HE.out
        exact ⟨t / 2, m + t % 2, by omega, by go_num, by first | (rw [ha]; go_num) | go_num, by omega, by omega⟩
      case measure => simp [intOf]; omega
    · have E := Lib.hid (show t = 0 by omega)
      go_wp2
      go_ret
      refine ⟨ret_int ?_, rfl⟩
      have h2 := HE.out
      rw [E.out, pc_zero] at h2
      omega

/-- Is a before b? -/
def befN (a b : Nat) : Bool := decide (pc a < pc b ∨ pc a = pc b ∧ a < b)
/-- BeforeSet. -/
def befZ (a b : Int) : Bool := okZ a && okZ b && befN a.toNat b.toNat

set_option maxRecDepth 100000 in
set_option maxHeartbeats 2000000 in
theorem l2Before_any (s t : Nat) (hs : s < 64) (ht : t < 64) (w : World) : Calls Try.prog 76 #[.int .i64 (s : Int), .int .i64 (t : Int)] w fun e w' => e = .returned (.bool (befN s t)) ∧ w = w' := by
  have p1 := pc_le s
  have p2 := pc_le t
  by_cases hlt : pc s < pc t
  · have e : befN s t = true := by unfold befN; simp [hlt]
    rw [e]
    clear e
    go_enter Try.func76, Try.ntmps76
    go_wp2_with fail
    refine (l2Size_any s hs _).mono ?_
    rintro e w' ⟨rfl, rfl⟩
    go_wp2_with fail
    refine (l2Size_any t ht _).mono ?_
    rintro e w' ⟨rfl, rfl⟩
    go_wp2
    go_ret
    exact ⟨rfl, rfl⟩
  · by_cases hq : pc s = pc t
    · have e : befN s t = decide (s < t) := by unfold befN; simp [hq]
      rw [e]
      clear e
      have hq' : ((pc s : Int) == (pc t : Int)) = true := by rw [hq]; simp
      have hl' : decide (pc s < pc t) = false := by simpa using hlt
      have HQ := Lib.hid hq
      clear hq hlt
      go_enter Try.func76, Try.ntmps76
      go_wp2_with fail
      refine (l2Size_any s hs _).mono ?_
      rintro e w' ⟨rfl, rfl⟩
      go_wp2_with fail
      refine (l2Size_any t ht _).mono ?_
      rintro e w' ⟨rfl, rfl⟩
      go_wp2
      go_ret
      exact ⟨rfl, rfl⟩
    · have e : befN s t = false := by unfold befN; simp [hq]; omega
      rw [e]
      clear e
      have hq' : ((pc s : Int) == (pc t : Int)) = false := by simp; omega
      have hl' : decide (pc s < pc t) = false := by simpa using hlt
      clear hq hlt
      go_enter Try.func76, Try.ntmps76
      go_wp2_with fail
      refine (l2Size_any s hs _).mono ?_
      rintro e w' ⟨rfl, rfl⟩
      go_wp2_with fail
      refine (l2Size_any t ht _).mono ?_
      rintro e w' ⟨rfl, rfl⟩
      go_wp2
      go_ret
      exact ⟨rfl, rfl⟩

end Go.Proofs.Ytmonaiojejbhkaa
