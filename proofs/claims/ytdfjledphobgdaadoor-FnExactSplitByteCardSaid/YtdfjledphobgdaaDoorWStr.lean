/-
  WALKS: the laws' own helpers on slices of strings: equal rows, the marks, what is held.
-/
import Derived.Test.YtdfjledphobgdaaDoorWNum
import Derived.Test.YtdfjledphobgdaaDoorStrRow
import Derived.Deep.QuietTactic
import Derived.BigQuiet
import Derived.BigRegion
import Derived.Deep.RegionHeld3
import Derived.WalkSmall
namespace Go.Proofs.YtdfjledphobgdaaDoor
open Go.RowKit

/-- The mark of a number from 1 on. -/
def mk (k : Nat) : ByteArray := ⟨(109 :: Lib.decDigits k).toArray⟩
def marks (k n : Nat) : List ByteArray := (List.range n).map fun j => mk (k + j)
theorem marks_length (k n : Nat) : (marks k n).length = n := by simp [marks]
theorem marks_at (k n j : Nat) (h : j < n) : (marks k n).getD j ByteArray.empty = mk (k + j) := by
  simp [marks, List.getD, h]

set_option maxRecDepth 100000 in
set_option maxHeartbeats 1000000 in
theorem mark_any (n : Nat) (h0 : 1 ≤ n) (h1 : n ≤ 9223372036854775807) (w : World) :
    Calls Tryd.prog 36 #[.int .i64 (n : Int)] w fun e w' => e = .returned (.string (mk n)) ∧ Below w.heap.size w w' := by
  have hlt : 0 < n := h0
  go_enter Tryd.func36, Tryd.ntmps36
  go_wp2
  go_loopw [0, 3] (fun m o wr => ∃ (k : Nat) (t : List UInt8), m = .int .i64 (k : Int) ∧ k ≤ n ∧ o = .string ⟨t.toArray⟩ ∧ Num.digs n = Num.digs k ++ t ∧ Below w.heap.size w wr) (fun m _ _ => (intOf m).natAbs)
  case atStart => exact ⟨n, [], rfl, Nat.le_refl _, rfl, by simp, Below.refl _ _⟩
  case round =>
    obtain ⟨k, t, rfl, hk, rfl, hd, hB⟩ := hrel
    have hT : t.length ≤ 20 := digs_length n k t (by omega) hd
    have HD : Hid (Num.digs n = Num.digs k ++ t) := hd
    clear hd
    have hkc := fun (w : World) (x : Int) => one_byte w x
    have hsz := hB.size
    by_cases hk0 : k = 0
    · subst hk0
      go_wp2
      go_ret
      have hd := HD.out
      rw [show Num.digs 0 = [] from rfl, List.nil_append] at hd
      refine ⟨?_, hB⟩
      rw [str_cons, ← hd]
      unfold Num.digs mk
      rw [if_neg (by omega)]
      rfl
    · have hk1 : 0 < k := by omega
      go_wp2
      go_roundw
      case rel => exact ⟨k / 10, [UInt8.ofNat (48 + k % 10)] ++ t, by go_num, by omega, round_str k t _ (by first | (rw [UInt8.ofNat_add]; rfl) | (congr 1; omega)), round_digs n k t hk0 HD.out, hB.alloc hsz _⟩
      case measure => simp [intOf]; omega

set_option maxRecDepth 100000 in
set_option maxHeartbeats 1000000 in
theorem markStr_any (b o c n k : Nat) (hn : n ≤ 1099511627776) (hk : 1 ≤ k) (hk2 : k ≤ 1099511627776) (w : World) (hb : b < w.heap.size)
    (hc : ∀ j, j < n → ∃ x, w.cell? ⟨b, o + j, none⟩ = some x) (hf : ∀ j, j < n → w.frozen? ⟨b, o + j, none⟩ = false) :
    Calls Tryd.prog 23 #[.slice (some ⟨b, o, none⟩) n c, .int .i64 (k : Int)] w fun e w' =>
      e = .returned (.int .i64 ((k + n : Nat) : Int)) ∧ StrRow w' b o (marks k n) ∧ w.grownBy w' (some b) := by
  have HC := Lib.hid hc
  have HF := Lib.hid hf
  clear hc hf
  go_enter Tryd.func23, Tryd.ntmps23
  go_wp2
  go_loopw [1, 5] (fun m i wr => ∃ j : Nat, j ≤ n ∧ i = .int .i64 (j : Int) ∧ m = .int .i64 ((k + j : Nat) : Int) ∧ w.grownBy wr (some b) ∧
      (∀ t, t < j → wr.cell? ⟨b, o + t, none⟩ = some (.string (mk (k + t)))) ∧ (∀ t, t < n → ∃ x, wr.cell? ⟨b, o + t, none⟩ = some x) ∧ (∀ t, t < n → wr.frozen? ⟨b, o + t, none⟩ = false)) (fun _ i _ => n - (intOf i).toNat)
  case atStart => exact ⟨0, Nat.zero_le _, rfl, rfl, Mem.but_refl _ _, fun t ht => absurd ht (Nat.not_lt_zero _), HC.out, HF.out⟩
  case round =>
    obtain ⟨j, hj, rfl, rfl, hg, hm, hx, hz⟩ := hrel
    have HM := Lib.hid hm
    have HX := Lib.hid hx
    have HZ := Lib.hid hz
    clear hm hx hz
    have hsz := hg.size
    by_cases hlt : j < n
    · obtain ⟨x, hx⟩ := HX.out j hlt
      have hz := HZ.out j hlt
      go_wp2_with fail
      refine (mark_any (k + j) (by omega) (by omega) _).mono ?_
      rintro e w1 ⟨rfl, hb1⟩
      have hlt1 : b < wr.heap.size := by omega
      have hx1 : w1.cell? ⟨b, o + j, none⟩ = some x := by rw [hb1.cell (p := ⟨b, o + j, none⟩) hlt1]; exact hx
      have hz1 : w1.frozen? ⟨b, o + j, none⟩ = false := by rw [hb1.frozen (p := ⟨b, o + j, none⟩) hlt1]; exact hz
      clear hx hz
      go_wp2
      go_roundw
      case rel =>
        have hc1 := fun t => hb1.cell (p := ⟨b, o + t, none⟩) hlt1
        have hf1 := fun t => hb1.frozen (p := ⟨b, o + t, none⟩) hlt1
        refine ⟨j + 1, by omega, by go_num, by go_num, (hg.trans (Mem.but_of_below hb1 _)).trans (Mem.but_setCell _ _ _ _), fun t ht => ?_, fun t ht => ?_, fun t ht => ?_⟩
        · by_cases e : t = j
          · subst e; exact World.cell?_setCell_same _ _ _ hx1
          · rw [World.cell?_setCell_other _ _ _ _ (fun h => e (by injection h with _ h2; omega)), hc1]; exact HM.out t (by omega)
        · by_cases e : t = j
          · subst e; exact ⟨_, World.cell?_setCell_same _ _ _ hx1⟩
          · rw [World.cell?_setCell_other _ _ _ _ (fun h => e (by injection h with _ h2; omega)), hc1]; exact HX.out t ht
        · rw [World.frozen?_setCell, hf1]; exact HZ.out t ht
      case measure => simp [intOf]; omega
    · have e : j = n := by omega
      have E := Lib.hid e
      clear e
      go_wp2
      go_ret
      refine ⟨by rw [E.out]; rfl, fun t ht => ?_, hg⟩
      rw [marks_length] at ht
      rw [marks_at k n t ht]
      exact HM.out t (by rw [E.out]; exact ht)

set_option maxRecDepth 100000 in
set_option maxHeartbeats 1000000 in
theorem heldStr_any (b o c n k : Nat) (hn : n ≤ 1099511627776) (hk : 1 ≤ k) (hk2 : k ≤ 1099511627776) (w : World) (hb : b < w.heap.size) (hc : StrRow w b o (marks k n)) :
    Calls Tryd.prog 24 #[.slice (some ⟨b, o, none⟩) n c, .int .i64 (k : Int)] w fun e w' =>
      e = .returned (.int .i64 ((k + n : Nat) : Int)) ∧ Below w.heap.size w w' := by
  have HC := Lib.hid hc
  clear hc
  go_enter Tryd.func24, Tryd.ntmps24
  go_wp2
  go_loopw [1, 5] (fun m i wr => ∃ j : Nat, j ≤ n ∧ i = .int .i64 (j : Int) ∧ m = .int .i64 ((k + j : Nat) : Int) ∧ Below w.heap.size w wr) (fun _ i _ => n - (intOf i).toNat)
  case atStart => exact ⟨0, Nat.zero_le _, rfl, rfl, Below.refl _ _⟩
  case round =>
    obtain ⟨j, hj, rfl, rfl, hB⟩ := hrel
    have hsz := hB.size
    by_cases hlt : j < n
    · have hc0 : w.cell? ⟨b, o + j, none⟩ = some (.string (mk (k + j))) := by
        have := HC.out j (by rw [marks_length]; exact hlt)
        rwa [marks_at k n j hlt] at this
      have hcr : wr.cell? ⟨b, o + j, none⟩ = some (.string (mk (k + j))) := by rw [hB.cell (p := ⟨b, o + j, none⟩) hb]; exact hc0
      have hbr : b < wr.heap.size := by omega
      clear hc0
      go_wp2_with fail
      go_region_held3 (fun w' => w'.cell? ⟨b, o + j, none⟩ = some (.string (mk (k + j))) ∧ Below w.heap.size w w') (first | (exact ⟨hcr, hB.drew⟩) | (exact ⟨(hb1.cell (p := ⟨b, o + j, none⟩) hbr).trans hcr, hB.drew.trans (hb1.mono hsz)⟩)) (first | (go_at_call 36; refine (mark_any (k + j) (by omega) (by omega) _).mono ?_; rintro e w1 ⟨rfl, hb1⟩))
      go_wp2
      go_roundw
      case rel => exact ⟨j + 1, by omega, by go_num, by go_num, hB.drew.trans (hb1.mono hsz)⟩
      case measure => simp [intOf]; omega
    · have e : j = n := by omega
      have E := Lib.hid e
      clear e
      go_wp2
      go_ret
      exact ⟨by rw [E.out]; rfl, hB⟩

/-! ### as the laws call them -/

theorem markStr_b (b o c n : Nat) (k : Int) (m : Nat) (hm : k = (m : Int)) (hn : n ≤ 1099511627776) (hk : 1 ≤ m) (hk2 : m ≤ 1099511627776) (w : World) (hb : b < w.heap.size)
    (hc : ∀ j, j < n → ∃ x, w.cell? ⟨b, o + j, none⟩ = some x) (hf : ∀ j, j < n → w.frozen? ⟨b, o + j, none⟩ = false) :
    Calls Tryd.prog 23 #[.slice (some ⟨b, o, none⟩) n c, .int .i64 k] w fun e w' =>
      e = .returned (.int .i64 ((m + n : Nat) : Int)) ∧ StrRow w' b o (marks m n) ∧ w.grownBy w' (some b) := by
  subst hm; exact markStr_any b o c n m hn hk hk2 w hb hc hf

theorem heldStr_b (b o c n : Nat) (k : Int) (m : Nat) (hm : k = (m : Int)) (hn : n ≤ 1099511627776) (hk : 1 ≤ m) (hk2 : m ≤ 1099511627776) (w : World) (hb : b < w.heap.size) (hc : StrRow w b o (marks m n)) :
    Calls Tryd.prog 24 #[.slice (some ⟨b, o, none⟩) n c, .int .i64 k] w fun e w' =>
      e = .returned (.int .i64 ((m + n : Nat) : Int)) ∧ Below w.heap.size w w' := by
  subst hm; exact heldStr_any b o c n m hn hk hk2 w hb hc

end Go.Proofs.YtdfjledphobgdaaDoor
