/-
  WALKS: slices of strings: what they read as; the laws' own equality.
-/
import Derived.Test.YtdfjledphobgdaaDoorMem
import Derived.Test.YtdfjledphobgdaaDoorProg
import Derived.WalkKit
import Derived.WalkLawsBesides
import Derived.Outline
import Derived.Lib.Hide
import Derived.Deep.QuietTactic
import Derived.BigQuiet
import Derived.WalkSmall
namespace Go.Proofs.YtdfjledphobgdaaDoor
open Go.RowKit

/-- A slice's address and length read as the strings xs (whatever the address where there are none). -/
def Strs (w : World) (a : Option Addr) (xs : List ByteArray) : Prop := ∀ j, j < xs.length → ∃ b o, a = some ⟨b, o, none⟩ ∧ w.cell? ⟨b, o + j, none⟩ = some (.string (xs.getD j ByteArray.empty))

/-- A slice reads as the strings xs. -/
def StrRow (w : World) (b o : Nat) (xs : List ByteArray) : Prop := ∀ j, j < xs.length → w.cell? ⟨b, o + j, none⟩ = some (.string (xs.getD j ByteArray.empty))

theorem StrRow.strs {w : World} {b o : Nat} {xs : List ByteArray} (h : StrRow w b o xs) : Strs w (some ⟨b, o, none⟩) xs := fun j hj => ⟨b, o, rfl, h j hj⟩
theorem StrRow.of_block {w w' : World} {b o : Nat} {xs : List ByteArray} (h : StrRow w b o xs) (hb : w'.heap[b]? = w.heap[b]?) : StrRow w' b o xs := fun j hj => by
  rw [World.cell?_of_block (w := w) (w' := w') (a := ⟨b, o + j, none⟩) hb]; exact h j hj
theorem Strs.keeps {w w' : World} {a : Option Addr} {xs : List ByteArray} (h : Strs w a xs) (hb : Below w.heap.size w w') : Strs w' a xs := fun j hj => by
  obtain ⟨b, o, e, hc⟩ := h j hj
  exact ⟨b, o, e, by rw [hb.cell (p := ⟨b, o + j, none⟩) (World.block_lt_of_cell? w _ hc)]; exact hc⟩

set_option maxRecDepth 100000 in
set_option maxHeartbeats 1000000 in
theorem eqStr_any (a1 a2 : Option Addr) (c1 c2 : Nat) (xs : List ByteArray) (hlen : xs.length ≤ 1099511627776) (w : World) (h1 : Strs w a1 xs) (h2 : Strs w a2 xs) :
    Calls Tryd.prog 22 #[.slice a1 xs.length c1, .slice a2 xs.length c2] w fun e w' => e = .returned (.bool true) ∧ ∃ n, w' = w.drewN n := by
  have H1 := Lib.hid h1
  have H2 := Lib.hid h2
  clear h1 h2
  go_enter Tryd.func22, Tryd.ntmps22
  go_wp2
  go_loopw [5] (fun i wr => ∃ k n : Nat, k ≤ xs.length ∧ i = .int .i64 k ∧ wr = w.drewN n) (fun i _ => xs.length - (intOf i).toNat)
  case atStart => exact ⟨0, 0, Nat.zero_le _, rfl, rfl⟩
  case round =>
    obtain ⟨k, n, hk, rfl, rfl⟩ := hrel
    by_cases hlt : k < xs.length
    · obtain ⟨b1, o1, rfl, g1⟩ := H1.out k hlt
      obtain ⟨b2, o2, rfl, g2⟩ := H2.out k hlt
      go_wp2
      go_quiet (fail)
      go_wp2
      go_roundw
      case rel => exact ⟨k + 1, n + nq, by omega, by go_num, rfl⟩
      case measure => simp [intOf]; omega
    · go_wp2
      go_ret
      exact ⟨rfl, n, rfl⟩

theorem eqStr_o (a1 a2 : Option Addr) (c1 c2 : Nat) (xs : List ByteArray) (hlen : xs.length ≤ 1099511627776) (w : World) (h1 : Strs w a1 xs) (h2 : Strs w a2 xs) :
    Calls Tryd.prog 22 #[.slice a1 xs.length c1, .slice a2 xs.length c2] w fun e w' => e = .returned (.bool true) ∧ Below w.heap.size w w' :=
  (eqStr_any a1 a2 c1 c2 xs hlen w h1 h2).mono fun e w' ⟨he, n, hw⟩ => ⟨he, by subst hw; exact Mem.below_drewN w n⟩

theorem eqStr_b (b1 o1 c1 b2 o2 c2 : Nat) (xs : List ByteArray) (hlen : xs.length ≤ 1099511627776) (w : World) (h1 : StrRow w b1 o1 xs) (h2 : StrRow w b2 o2 xs) :
    Calls Tryd.prog 22 #[.slice (some ⟨b1, o1, none⟩) xs.length c1, .slice (some ⟨b2, o2, none⟩) xs.length c2] w fun e w' => e = .returned (.bool true) ∧ Below w.heap.size w w' :=
  eqStr_o _ _ c1 c2 xs hlen w h1.strs h2.strs

end Go.Proofs.YtdfjledphobgdaaDoor
