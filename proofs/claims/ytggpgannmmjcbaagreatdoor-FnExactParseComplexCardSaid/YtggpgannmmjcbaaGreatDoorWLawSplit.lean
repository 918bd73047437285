/-
  THE WALK of the law on SplitByte.
-/
import Derived.Test.YtggpgannmmjcbaaGreatDoorWSplit
namespace Go.Proofs.YtggpgannmmjcbaaGreatDoor
open Go.RowKit
open Pieces (strs)

theorem gMax : Tryz.prog.globalNamed "internal/bytealg.MaxLen" = some 0 := by kernel_rfl

/-- The library's bound is some int. -/
def MaxIs (w : World) : Prop := ∃ m, w.cell? ⟨0, 0, none⟩ = some (.int .i64 m)
theorem MaxIs.keeps {w w' : World} (h : MaxIs w) (hb : Below w.heap.size w w') : MaxIs w' := by
  obtain ⟨m, hm⟩ := h
  exact ⟨m, by rw [hb.cell (p := ⟨0, 0, none⟩) (World.block_lt_of_cell? w _ hm)]; exact hm⟩

theorem implSplit_row (s : ByteArray) (b : UInt8) (hs : s.size ≤ 1048576) (w : World) (hm : MaxIs w) :
    Calls Tryz.prog 15 #[.string s, .int .u8 (b.toNat : Int)] w fun e w' =>
      e = .returned (.slice (some ⟨w.heap.size + 1, 0, none⟩) (strs b s).length (strs b s).length) ∧ Below w.heap.size w w' ∧ w'.heap.size = w.heap.size + 2 ∧ StrRow w' (w.heap.size + 1) 0 (strs b s) ∧ (∀ j, w'.frozen? ⟨w.heap.size + 1, j, none⟩ = false) := by
  obtain ⟨m, hm⟩ := hm
  exact (implSplit_any s b hs m w hm).mono fun e w' ⟨he, hw⟩ => ⟨he, by subst hw; exact ⟨cut_below _ _ _, cut_size _ _ _, cut_row _ _ _, cut_frozen _ _ _⟩⟩

end Go.Proofs.YtggpgannmmjcbaaGreatDoor
