/-
  WALKS: slices of strings: what they read as; the laws' own equality.
-/
import Derived.Test.YtmonaiojejbhkaaMem
import Derived.Test.YtmonaiojejbhkaaProg
import Derived.WalkKit
import Derived.WalkLawsBesides
import Derived.Outline
import Derived.Lib.Hide
import Derived.Deep.QuietTactic
import Derived.BigQuiet
import Derived.WalkSmall
namespace Go.Proofs.Ytmonaiojejbhkaa
open Go.RowKit

/-- A slice's address and length read as the strings xs (whatever the address where there are none). -/
def Strs (w : World) (a : Option Addr) (xs : List ByteArray) : Prop := ∀ j, j < xs.length → ∃ b o, a = some ⟨b, o, none⟩ ∧ w.cell? ⟨b, o + j, none⟩ = some (.string (xs.getD j ByteArray.empty))

/-- A slice reads as the strings xs. -/
def StrRow (w : World) (b o : Nat) (xs : List ByteArray) : Prop := ∀ j, j < xs.length → w.cell? ⟨b, o + j, none⟩ = some (.string (xs.getD j ByteArray.empty))

theorem StrRow.strs {w : World} {b o : Nat} {xs : List ByteArray} (h : StrRow w b o xs) : Strs w (some ⟨b, o, none⟩) xs := fun j hj => ⟨b, o, rfl, h j hj⟩
theorem StrRow.of_block {w w' : World} {b o : Nat} {xs : List ByteArray} (h : StrRow w b o xs) (hb : w'.heap[b]? = w.heap[b]?) : StrRow w' b o xs := fun j hj => by
  rw [World.cell?_of_block (w := w) (w' := w') (a := ⟨b, o + j, none⟩) hb]; exact h j hj
theorem Strs.keeps {w w' : World} {a : Option Addr} {xs : List ByteArray} (h : Strs w a xs) (hb : Below w.heap.size w w') : Strs w' a xs := fun j hj => by
  obtain ⟨b, o, e, hc⟩ := h j hj
  exact ⟨b, o, e, by rw [hb.cell (p := ⟨b, o + j, none⟩) (World.block_lt_of_cell? w _ hc)]; exact hc⟩

end Go.Proofs.Ytmonaiojejbhkaa
