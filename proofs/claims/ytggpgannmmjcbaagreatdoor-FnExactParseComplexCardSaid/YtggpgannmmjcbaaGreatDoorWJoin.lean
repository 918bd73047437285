/-
  WALKS: the law on Join.
-/
import Derived.Test.YtggpgannmmjcbaaGreatDoorWImplJoin
import Derived.Laws.OwnMore
import Derived.OwnWalk
import Derived.Lib.AppendStr
import Derived.Lib.Join
import Derived.Laws.IdiomStrings
import Derived.Lib.BufferRead
namespace Go.Proofs.YtggpgannmmjcbaaGreatDoor
open Go.RowKit

theorem info_str : (Tryz.prog.info? 9).map (fun i => (i.zero, i.size, i.bytes)) = some (some (.string ByteArray.empty), 1, 16) := by kernel_rfl

theorem info_u8 : (Tryz.prog.info? 5).map (fun i => (i.zero, i.size, i.bytes)) = some (some (.int .u8 0), 1, 1) := by kernel_rfl

theorem conv_own (w : World) (base : Nat) (v : Value) (l : List UInt8) (h : w.ownsRow base 5 1 v l.length (Lib.byteCells l)) :
    (convert 46 9 v).run Tryz.prog w = .ok (.string ⟨l.toArray⟩) w := by
  rcases h.2 with ⟨rfl, h0⟩ | ⟨g, cap, _, rfl, _⟩
  · obtain rfl : l = [] := List.eq_nil_of_length_eq_zero h0
    exact Lib.run_convert_nil_bytes w _ _ 5 0 Tryz.underlying46 Tryz.underlying5 Tryz.underlying9
  · refine run_convert_bytes_back w _ _ 5 ⟨g, 0, none⟩ cap l Tryz.underlying46 Tryz.underlying5 Tryz.underlying9 (fun j hj => ?_)
    refine h.cells (g := g) rfl j _ ?_
    simp [Lib.byteCells, List.getElem?_eq_getElem hj]

/-- A row of bytes that the call owns. -/
theorem cells_bytes (l : List UInt8) (s : ByteArray) : Lib.byteCells l ++ Lib.strCells s = Lib.byteCells (l ++ s.data.toList) := by
  simp [Lib.byteCells, Lib.strCells]

theorem bytes_size (s : ByteArray) : s.data.toList.length = s.size := Array.length_toList
theorem own_one {w : World} {base : Nat} {v : Value} {l j : List UInt8} {x : ByteArray} (h : w.ownsRow base 5 1 v (l.length + x.size) (Lib.byteCells l ++ Lib.strCells x)) (hl : l = []) (hn : j = x.data.toList) :
    w.ownsRow base 5 1 v j.length (Lib.byteCells j) := by
  subst hl; subst hn
  rw [cells_bytes, List.length_nil, Nat.zero_add, List.nil_append] at h
  rw [bytes_size]; exact h
theorem own_two {w : World} {base : Nat} {v : Value} {l j : List UInt8} {s x : ByteArray} (h : w.ownsRow base 5 1 v (l.length + s.size + x.size) (Lib.byteCells l ++ (Lib.strCells s ++ Lib.strCells x))) (hn : j = l ++ s.data.toList ++ x.data.toList) :
    w.ownsRow base 5 1 v j.length (Lib.byteCells j) := by
  subst hn
  rw [← List.append_assoc, cells_bytes, cells_bytes] at h
  rw [List.length_append, List.length_append, bytes_size, bytes_size]; exact h

end Go.Proofs.YtggpgannmmjcbaaGreatDoor
