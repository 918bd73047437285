/-
  WALKS: spec's chapter 5: meet (written by genpart.py).
-/
import Derived.Test.YtcgfioakjmbciaaJg15
import Derived.Laws.AppendOwnNone
import Derived.StillTactics
import Derived.Deep.RegionHeld3
import Derived.Deep.AppendLies
namespace Go.Proofs.Ytcgfioakjmbciaa
open Go.RowKit
open Sets

theorem Ints.news {w : World} {ad : Addr} {xs : List Int} (h : Ints w (some ad) xs) : ∀ (j : Nat) u, (xs.map (Value.int .i64))[j]? = some u → w.cell? (ad.add j) = some u := fun j u hu => by
  have hj : j < (xs.map (Value.int .i64)).length := (List.getElem?_eq_some_iff.1 hu).1
  rw [List.length_map] at hj
  rw [ints_cell xs j hj] at hu
  cases hu
  obtain ⟨b, o, e, hc⟩ := h j hj
  cases e
  have e1 : (⟨b, o, none⟩ : Addr).add j = ⟨b, o + j, none⟩ := by unfold Addr.add; split <;> simp_all
  rw [e1]; exact hc
theorem Ints.none_nil {w : World} {xs : List Int} (h : Ints w none xs) : xs = [] := by
  rcases Nat.eq_zero_or_pos xs.length with e | e
  · exact List.eq_nil_of_length_eq_zero e
  · obtain ⟨_, _, e, _⟩ := h 0 e; cases e
theorem one_ints (xs : List Int) : ∀ u ∈ xs.map (Value.int .i64), u.oneCell' = true := by
  intro u hu; obtain ⟨x, _, rfl⟩ := List.mem_map.1 hu; rfl
theorem bothOk_le {n : Int} {xs : List Int} (h : isC n xs = true) : xs.length ≤ 64 := isC_le h
theorem and_meet2 (f g : Nat) (hf : f < 64) (hg : g < 64) : bits BinOp.and IntKind.i64 (f : Int) (g : Int) = meetZ f (g : Int) := by
  rw [and_meet f g hf hg]
  show ((f &&& g : Nat) : Int) = ((g &&& f : Nat) : Int)
  rw [Nat.and_comm]


end Go.Proofs.Ytcgfioakjmbciaa
