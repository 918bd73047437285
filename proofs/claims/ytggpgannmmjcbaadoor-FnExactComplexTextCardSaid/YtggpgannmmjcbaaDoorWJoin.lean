/-
  WALKS: the law on Join.
-/
import Derived.Test.YtggpgannmmjcbaaDoorWImplJoin
import Derived.Laws.OwnMore
import Derived.OwnWalk
import Derived.Lib.AppendStr
import Derived.Lib.Join
import Derived.Laws.IdiomStrings
import Derived.Lib.BufferRead
namespace Go.Proofs.YtggpgannmmjcbaaDoor
open Go.RowKit

theorem info_str : (Tryd.prog.info? 9).map (fun i => (i.zero, i.size, i.bytes)) = some (some (.string ByteArray.empty), 1, 16) := by kernel_rfl

theorem info_u8 : (Tryd.prog.info? 5).map (fun i => (i.zero, i.size, i.bytes)) = some (some (.int .u8 0), 1, 1) := by kernel_rfl

theorem conv_own (w : World) (base : Nat) (v : Value) (l : List UInt8) (h : w.ownsRow base 5 1 v l.length (Lib.byteCells l)) :
    (convert 39 9 v).run Tryd.prog w = .ok (.string ⟨l.toArray⟩) w := by
  rcases h.2 with ⟨rfl, h0⟩ | ⟨g, cap, _, rfl, _⟩
  · obtain rfl : l = [] := List.eq_nil_of_length_eq_zero h0
    exact Lib.run_convert_nil_bytes w _ _ 5 0 Tryd.underlying39 Tryd.underlying5 Tryd.underlying9
  · refine run_convert_bytes_back w _ _ 5 ⟨g, 0, none⟩ cap l Tryd.underlying39 Tryd.underlying5 Tryd.underlying9 (fun j hj => ?_)
    refine h.cells (g := g) rfl j _ ?_
    simp [Lib.byteCells, List.getElem?_eq_getElem hj]

/-- A row of bytes that the call owns. -/
theorem cells_bytes (l : List UInt8) (s : ByteArray) : Lib.byteCells l ++ Lib.strCells s = Lib.byteCells (l ++ s.data.toList) := by
  simp [Lib.byteCells, Lib.strCells]

theorem bytes_size (s : ByteArray) : s.data.toList.length = s.size := Array.length_toList
theorem own_one {w : World} {base : Nat} {v : Value} {l j : List UInt8} {x : ByteArray} (h : w.ownsRow base 5 1 v (l.length + x.size) (Lib.byteCells l ++ Lib.strCells x)) (hl : l = []) (hn : j = x.data.toList) :
    w.ownsRow base 5 1 v j.length (Lib.byteCells j) := by
  subst hl; subst hn
  rw [cells_bytes, List.length_nil, Nat.zero_add, List.nil_append] at h
  rw [bytes_size]; exact h
theorem own_two {w : World} {base : Nat} {v : Value} {l j : List UInt8} {s x : ByteArray} (h : w.ownsRow base 5 1 v (l.length + s.size + x.size) (Lib.byteCells l ++ (Lib.strCells s ++ Lib.strCells x))) (hn : j = l ++ s.data.toList ++ x.data.toList) :
    w.ownsRow base 5 1 v j.length (Lib.byteCells j) := by
  subst hn
  rw [← List.append_assoc, cells_bytes, cells_bytes] at h
  rw [List.length_append, List.length_append, bytes_size, bytes_size]; exact h

set_option maxRecDepth 100000 in
set_option maxHeartbeats 2000000 in
/-- spec.Join. -/
theorem specJoin_big (a : Option Addr) (c : Nat) (xs : List ByteArray) (s : ByteArray) (hlen : xs.length + bytesOf xs xs.length ≤ 16777216) (hs : s.size ≤ 1048576) (w : World) (h : Strs w a xs) :
    Calls Tryd.prog 22 #[.slice a xs.length c, .string s] w fun e w' => e = .returned (.string ⟨(joined xs s xs.length).toArray⟩) ∧ Below w.heap.size w w' := by
  obtain ⟨i0, hi, hz0, hz1, hz2⟩ := info_parts info_u8
  have H := Lib.hid h
  have hmono : ∀ k, k ≤ xs.length → bytesOf xs k ≤ bytesOf xs xs.length := by
    intro k hk
    unfold bytesOf
    conv => rhs; rw [List.take_length, ← List.take_append_drop k xs]
    rw [List.map_append, List.sum_append]; omega
  have HM := Lib.hid hmono
  clear h hmono
  go_enter Tryd.func22, Tryd.ntmps22
  go_wp2
  go_loopw [5, 6] (fun out i wr => ∃ k : Nat, k ≤ xs.length ∧ i = .int .i64 (k : Int) ∧ wr.ownsRow w.heap.size 5 1 out (joined xs s k).length (Lib.byteCells (joined xs s k)) ∧ Below w.heap.size w wr) (fun _ i _ => xs.length - (intOf i).toNat)
  case atStart =>
    refine ⟨0, Nat.zero_le _, rfl, ?_, (Below.refl _ _).alloc (Nat.le_refl _) _⟩
    exact World.ownsRow_lit _ _ 0 (Nat.le_refl _) (by unfold maxLen; omega) rfl
  case round =>
    obtain ⟨k, hk, rfl, hO, hB⟩ := hrel
    have HO := Lib.hid hO
    clear hO
    have hsz := hB.size
    have hjl := joined_length xs s k hk
    have hbk := HM.out k hk
    have hks : k * s.size ≤ 16777216 * 1048576 := Nat.mul_le_mul (by omega) hs
    have hjl2 : (joined xs s k).length ≤ 16777216 + 16777216 * 1048576 := by omega
    clear hjl hks
    by_cases hlt : k < xs.length
    · obtain ⟨b, o, rfl, g⟩ := H.out k hlt
      have hbl := World.block_lt_of_cell? w _ g
      have g1 : wr.cell? ⟨b, o + k, none⟩ = some (.string (xs.getD k ByteArray.empty)) := by rw [hB.cell (p := ⟨b, o + k, none⟩) hbl]; exact g
      have hxs : (xs.getD k ByteArray.empty).size ≤ 16777216 := by
        have h1 := bytesOf_next xs k hlt
        have h2 := HM.out (k + 1) (by omega)
        omega
      have HN := Lib.hid (joined_next xs s k hlt)
      clear hbk g
      generalize hxe : xs.getD k ByteArray.empty = xk at *
      by_cases hk0 : k = 0
      · subst hk0
        have hj0 : joined xs s 0 = [] := by simp [joined, Lib.join_nil]
        have J0 := Lib.hid hj0
        rw [Nat.add_zero] at g1
        clear hxe hj0
        go_wp2_with (at_builtin; refine Lib.wpList_append_own_string _ rfl _ _ 39 9 rfl w.heap.size 5 i0 Tryd.underlying39 Tryd.underlying9 hi hz0 hz1 hz2 _ _ _ rfl HO.out xk rfl ?c1 ?c2 hsz ?_)
        case c1 => unfold maxLen; omega
        case c2 => omega
        intro v' w1 hown1 hgrow _
        have hB1 : Below w.heap.size w w1 := hB.grown hgrow hsz (fun g hg => (HO.out.lt g hg).1)
        have H1 := Lib.hid hown1
        clear hown1 hgrow
        go_wp2
        go_roundw
        case rel =>
          refine ⟨1, by omega, by go_num, ?_, hB1⟩
          exact own_one H1.out J0.out (by have hn := HN.out; simpa using hn)
        case measure => simp [intOf]; omega
      · have hk1 : 0 < k := by omega
        have XE := Lib.hid hxe
        clear hxe
        go_wp2_with (at_builtin; refine Lib.wpList_append_own_string _ rfl _ _ 39 9 rfl w.heap.size 5 i0 Tryd.underlying39 Tryd.underlying9 hi hz0 hz1 hz2 _ _ _ rfl HO.out s rfl ?c1 ?c2 hsz ?_)
        case c1 => unfold maxLen; omega
        case c2 => omega
        intro v' w1 hown1 hgrow _
        have hB1 : Below w.heap.size w w1 := hB.grown hgrow hsz (fun g hg => (HO.out.lt g hg).1)
        have g2 : w1.cell? ⟨b, o + k, none⟩ = some (.string xk) := by rw [hB1.cell (p := ⟨b, o + k, none⟩) hbl, ← hB.cell (p := ⟨b, o + k, none⟩) hbl]; exact g1
        have hsz1 := hB1.size
        have H1 := Lib.hid hown1
        clear hown1 hgrow g1
        go_wp2_with (at_builtin; refine Lib.wpList_append_own_string _ rfl _ _ 39 9 rfl w.heap.size 5 i0 Tryd.underlying39 Tryd.underlying9 hi hz0 hz1 hz2 _ _ _ rfl H1.out xk rfl ?c1 ?c2 hsz1 ?_)
        case c1 => unfold maxLen; omega
        case c2 => omega
        intro v2 w2 hown2 hgrow2 _
        have hB2 : Below w.heap.size w w2 := hB1.grown hgrow2 hsz1 (fun g hg => (H1.out.lt g hg).1)
        have H2 := Lib.hid hown2
        clear hown2 hgrow2
        go_wp2
        go_roundw
        case rel =>
          refine ⟨k + 1, by omega, by go_num, ?_, hB2⟩
          exact own_two H2.out (by have hn := HN.out; rw [if_neg hk0] at hn; exact hn)
        case measure => simp [intOf]; omega
    · have E := Lib.hid (show k = xs.length by omega)
      have hconv := conv_own wr w.heap.size _ _ HO.out
      go_wp2
      go_ret
      exact ⟨by rw [← E.out]; rfl, hB⟩

theorem specJoin_any (a : Option Addr) (c : Nat) (xs : List ByteArray) (s : ByteArray) (hlen : xs.length + bytesOf xs xs.length ≤ 1048576) (hs : s.size ≤ 1048576) (w : World) (h : Strs w a xs) :
    Calls Tryd.prog 22 #[.slice a xs.length c, .string s] w fun e w' => e = .returned (.string ⟨(joined xs s xs.length).toArray⟩) ∧ Below w.heap.size w w' :=
  specJoin_big a c xs s (by omega) hs w h

end Go.Proofs.YtggpgannmmjcbaaDoor
