/-
  TEXTS of one claim, put together: WSet3, WImplJoin, WJoin, WText.
-/
import Derived.Test.YtenpcjmhlnalcaaGreatJg1
import Derived.Test.YtenpcjmhlnalcaaGreatJg11
import Derived.Lib.Join
import Derived.Laws.OwnMore
import Derived.OwnWalk
import Derived.Lib.AppendStr
import Derived.Laws.IdiomStrings
import Derived.Lib.BufferRead
import Derived.Laws.Concat
/-! WALKS: the points of a set; its subsets; lists in order. -/

namespace Go.Proofs.YtenpcjmhlnalcaaGreat
open Go.RowKit
open Sets

/-- Is point i in s? -/
def ptB (s i : Nat) : Bool := s / 2 ^ i % 2 == 1

theorem shr_and (s i : Nat) (hs : s < 64) : bits BinOp.and IntKind.i64 ((s : Int) / 2 ^ i) 1 = ((s / 2 ^ i % 2 : Nat) : Int) := by
  have h : s / 2 ^ i < 64 := Nat.lt_of_le_of_lt (Nat.div_le_self _ _) hs
  have := and_one (s / 2 ^ i) h
  rw [← this]
  congr 1
theorem ptB_int (s i : Nat) (hs : s < 64) : (bits BinOp.and IntKind.i64 ((s : Int) / 2 ^ i) 1 == 1) = ptB s i := by
  rw [shr_and s i hs]
  unfold ptB
  rw [Bool.eq_iff_iff, beq_iff_eq, beq_iff_eq]
  omega

theorem pts_hit (s i : Nat) (h : ptB s i = true) : pts s (i + 1) = pts s i ++ [(i : Int)] := by
  rw [pts_next, if_pos (by unfold ptB at h; simpa using h)]
theorem pts_miss (s i : Nat) (h : ptB s i = false) : pts s (i + 1) = pts s i := by
  rw [pts_next, if_neg (by unfold ptB at h; simpa using h), List.append_nil]

theorem points_nat (s : Nat) (h : s < 64) : points (s : Int) = pts s 6 := by unfold points; rw [if_pos ((okZ_nat s).2 h)]; rfl
theorem points_no (x : Int) (h : okZ x = false) : points x = [] := by unfold points; rw [if_neg (by rw [h]; simp)]

end Go.Proofs.YtenpcjmhlnalcaaGreat

/-! WALKS: impl.Join, by the library's contract. -/

namespace Go.Proofs.YtenpcjmhlnalcaaGreat
open Go.RowKit

/-- The bytes of the first k strings. -/
def bytesOf (xs : List ByteArray) (k : Nat) : Nat := ((xs.take k).map ByteArray.size).sum
theorem bytesOf_next (xs : List ByteArray) (k : Nat) (h : k < xs.length) : bytesOf xs (k + 1) = bytesOf xs k + (xs.getD k ByteArray.empty).size := by
  unfold bytesOf
  rw [List.take_succ_eq_append_getElem h, List.map_append, List.sum_append, List.getD, List.getElem?_eq_getElem h]
  simp

/-- The bytes that the loop has laid. -/
def joined (xs : List ByteArray) (s : ByteArray) (k : Nat) : List UInt8 := Lib.join ((xs.take k).map (·.data.toList)) s.data.toList

theorem join_snoc (l : List (List UInt8)) (x sep : List UInt8) : Lib.join (l ++ [x]) sep = if l = [] then x else Lib.join l sep ++ sep ++ x := by
  cases l with
  | nil => rw [List.nil_append, Lib.join_one, if_pos rfl]
  | cons y r =>
    rw [List.cons_append, Lib.join_cons, Lib.join_cons, if_neg (by simp)]
    unfold Lib.joinTail
    rw [List.map_append, List.flatten_append]
    simp
theorem joined_next (xs : List ByteArray) (s : ByteArray) (k : Nat) (h : k < xs.length) : joined xs s (k + 1) = if k = 0 then (xs.getD k ByteArray.empty).data.toList else joined xs s k ++ s.data.toList ++ (xs.getD k ByteArray.empty).data.toList := by
  unfold joined
  rw [List.take_succ_eq_append_getElem h, List.map_append, List.map_cons, List.map_nil, join_snoc, List.getD, List.getElem?_eq_getElem h]
  by_cases h0 : k = 0
  · subst h0; simp
  · rw [if_neg, if_neg h0]; rfl
    intro e
    have h2 := congrArg List.length e
    rw [List.length_map, List.length_take, List.length_nil] at h2
    omega
theorem joined_length (xs : List ByteArray) (s : ByteArray) (k : Nat) (h : k ≤ xs.length) : (joined xs s k).length ≤ bytesOf xs k + k * s.size := by
  induction k with
  | zero => simp [joined, Lib.join_nil]
  | succ k ih =>
    have h1 := ih (by omega)
    rw [joined_next xs s k (by omega), bytesOf_next xs k (by omega), Nat.succ_mul]
    split
    · rw [Array.length_toList]; show (xs.getD k ByteArray.empty).size ≤ _; omega
    · rw [List.length_append, List.length_append, Array.length_toList, Array.length_toList]
      show (joined xs s k).length + s.size + (xs.getD k ByteArray.empty).size ≤ _
      omega

end Go.Proofs.YtenpcjmhlnalcaaGreat

/-! WALKS: the law on Join. -/

namespace Go.Proofs.YtenpcjmhlnalcaaGreat
open Go.RowKit

theorem info_str : (Tryz.prog.info? 9).map (fun i => (i.zero, i.size, i.bytes)) = some (some (.string ByteArray.empty), 1, 16) := by kernel_rfl

theorem info_u8 : (Tryz.prog.info? 5).map (fun i => (i.zero, i.size, i.bytes)) = some (some (.int .u8 0), 1, 1) := by kernel_rfl

theorem conv_own (w : World) (base : Nat) (v : Value) (l : List UInt8) (h : w.ownsRow base 5 1 v l.length (Lib.byteCells l)) :
    (convert 22 9 v).run Tryz.prog w = .ok (.string ⟨l.toArray⟩) w := by
  rcases h.2 with ⟨rfl, h0⟩ | ⟨g, cap, _, rfl, _⟩
  · obtain rfl : l = [] := List.eq_nil_of_length_eq_zero h0
    exact Lib.run_convert_nil_bytes w _ _ 5 0 Tryz.underlying22 Tryz.underlying5 Tryz.underlying9
  · refine run_convert_bytes_back w _ _ 5 ⟨g, 0, none⟩ cap l Tryz.underlying22 Tryz.underlying5 Tryz.underlying9 (fun j hj => ?_)
    refine h.cells (g := g) rfl j _ ?_
    simp [Lib.byteCells, List.getElem?_eq_getElem hj]

/-- A row of bytes that the call owns. -/
theorem cells_bytes (l : List UInt8) (s : ByteArray) : Lib.byteCells l ++ Lib.strCells s = Lib.byteCells (l ++ s.data.toList) := by
  simp [Lib.byteCells, Lib.strCells]

theorem bytes_size (s : ByteArray) : s.data.toList.length = s.size := Array.length_toList
theorem own_one {w : World} {base : Nat} {v : Value} {l j : List UInt8} {x : ByteArray} (h : w.ownsRow base 5 1 v (l.length + x.size) (Lib.byteCells l ++ Lib.strCells x)) (hl : l = []) (hn : j = x.data.toList) :
    w.ownsRow base 5 1 v j.length (Lib.byteCells j) := by
  subst hl; subst hn
  rw [cells_bytes, List.length_nil, Nat.zero_add, List.nil_append] at h
  rw [bytes_size]; exact h
theorem own_two {w : World} {base : Nat} {v : Value} {l j : List UInt8} {s x : ByteArray} (h : w.ownsRow base 5 1 v (l.length + s.size + x.size) (Lib.byteCells l ++ (Lib.strCells s ++ Lib.strCells x))) (hn : j = l ++ s.data.toList ++ x.data.toList) :
    w.ownsRow base 5 1 v j.length (Lib.byteCells j) := by
  subst hn
  rw [← List.append_assoc, cells_bytes, cells_bytes] at h
  rw [List.length_append, List.length_append, bytes_size, bytes_size]; exact h

end Go.Proofs.YtenpcjmhlnalcaaGreat

/-! WALKS: the text of a set, by impl and by spec. -/

namespace Go.Proofs.YtenpcjmhlnalcaaGreat
open Go.RowKit
open Sets

/-- The text as a string. -/
def txt (x : Int) : ByteArray := ⟨(text x).toArray⟩
theorem txt_no (x : Int) (h : okZ x = false) : txt x = ⟨#[]⟩ := by unfold txt text; rw [if_neg (by rw [h]; simp)]
theorem txt_zero : txt 0 = ⟨#[45]⟩ := rfl
theorem txt_pos (s : Nat) (h : s < 64) (h0 : s ≠ 0) : txt (s : Int) = ⟨(lets s 6).toArray⟩ := by unfold txt; rw [text_nat s h, if_neg h0]
theorem txt_size (x : Int) : (txt x).size ≤ 6 := by
  have := text_length x
  unfold txt
  show (text x).toArray.size ≤ 6
  simpa using this

/-- The first k letters. -/
def lt (s k : Nat) : List UInt8 := (lets s 6).take k
theorem lt_next (s k : Nat) (h : k < (pts s 6).length) : lt s (k + 1) = lt s k ++ [UInt8.ofNat (97 + ((pts s 6).getD k 0).toNat)] := by
  unfold lt
  have hl : (lets s 6).length = (pts s 6).length := by rw [lets_pts, List.length_map]
  rw [List.take_succ_eq_append_getElem (by omega)]
  congr 2
  rw [List.getD, List.getElem?_eq_getElem h]
  simp only [lets_pts, List.getElem_map]
  rfl
theorem lt_length (s k : Nat) : (lt s k).length ≤ k := by unfold lt; rw [List.length_take]; omega

theorem u8_of (i : Nat) (h : i < 6) : 97 + (i : Int) = ((UInt8.ofNat (97 + i)).toNat : Int) := by
  have : ∀ t : Fin 6, 97 + (t.val : Int) = ((UInt8.ofNat (97 + t.val)).toNat : Int) := by decide +kernel
  exact this ⟨i, h⟩

theorem bytes_snoc (l : List UInt8) (c : UInt8) : Lib.byteCells (l ++ [c]) = Lib.byteCells l ++ [.int .u8 (c.toNat : Int)] := by
  simp [Lib.byteCells]

theorem lets_hit (s i : Nat) (h : ptB s i = true) : lets s (i + 1) = lets s i ++ [UInt8.ofNat (97 + i)] := by
  rw [lets_next, if_pos (by unfold ptB at h; simpa using h)]
theorem lets_miss (s i : Nat) (h : ptB s i = false) : lets s (i + 1) = lets s i := by
  rw [lets_next, if_neg (by unfold ptB at h; simpa using h), List.append_nil]
theorem cut_letter : ∀ k : Fin 6, (⟨#[97, 98, 99, 100, 101, 102]⟩ : ByteArray).extract k.val (k.val + 1) = ⟨#[UInt8.ofNat (97 + k.val)]⟩ := by decide +kernel
theorem cut_run (k : Nat) (hk : k < 6) (w : World) : (Instr.slice 9 (.string ⟨#[97, 98, 99, 100, 101, 102]⟩) (some (.int .i64 (k : Int))) (some (.int .i64 ((k : Int) + 1))) none).run Tryz.prog w = .ok (.string ⟨#[UInt8.ofNat (97 + k)]⟩) w := by
  rw [run_slice_string w 9 ⟨#[97, 98, 99, 100, 101, 102]⟩ .i64 .i64 (k : Int) ((k : Int) + 1) Tryz.underlying9 (by omega) (by omega) (by show (k : Int) + 1 ≤ 6; omega)]
  have := cut_letter ⟨k, hk⟩
  rw [show ((k : Int)).toNat = k by omega, show ((k : Int) + 1).toNat = k + 1 by omega]
  simp only at this
  rw [this]
theorem str_snoc (l : List UInt8) (c : UInt8) : (⟨l.toArray⟩ : ByteArray) ++ ⟨#[c]⟩ = ⟨(l ++ [c]).toArray⟩ := by
  apply ByteArray.ext
  simp

end Go.Proofs.YtenpcjmhlnalcaaGreat
