/-
  TEXTS of one claim, put together: WImplJoin, WJoin, WText, StrOwn.
-/
import Derived.Test.YthjgpbcdcgagfaaJg11
import Derived.Lib.Join
import Derived.Laws.OwnMore
import Derived.OwnWalk
import Derived.Lib.AppendStr
import Derived.Laws.IdiomStrings
import Derived.Lib.BufferRead
import Derived.Test.YthjgpbcdcgagfaaJg25
import Derived.Laws.Concat
/-! WALKS: impl.Join, by the library's contract. -/

namespace Go.Proofs.Ythjgpbcdcgagfaa
open Go.RowKit

/-- The bytes of the first k strings. -/
def bytesOf (xs : List ByteArray) (k : Nat) : Nat := ((xs.take k).map ByteArray.size).sum
theorem bytesOf_next (xs : List ByteArray) (k : Nat) (h : k < xs.length) : bytesOf xs (k + 1) = bytesOf xs k + (xs.getD k ByteArray.empty).size := by
  unfold bytesOf
  rw [List.take_succ_eq_append_getElem h, List.map_append, List.sum_append, List.getD, List.getElem?_eq_getElem h]
  simp

/-- The bytes that the loop has laid. -/
def joined (xs : List ByteArray) (s : ByteArray) (k : Nat) : List UInt8 := Lib.join ((xs.take k).map (·.data.toList)) s.data.toList

theorem join_snoc (l : List (List UInt8)) (x sep : List UInt8) : Lib.join (l ++ [x]) sep = if l = [] then x else Lib.join l sep ++ sep ++ x := by
  cases l with
  | nil => rw [List.nil_append, Lib.join_one, if_pos rfl]
  | cons y r =>
    rw [List.cons_append, Lib.join_cons, Lib.join_cons, if_neg (by simp)]
    unfold Lib.joinTail
    rw [List.map_append, List.flatten_append]
    simp
theorem joined_next (xs : List ByteArray) (s : ByteArray) (k : Nat) (h : k < xs.length) : joined xs s (k + 1) = if k = 0 then (xs.getD k ByteArray.empty).data.toList else joined xs s k ++ s.data.toList ++ (xs.getD k ByteArray.empty).data.toList := by
  unfold joined
  rw [List.take_succ_eq_append_getElem h, List.map_append, List.map_cons, List.map_nil, join_snoc, List.getD, List.getElem?_eq_getElem h]
  by_cases h0 : k = 0
  · subst h0; simp
  · rw [if_neg, if_neg h0]; rfl
    intro e
    have h2 := congrArg List.length e
    rw [List.length_map, List.length_take, List.length_nil] at h2
    omega
theorem joined_length (xs : List ByteArray) (s : ByteArray) (k : Nat) (h : k ≤ xs.length) : (joined xs s k).length ≤ bytesOf xs k + k * s.size := by
  induction k with
  | zero => simp [joined, Lib.join_nil]
  | succ k ih =>
    have h1 := ih (by omega)
    rw [joined_next xs s k (by omega), bytesOf_next xs k (by omega), Nat.succ_mul]
    split
    · rw [Array.length_toList]; show (xs.getD k ByteArray.empty).size ≤ _; omega
    · rw [List.length_append, List.length_append, Array.length_toList, Array.length_toList]
      show (joined xs s k).length + s.size + (xs.getD k ByteArray.empty).size ≤ _
      omega

end Go.Proofs.Ythjgpbcdcgagfaa

/-! WALKS: the law on Join. -/

namespace Go.Proofs.Ythjgpbcdcgagfaa
open Go.RowKit

theorem info_str : (Try.prog.info? 9).map (fun i => (i.zero, i.size, i.bytes)) = some (some (.string ByteArray.empty), 1, 16) := by kernel_rfl

theorem info_u8 : (Try.prog.info? 5).map (fun i => (i.zero, i.size, i.bytes)) = some (some (.int .u8 0), 1, 1) := by kernel_rfl

theorem conv_own (w : World) (base : Nat) (v : Value) (l : List UInt8) (h : w.ownsRow base 5 1 v l.length (Lib.byteCells l)) :
    (convert 22 9 v).run Try.prog w = .ok (.string ⟨l.toArray⟩) w := by
  rcases h.2 with ⟨rfl, h0⟩ | ⟨g, cap, _, rfl, _⟩
  · obtain rfl : l = [] := List.eq_nil_of_length_eq_zero h0
    exact Lib.run_convert_nil_bytes w _ _ 5 0 Try.underlying22 Try.underlying5 Try.underlying9
  · refine run_convert_bytes_back w _ _ 5 ⟨g, 0, none⟩ cap l Try.underlying22 Try.underlying5 Try.underlying9 (fun j hj => ?_)
    refine h.cells (g := g) rfl j _ ?_
    simp [Lib.byteCells, List.getElem?_eq_getElem hj]

/-- A row of bytes that the call owns. -/
theorem cells_bytes (l : List UInt8) (s : ByteArray) : Lib.byteCells l ++ Lib.strCells s = Lib.byteCells (l ++ s.data.toList) := by
  simp [Lib.byteCells, Lib.strCells]

theorem bytes_size (s : ByteArray) : s.data.toList.length = s.size := Array.length_toList
theorem own_one {w : World} {base : Nat} {v : Value} {l j : List UInt8} {x : ByteArray} (h : w.ownsRow base 5 1 v (l.length + x.size) (Lib.byteCells l ++ Lib.strCells x)) (hl : l = []) (hn : j = x.data.toList) :
    w.ownsRow base 5 1 v j.length (Lib.byteCells j) := by
  subst hl; subst hn
  rw [cells_bytes, List.length_nil, Nat.zero_add, List.nil_append] at h
  rw [bytes_size]; exact h
theorem own_two {w : World} {base : Nat} {v : Value} {l j : List UInt8} {s x : ByteArray} (h : w.ownsRow base 5 1 v (l.length + s.size + x.size) (Lib.byteCells l ++ (Lib.strCells s ++ Lib.strCells x))) (hn : j = l ++ s.data.toList ++ x.data.toList) :
    w.ownsRow base 5 1 v j.length (Lib.byteCells j) := by
  subst hn
  rw [← List.append_assoc, cells_bytes, cells_bytes] at h
  rw [List.length_append, List.length_append, bytes_size, bytes_size]; exact h

set_option maxRecDepth 100000 in
set_option maxHeartbeats 2000000 in
/-- spec.Join. -/
theorem specJoin_big (a : Option Addr) (c : Nat) (xs : List ByteArray) (s : ByteArray) (hlen : xs.length + bytesOf xs xs.length ≤ 16777216) (hs : s.size ≤ 1048576) (w : World) (h : Strs w a xs) :
    Calls Try.prog 115 #[.slice a xs.length c, .string s] w fun e w' => e = .returned (.string ⟨(joined xs s xs.length).toArray⟩) ∧ Below w.heap.size w w' := by
  obtain ⟨i0, hi, hz0, hz1, hz2⟩ := info_parts info_u8
  have H := Lib.hid h
  have hmono : ∀ k, k ≤ xs.length → bytesOf xs k ≤ bytesOf xs xs.length := by
    intro k hk
    unfold bytesOf
    conv => rhs; rw [List.take_length, ← List.take_append_drop k xs]
    rw [List.map_append, List.sum_append]; omega
  have HM := Lib.hid hmono
  clear h hmono
  go_enter Try.func115, Try.ntmps115
  go_wp2
  go_loopw [5, 6] (fun out i wr => ∃ k : Nat, k ≤ xs.length ∧ i = .int .i64 (k : Int) ∧ wr.ownsRow w.heap.size 5 1 out (joined xs s k).length (Lib.byteCells (joined xs s k)) ∧ Below w.heap.size w wr) (fun _ i _ => xs.length - (intOf i).toNat)
  case atStart =>
    refine ⟨0, Nat.zero_le _, rfl, ?_, (Below.refl _ _).alloc (Nat.le_refl _) _⟩
    exact World.ownsRow_lit _ _ 0 (Nat.le_refl _) (by unfold maxLen; omega) rfl
  case round =>
    obtain ⟨k, hk, rfl, hO, hB⟩ := hrel
    have HO := Lib.hid hO
    clear hO
    have hsz := hB.size
    have hjl := joined_length xs s k hk
    have hbk := HM.out k hk
    have hks : k * s.size ≤ 16777216 * 1048576 := Nat.mul_le_mul (by omega) hs
    have hjl2 : (joined xs s k).length ≤ 16777216 + 16777216 * 1048576 := by omega
    clear hjl hks
    by_cases hlt : k < xs.length
    · obtain ⟨b, o, rfl, g⟩ := H.out k hlt
      have hbl := World.block_lt_of_cell? w _ g
      have g1 : wr.cell? ⟨b, o + k, none⟩ = some (.string (xs.getD k ByteArray.empty)) := by rw [hB.cell (p := ⟨b, o + k, none⟩) hbl]; exact g
      have hxs : (xs.getD k ByteArray.empty).size ≤ 16777216 := by
        have h1 := bytesOf_next xs k hlt
        have h2 := HM.out (k + 1) (by omega)
        omega
      have HN := Lib.hid (joined_next xs s k hlt)
      clear hbk g
      generalize hxe : xs.getD k ByteArray.empty = xk at *
      by_cases hk0 : k = 0
      · subst hk0
        have hj0 : joined xs s 0 = [] := by simp [joined, Lib.join_nil]
        have J0 := Lib.hid hj0
        rw [Nat.add_zero] at g1
        clear hxe hj0
        go_wp2_with (at_builtin; refine Lib.wpList_append_own_string _ rfl _ _ 22 9 rfl w.heap.size 5 i0 Try.underlying22 Try.underlying9 hi hz0 hz1 hz2 _ _ _ rfl HO.out xk rfl ?c1 ?c2 hsz ?_)
        case c1 => unfold maxLen; omega
        case c2 => omega
        intro v' w1 hown1 hgrow _
        have hB1 : Below w.heap.size w w1 := hB.grown hgrow hsz (fun g hg => (HO.out.lt g hg).1)
        have H1 := Lib.hid hown1
        clear hown1 hgrow
        go_wp2
        go_roundw
        case rel =>
          refine ⟨1, by omega, by go_num, ?_, hB1⟩
          exact own_one H1.out J0.out (by have hn := HN.out; simpa using hn)
        case measure => simp [intOf]; omega
      · have hk1 : 0 < k := by omega
        have XE := Lib.hid hxe
        clear hxe
        go_wp2_with (at_builtin; refine Lib.wpList_append_own_string _ rfl _ _ 22 9 rfl w.heap.size 5 i0 Try.underlying22 Try.underlying9 hi hz0 hz1 hz2 _ _ _ rfl HO.out s rfl ?c1 ?c2 hsz ?_)
        case c1 => unfold maxLen; omega
        case c2 => omega
        intro v' w1 hown1 hgrow _
        have hB1 : Below w.heap.size w w1 := hB.grown hgrow hsz (fun g hg => (HO.out.lt g hg).1)
        have g2 : w1.cell? ⟨b, o + k, none⟩ = some (.string xk) := by rw [hB1.cell (p := ⟨b, o + k, none⟩) hbl, ← hB.cell (p := ⟨b, o + k, none⟩) hbl]; exact g1
        have hsz1 := hB1.size
        have H1 := Lib.hid hown1
        clear hown1 hgrow g1
        go_wp2_with (at_builtin; refine Lib.wpList_append_own_string _ rfl _ _ 22 9 rfl w.heap.size 5 i0 Try.underlying22 Try.underlying9 hi hz0 hz1 hz2 _ _ _ rfl H1.out xk rfl ?c1 ?c2 hsz1 ?_)
        case c1 => unfold maxLen; omega
        case c2 => omega
        intro v2 w2 hown2 hgrow2 _
        have hB2 : Below w.heap.size w w2 := hB1.grown hgrow2 hsz1 (fun g hg => (H1.out.lt g hg).1)
        have H2 := Lib.hid hown2
        clear hown2 hgrow2
        go_wp2
        go_roundw
        case rel =>
          refine ⟨k + 1, by omega, by go_num, ?_, hB2⟩
          exact own_two H2.out (by have hn := HN.out; rw [if_neg hk0] at hn; exact hn)
        case measure => simp [intOf]; omega
    · have E := Lib.hid (show k = xs.length by omega)
      have hconv := conv_own wr w.heap.size _ _ HO.out
      go_wp2
      go_ret
      exact ⟨by rw [← E.out]; rfl, hB⟩

theorem specJoin_any (a : Option Addr) (c : Nat) (xs : List ByteArray) (s : ByteArray) (hlen : xs.length + bytesOf xs xs.length ≤ 1048576) (hs : s.size ≤ 1048576) (w : World) (h : Strs w a xs) :
    Calls Try.prog 115 #[.slice a xs.length c, .string s] w fun e w' => e = .returned (.string ⟨(joined xs s xs.length).toArray⟩) ∧ Below w.heap.size w w' :=
  specJoin_big a c xs s (by omega) hs w h

end Go.Proofs.Ythjgpbcdcgagfaa

/-! WALKS: the text of a set, by impl and by spec. -/

namespace Go.Proofs.Ythjgpbcdcgagfaa
open Go.RowKit
open Sets

/-- The text as a string. -/
def txt (x : Int) : ByteArray := ⟨(text x).toArray⟩
theorem txt_no (x : Int) (h : okZ x = false) : txt x = ⟨#[]⟩ := by unfold txt text; rw [if_neg (by rw [h]; simp)]
theorem txt_zero : txt 0 = ⟨#[45]⟩ := rfl
theorem txt_pos (s : Nat) (h : s < 64) (h0 : s ≠ 0) : txt (s : Int) = ⟨(lets s 6).toArray⟩ := by unfold txt; rw [text_nat s h, if_neg h0]
theorem txt_size (x : Int) : (txt x).size ≤ 6 := by
  have := text_length x
  unfold txt
  show (text x).toArray.size ≤ 6
  simpa using this

/-- The first k letters. -/
def lt (s k : Nat) : List UInt8 := (lets s 6).take k
theorem lt_next (s k : Nat) (h : k < (pts s 6).length) : lt s (k + 1) = lt s k ++ [UInt8.ofNat (97 + ((pts s 6).getD k 0).toNat)] := by
  unfold lt
  have hl : (lets s 6).length = (pts s 6).length := by rw [lets_pts, List.length_map]
  rw [List.take_succ_eq_append_getElem (by omega)]
  congr 2
  rw [List.getD, List.getElem?_eq_getElem h]
  simp only [lets_pts, List.getElem_map]
  rfl
theorem lt_length (s k : Nat) : (lt s k).length ≤ k := by unfold lt; rw [List.length_take]; omega

theorem u8_of (i : Nat) (h : i < 6) : 97 + (i : Int) = ((UInt8.ofNat (97 + i)).toNat : Int) := by
  have : ∀ t : Fin 6, 97 + (t.val : Int) = ((UInt8.ofNat (97 + t.val)).toNat : Int) := by decide +kernel
  exact this ⟨i, h⟩

theorem bytes_snoc (l : List UInt8) (c : UInt8) : Lib.byteCells (l ++ [c]) = Lib.byteCells l ++ [.int .u8 (c.toNat : Int)] := by
  simp [Lib.byteCells]

theorem lets_hit (s i : Nat) (h : ptB s i = true) : lets s (i + 1) = lets s i ++ [UInt8.ofNat (97 + i)] := by
  rw [lets_next, if_pos (by unfold ptB at h; simpa using h)]
theorem lets_miss (s i : Nat) (h : ptB s i = false) : lets s (i + 1) = lets s i := by
  rw [lets_next, if_neg (by unfold ptB at h; simpa using h), List.append_nil]
theorem cut_letter : ∀ k : Fin 6, (⟨#[97, 98, 99, 100, 101, 102]⟩ : ByteArray).extract k.val (k.val + 1) = ⟨#[UInt8.ofNat (97 + k.val)]⟩ := by decide +kernel
theorem cut_run (k : Nat) (hk : k < 6) (w : World) : (Instr.slice 9 (.string ⟨#[97, 98, 99, 100, 101, 102]⟩) (some (.int .i64 (k : Int))) (some (.int .i64 ((k : Int) + 1))) none).run Try.prog w = .ok (.string ⟨#[UInt8.ofNat (97 + k)]⟩) w := by
  rw [run_slice_string w 9 ⟨#[97, 98, 99, 100, 101, 102]⟩ .i64 .i64 (k : Int) ((k : Int) + 1) Try.underlying9 (by omega) (by omega) (by show (k : Int) + 1 ≤ 6; omega)]
  have := cut_letter ⟨k, hk⟩
  rw [show ((k : Int)).toNat = k by omega, show ((k : Int) + 1).toNat = k + 1 by omega]
  simp only at this
  rw [this]
theorem str_snoc (l : List UInt8) (c : UInt8) : (⟨l.toArray⟩ : ByteArray) ++ ⟨#[c]⟩ = ⟨(l ++ [c]).toArray⟩ := by
  apply ByteArray.ext
  simp

set_option maxRecDepth 100000 in
set_option maxHeartbeats 2000000 in
theorem specText_any (x : Int) (w : World) : Calls Try.prog 114 #[.int .i64 x] w fun e w' => e = .returned (.string (txt x)) ∧ Below w.heap.size w w' := by
  cases h : okZ x with
  | true =>
    obtain ⟨s, rfl, hs⟩ := okZ_cast x h
    have HK := Lib.hid h
    clear h
    by_cases h0 : s = 0
    · subst h0
      go_enter Try.func114, Try.ntmps114
      go_wp2_with fail
      refine (in_b _ _ _ true HK.out _).mono ?_
      rintro e w' ⟨rfl, rfl⟩
      go_wp2
      go_ret
      exact ⟨rfl, Below.refl _ _⟩
    · rw [txt_pos s hs h0]
      have hne : ((s : Int) == 0) = false := by simp; omega
      go_enter Try.func114, Try.ntmps114
      go_wp2_with fail
      refine (in_b _ _ _ true HK.out _).mono ?_
      rintro e w' ⟨rfl, rfl⟩
      go_wp2
      go_loop [3, 4] (fun o i => ∃ k : Nat, k ≤ 6 ∧ i = .int .i64 (k : Int) ∧ o = .string ⟨(lets s k).toArray⟩) (fun _ i => 6 - (intOf i).toNat)
      case atStart => exact ⟨0, by omega, rfl, rfl⟩
      case round =>
        obtain ⟨k, hk, rfl, rfl⟩ := hrel
        have hll := lets_length s k
        by_cases hlt : k < 6
        · have hq := ptB_int s k hs
          cases hp : ptB s k with
          | true =>
            rw [hp] at hq
            have HP := Lib.hid (lets_hit s k hp)
            have hcut := fun w => cut_run k hlt w
            generalize UInt8.ofNat (97 + k) = c at *
            clear hp
            have hsz : (⟨(lets s k).toArray⟩ : ByteArray).size ≤ 6 := by show (lets s k).toArray.size ≤ 6; simp; omega
            generalize lets s k = l at *
            go_wp2
            go_round
            case rel => exact ⟨k + 1, by omega, by go_num, by rw [HP.out, ← str_snoc]⟩
            case measure => simp [intOf]; omega
          | false =>
            rw [hp] at hq
            have HP := Lib.hid (lets_miss s k hp)
            clear hp
            go_wp2
            go_round
            case rel => exact ⟨k + 1, by omega, by go_num, by rw [HP.out]⟩
            case measure => simp [intOf]; omega
        · have E := Lib.hid (show k = 6 by omega)
          go_wp2
          go_ret
          exact ⟨by rw [← E.out]; rfl, Below.refl _ _⟩
  | false =>
    rw [txt_no x h]
    have HK := Lib.hid h
    clear h
    go_enter Try.func114, Try.ntmps114
    go_wp2_with fail
    refine (in_b _ _ _ false HK.out _).mono ?_
    rintro e w' ⟨rfl, rfl⟩
    go_wp2
    go_ret
    exact ⟨rfl, Below.refl _ _⟩

end Go.Proofs.Ythjgpbcdcgagfaa

/-! WALKS: a row of strings that the call owns; both Joins of it. -/

namespace Go.Proofs.Ythjgpbcdcgagfaa
open Go.RowKit

/-- A slice value that reads as the strings xs and lies in a block of its own from base on. -/
def OwnTexts (w : World) (base : Nat) (v : Value) (xs : List ByteArray) : Prop := w.ownsRow base 9 1 v xs.length (xs.map Value.string)

theorem OwnTexts.nil (w : World) (base : Nat) : OwnTexts w base (.slice none 0 0) [] := World.ownsRow_nil _ _ _ _
theorem OwnTexts.lit0 (w : World) (base : Nat) (h : base ≤ w.heap.size) : OwnTexts (w.alloc (.cells #[] 9)) base (.slice (some ⟨w.heap.size, 0, none⟩) 0 0) [] :=
  World.ownsRow_lit (base := base) (e := 9) (size := 1) w #[] 0 h (by unfold maxLen; omega) rfl
theorem OwnTexts.next {w : World} {base : Nat} {v : Value} {xs : List ByteArray} {x : ByteArray} (h : w.ownsRow base 9 1 v (xs.length + 1) (xs.map Value.string ++ [.string x])) : OwnTexts w base v (xs ++ [x]) := by
  unfold OwnTexts
  rw [List.length_append, List.map_append]
  exact h
theorem OwnTexts.keeps {w w' : World} {base : Nat} {v : Value} {xs : List ByteArray} (h : OwnTexts w base v xs) (hb : Below w.heap.size w w') : OwnTexts w' base v xs := by
  unfold OwnTexts at *
  refine ⟨h.1, ?_⟩
  rcases h.2 with h0 | ⟨g, cap, cur, hv, h1, hh, hr⟩
  · exact .inl h0
  · refine .inr ⟨g, cap, cur, hv, h1, ?_, hr⟩
    have hlt : g < w.heap.size := by
      rcases Nat.lt_or_ge g w.heap.size with hl | hl
      · exact hl
      · rw [Array.getElem?_eq_none hl] at hh; cases hh
    rw [hb.block g hlt]; exact hh
theorem texts_cell (xs : List ByteArray) (j : Nat) (h : j < xs.length) : (xs.map Value.string)[j]? = some (.string (xs.getD j ByteArray.empty)) := by
  rw [List.getElem?_map, List.getD, List.getElem?_eq_getElem h]; rfl
/-- Out of what is owned: nothing, or a block. -/
theorem OwnTexts.at {w : World} {base : Nat} {v : Value} {xs : List ByteArray} (h : OwnTexts w base v xs) :
    (v = .slice none 0 0 ∧ xs = []) ∨ ∃ g c, v = .slice (some ⟨g, 0, none⟩) xs.length c ∧ xs.length ≤ c ∧ base ≤ g ∧ g < w.heap.size ∧ StrRow w g 0 xs := by
  unfold OwnTexts at h
  rcases h.2 with ⟨hv, h0⟩ | ⟨g, cap, cur, hv, _, _, hcap, _⟩
  · exact .inl ⟨hv, List.eq_nil_of_length_eq_zero h0⟩
  · subst hv
    obtain ⟨h1, h2⟩ := World.ownsRow.lt h g rfl
    refine .inr ⟨g, cap, rfl, hcap, h1, h2, fun j hj => ?_⟩
    rw [Nat.zero_add, World.ownsRow.cellAt h j (by omega), texts_cell xs j hj]
theorem OwnTexts.strs {w : World} {base : Nat} {v : Value} {xs : List ByteArray} (h : OwnTexts w base v xs) : ∃ a c, v = .slice a xs.length c ∧ Strs w a xs := by
  rcases h.at with ⟨rfl, rfl⟩ | ⟨g, c, rfl, _, _, _, hr⟩
  · exact ⟨none, 0, rfl, fun j hj => absurd hj (Nat.not_lt_zero _)⟩
  · exact ⟨_, c, rfl, hr.strs⟩

theorem specJoin_own (base : Nat) (v : Value) (xs : List ByteArray) (s : ByteArray) (hlen : xs.length + bytesOf xs xs.length ≤ 16777216) (hs : s.size ≤ 1048576) (w : World) (h : OwnTexts w base v xs) :
    Calls Try.prog 115 #[v, .string s] w fun e w' => e = .returned (.string ⟨(joined xs s xs.length).toArray⟩) ∧ Below w.heap.size w w' := by
  obtain ⟨a, c, rfl, hr⟩ := h.strs
  exact specJoin_big a c xs s hlen hs w hr

end Go.Proofs.Ythjgpbcdcgagfaa
