/-
  WALKS: the law on Join.
-/
import Derived.Test.YtdfjledphobgdaaWImplJoin
import Derived.Laws.OwnMore
import Derived.OwnWalk
import Derived.Lib.AppendStr
import Derived.Lib.Join
import Derived.Laws.IdiomStrings
import Derived.Lib.BufferRead
namespace Go.Proofs.Ytdfjledphobgdaa
open Go.RowKit

set_option maxRecDepth 100000 in
set_option maxHeartbeats 1000000 in
/-- szStringS: what is left, or less than 0 where the strings are too many or too long. -/
theorem sz_any (a : Option Addr) (c : Nat) (xs : List ByteArray) (left : Nat) (hlen : xs.length ≤ 9223372036854775807) (hleft : left ≤ 1048576) (hsz : ∀ x ∈ xs, x.size ≤ 9223372036854775807) (w : World) (h : Strs w a xs) :
    Calls Try.prog 4 #[.slice a xs.length c, .int .i64 (left : Int)] w fun e w' => ∃ r : Int, e = .returned (.int .i64 r) ∧ w = w' ∧ (0 ≤ r → xs.length + bytesOf xs xs.length ≤ left) := by
  have H := Lib.hid h
  have HS := Lib.hid hsz
  clear h hsz
  by_cases h0 : (left : Int) - (xs.length : Int) < 0
  · go_enter Try.func4, Try.ntmps4
    go_wp2
    go_ret
    exact ⟨-1, rfl, rfl, fun h => by omega⟩
  · go_enter Try.func4, Try.ntmps4
    go_wp2
    go_loop [1, 5] (fun l i => ∃ k r : Nat, k ≤ xs.length ∧ i = .int .i64 (k : Int) ∧ l = .int .i64 (r : Int) ∧ r + xs.length + bytesOf xs k = left) (fun _ i => xs.length - (intOf i).toNat)
    case atStart => exact ⟨0, left - xs.length, Nat.zero_le _, rfl, by rw [show ((left - xs.length : Nat) : Int) = (left : Int) - (xs.length : Int) by omega], by unfold bytesOf; simp; omega⟩
    case round =>
      obtain ⟨k, r, hk, rfl, rfl, hr⟩ := hrel
      have HR := Lib.hid hr
      have hr1 : r ≤ 1048576 := by omega
      clear hr
      by_cases hlt : k < xs.length
      · obtain ⟨b, o, rfl, g⟩ := H.out k hlt
        have hx : (xs.getD k ByteArray.empty).size ≤ 9223372036854775807 := by
          rw [List.getD, List.getElem?_eq_getElem hlt]; exact HS.out _ (List.getElem_mem hlt)
        have HN := Lib.hid (bytesOf_next xs k hlt)
        generalize xs.getD k ByteArray.empty = x at *
        by_cases hneg : (r : Int) - (x.size : Int) < 0
        · go_wp2
          go_ret
          exact ⟨-1, rfl, rfl, fun h => by omega⟩
        · go_wp2
          go_round
          case rel => exact ⟨k + 1, r - x.size, by omega, by go_num, by rw [show ((r - x.size : Nat) : Int) = (r : Int) - (x.size : Int) by omega], by have h1 := HR.out; have h2 := HN.out; omega⟩
          case measure => simp [intOf]; omega
      · have E := Lib.hid (show k = xs.length by omega)
        go_wp2
        go_ret
        exact ⟨(r : Int), rfl, rfl, fun _ => by have h1 := HR.out; rw [E.out] at h1; omega⟩

theorem info_str : (Try.prog.info? 9).map (fun i => (i.zero, i.size, i.bytes)) = some (some (.string ByteArray.empty), 1, 16) := by kernel_rfl

set_option maxRecDepth 100000 in
set_option maxHeartbeats 1000000 in
/-- toStringS: a new row of the same strings. -/
theorem toStr_any (a : Option Addr) (c : Nat) (xs : List ByteArray) (hlen : xs.length ≤ 1048576) (w : World) (h : Strs w a xs) :
    Calls Try.prog 6 #[.slice a xs.length c] w fun e w' => e = .returned (.slice (some ⟨w.heap.size, 0, none⟩) xs.length xs.length) ∧ w.heap.size < w'.heap.size ∧ StrRow w' w.heap.size 0 xs ∧ Below w.heap.size w w' := by
  obtain ⟨i0, hi, hz0, hz1, hz2⟩ := info_parts info_str
  have H := Lib.hid h
  clear h
  go_enter Try.func6, Try.ntmps6
  go_wp2_with (at_make; refine wpList_make_full _ rfl _ _ 22 rfl w.heap.size 9 i0 (.string ByteArray.empty) 1 Try.underlying22 hi hz0 hz1 _ _ _ _ xs.length rfl rfl rfl rfl ?c1 ?c2 ?c3 ?_)
  case c1 => rw [hz2]; omega
  case c2 => unfold maxLen; omega
  case c3 => exact Nat.le_refl _
  intro w1 hown hgrow
  have hx0 : ∀ t, t < xs.length → ∃ x, w1.cell? ⟨w.heap.size, t, none⟩ = some x := fun t ht => by
    rw [hown.cellAt t (by omega)]
    exact ⟨_, List.getElem?_eq_getElem (by rw [hown.1]; omega)⟩
  have hz0 : ∀ t, t < xs.length → w1.frozen? ⟨w.heap.size, t, none⟩ = false := fun t _ => hown.frozenAt t
  have hsz1 : w.heap.size < w1.heap.size := (hown.lt w.heap.size rfl).2
  have hB1 := Mem.below_of_none hgrow
  have HX0 := Lib.hid hx0
  have HZ0 := Lib.hid hz0
  clear hown hgrow hx0 hz0
  go_wp2
  go_loopw [4] (fun i wr => ∃ k : Nat, k ≤ xs.length ∧ i = .int .i64 (k : Int) ∧ Below w.heap.size w wr ∧ w.heap.size < wr.heap.size ∧
      (∀ t, t < k → wr.cell? ⟨w.heap.size, t, none⟩ = some (.string (xs.getD t ByteArray.empty))) ∧ (∀ t, t < xs.length → ∃ x, wr.cell? ⟨w.heap.size, t, none⟩ = some x) ∧ (∀ t, t < xs.length → wr.frozen? ⟨w.heap.size, t, none⟩ = false)) (fun i _ => xs.length - (intOf i).toNat)
  case atStart => exact ⟨0, Nat.zero_le _, rfl, hB1, hsz1, fun t ht => absurd ht (Nat.not_lt_zero _), HX0.out, HZ0.out⟩
  case round =>
    obtain ⟨k, hk, rfl, hB, hsz, hm, hx, hz⟩ := hrel
    have HM := Lib.hid hm
    have HX := Lib.hid hx
    have HZ := Lib.hid hz
    clear hm hx hz
    by_cases hlt : k < xs.length
    · obtain ⟨b, o, rfl, g⟩ := H.out k hlt
      have hbl := World.block_lt_of_cell? w _ g
      have g1 : wr.cell? ⟨b, o + k, none⟩ = some (.string (xs.getD k ByteArray.empty)) := by rw [hB.cell (p := ⟨b, o + k, none⟩) hbl]; exact g
      obtain ⟨x, hx⟩ := HX.out k hlt
      have hz := HZ.out k hlt
      clear g
      generalize hxe : xs.getD k ByteArray.empty = xk at g1
      have XE := Lib.hid hxe
      clear hxe
      go_wp2
      go_roundw
      case rel =>
        refine ⟨k + 1, by omega, by go_num, hB.setCell (Nat.le_refl _) _, by simp [World.setCell]; exact hsz, fun t ht => ?_, fun t ht => ?_, fun t ht => ?_⟩
        · by_cases e : t = k
          · subst e; rw [XE.out]; exact World.cell?_setCell_same _ _ _ hx
          · rw [World.cell?_setCell_other _ _ _ _ (fun h => e (by injection h with _ h2; omega))]; exact HM.out t (by omega)
        · by_cases e : t = k
          · subst e; exact ⟨_, World.cell?_setCell_same _ _ _ hx⟩
          · rw [World.cell?_setCell_other _ _ _ _ (fun h => e (by injection h with _ h2; omega))]; exact HX.out t ht
        · rw [World.frozen?_setCell]; exact HZ.out t ht
      case measure => simp [intOf]; omega
    · have E := Lib.hid (show k = xs.length by omega)
      go_wp2
      go_ret
      exact ⟨rfl, hsz, fun t ht => by rw [Nat.zero_add]; exact HM.out t (by rw [E.out]; exact ht), hB⟩

theorem info_u8 : (Try.prog.info? 5).map (fun i => (i.zero, i.size, i.bytes)) = some (some (.int .u8 0), 1, 1) := by kernel_rfl

theorem conv_own (w : World) (base : Nat) (v : Value) (l : List UInt8) (h : w.ownsRow base 5 1 v l.length (Lib.byteCells l)) :
    (convert 28 9 v).run Try.prog w = .ok (.string ⟨l.toArray⟩) w := by
  rcases h.2 with ⟨rfl, h0⟩ | ⟨g, cap, _, rfl, _⟩
  · obtain rfl : l = [] := List.eq_nil_of_length_eq_zero h0
    exact Lib.run_convert_nil_bytes w _ _ 5 0 Try.underlying28 Try.underlying5 Try.underlying9
  · refine run_convert_bytes_back w _ _ 5 ⟨g, 0, none⟩ cap l Try.underlying28 Try.underlying5 Try.underlying9 (fun j hj => ?_)
    refine h.cells (g := g) rfl j _ ?_
    simp [Lib.byteCells, List.getElem?_eq_getElem hj]

/-- A row of bytes that the call owns. -/
theorem cells_bytes (l : List UInt8) (s : ByteArray) : Lib.byteCells l ++ Lib.strCells s = Lib.byteCells (l ++ s.data.toList) := by
  simp [Lib.byteCells, Lib.strCells]

theorem bytes_size (s : ByteArray) : s.data.toList.length = s.size := Array.length_toList
theorem own_one {w : World} {base : Nat} {v : Value} {l j : List UInt8} {x : ByteArray} (h : w.ownsRow base 5 1 v (l.length + x.size) (Lib.byteCells l ++ Lib.strCells x)) (hl : l = []) (hn : j = x.data.toList) :
    w.ownsRow base 5 1 v j.length (Lib.byteCells j) := by
  subst hl; subst hn
  rw [cells_bytes, List.length_nil, Nat.zero_add, List.nil_append] at h
  rw [bytes_size]; exact h
theorem own_two {w : World} {base : Nat} {v : Value} {l j : List UInt8} {s x : ByteArray} (h : w.ownsRow base 5 1 v (l.length + s.size + x.size) (Lib.byteCells l ++ (Lib.strCells s ++ Lib.strCells x))) (hn : j = l ++ s.data.toList ++ x.data.toList) :
    w.ownsRow base 5 1 v j.length (Lib.byteCells j) := by
  subst hn
  rw [← List.append_assoc, cells_bytes, cells_bytes] at h
  rw [List.length_append, List.length_append, bytes_size, bytes_size]; exact h

set_option maxRecDepth 100000 in
set_option maxHeartbeats 2000000 in
/-- spec.Join. -/
theorem specJoin_any (a : Option Addr) (c : Nat) (xs : List ByteArray) (s : ByteArray) (hlen : xs.length + bytesOf xs xs.length ≤ 1048576) (hs : s.size ≤ 1048576) (w : World) (h : Strs w a xs) :
    Calls Try.prog 5 #[.slice a xs.length c, .string s] w fun e w' => e = .returned (.string ⟨(joined xs s xs.length).toArray⟩) ∧ Below w.heap.size w w' := by
  obtain ⟨i0, hi, hz0, hz1, hz2⟩ := info_parts info_u8
  have H := Lib.hid h
  have hmono : ∀ k, k ≤ xs.length → bytesOf xs k ≤ bytesOf xs xs.length := by
    intro k hk
    unfold bytesOf
    conv => rhs; rw [List.take_length, ← List.take_append_drop k xs]
    rw [List.map_append, List.sum_append]; omega
  have HM := Lib.hid hmono
  clear h hmono
  go_enter Try.func5, Try.ntmps5
  go_wp2
  go_loopw [5, 6] (fun out i wr => ∃ k : Nat, k ≤ xs.length ∧ i = .int .i64 (k : Int) ∧ wr.ownsRow w.heap.size 5 1 out (joined xs s k).length (Lib.byteCells (joined xs s k)) ∧ Below w.heap.size w wr) (fun _ i _ => xs.length - (intOf i).toNat)
  case atStart =>
    refine ⟨0, Nat.zero_le _, rfl, ?_, (Below.refl _ _).alloc (Nat.le_refl _) _⟩
    exact World.ownsRow_lit _ _ 0 (Nat.le_refl _) (by unfold maxLen; omega) rfl
  case round =>
    obtain ⟨k, hk, rfl, hO, hB⟩ := hrel
    have HO := Lib.hid hO
    clear hO
    have hsz := hB.size
    have hjl := joined_length xs s k hk
    have hbk := HM.out k hk
    have hks : k * s.size ≤ 1048576 * 1048576 := Nat.mul_le_mul (by omega) hs
    have hjl2 : (joined xs s k).length ≤ 1048576 + 1048576 * 1048576 := by omega
    clear hjl hks
    by_cases hlt : k < xs.length
    · obtain ⟨b, o, rfl, g⟩ := H.out k hlt
      have hbl := World.block_lt_of_cell? w _ g
      have g1 : wr.cell? ⟨b, o + k, none⟩ = some (.string (xs.getD k ByteArray.empty)) := by rw [hB.cell (p := ⟨b, o + k, none⟩) hbl]; exact g
      have hxs : (xs.getD k ByteArray.empty).size ≤ 1048576 := by
        have h1 := bytesOf_next xs k hlt
        have h2 := HM.out (k + 1) (by omega)
        omega
      have HN := Lib.hid (joined_next xs s k hlt)
      clear hbk g
      generalize hxe : xs.getD k ByteArray.empty = xk at *
      by_cases hk0 : k = 0
      · subst hk0
        have hj0 : joined xs s 0 = [] := by simp [joined, Lib.join_nil]
        have J0 := Lib.hid hj0
        rw [Nat.add_zero] at g1
        clear hxe hj0
        go_wp2_with (at_builtin; refine Lib.wpList_append_own_string _ rfl _ _ 28 9 rfl w.heap.size 5 i0 Try.underlying28 Try.underlying9 hi hz0 hz1 hz2 _ _ _ rfl HO.out xk rfl ?c1 ?c2 hsz ?_)
        case c1 => unfold maxLen; omega
        case c2 => omega
        intro v' w1 hown1 hgrow _
        have hB1 : Below w.heap.size w w1 := hB.grown hgrow hsz (fun g hg => (HO.out.lt g hg).1)
        have H1 := Lib.hid hown1
        clear hown1 hgrow
        go_wp2
        go_roundw
        case rel =>
          refine ⟨1, by omega, by go_num, ?_, hB1⟩
          exact own_one H1.out J0.out (by have hn := HN.out; simpa using hn)
        case measure => simp [intOf]; omega
      · have hk1 : 0 < k := by omega
        have XE := Lib.hid hxe
        clear hxe
        go_wp2_with (at_builtin; refine Lib.wpList_append_own_string _ rfl _ _ 28 9 rfl w.heap.size 5 i0 Try.underlying28 Try.underlying9 hi hz0 hz1 hz2 _ _ _ rfl HO.out s rfl ?c1 ?c2 hsz ?_)
        case c1 => unfold maxLen; omega
        case c2 => omega
        intro v' w1 hown1 hgrow _
        have hB1 : Below w.heap.size w w1 := hB.grown hgrow hsz (fun g hg => (HO.out.lt g hg).1)
        have g2 : w1.cell? ⟨b, o + k, none⟩ = some (.string xk) := by rw [hB1.cell (p := ⟨b, o + k, none⟩) hbl, ← hB.cell (p := ⟨b, o + k, none⟩) hbl]; exact g1
        have hsz1 := hB1.size
        have H1 := Lib.hid hown1
        clear hown1 hgrow g1
        go_wp2_with (at_builtin; refine Lib.wpList_append_own_string _ rfl _ _ 28 9 rfl w.heap.size 5 i0 Try.underlying28 Try.underlying9 hi hz0 hz1 hz2 _ _ _ rfl H1.out xk rfl ?c1 ?c2 hsz1 ?_)
        case c1 => unfold maxLen; omega
        case c2 => omega
        intro v2 w2 hown2 hgrow2 _
        have hB2 : Below w.heap.size w w2 := hB1.grown hgrow2 hsz1 (fun g hg => (H1.out.lt g hg).1)
        have H2 := Lib.hid hown2
        clear hown2 hgrow2
        go_wp2
        go_roundw
        case rel =>
          refine ⟨k + 1, by omega, by go_num, ?_, hB2⟩
          exact own_two H2.out (by have hn := HN.out; rw [if_neg hk0] at hn; exact hn)
        case measure => simp [intOf]; omega
    · have E := Lib.hid (show k = xs.length by omega)
      have hconv := conv_own wr w.heap.size _ _ HO.out
      go_wp2
      go_ret
      exact ⟨by rw [← E.out]; rfl, hB⟩

set_option maxRecDepth 100000 in
set_option maxHeartbeats 2000000 in
/-- The law. -/
theorem exactJoin_walk (a : Option Addr) (c : Nat) (xs : List ByteArray) (s : ByteArray) (hlen : xs.length ≤ 9223372036854775807) (hsz : ∀ x ∈ xs, x.size ≤ 9223372036854775807) (w : World) (h : Strs w a xs) :
    Calls Try.prog 3 #[.slice a xs.length c, .string s] w fun e w' => e = .returned (.bool true) ∧ Below w.heap.size w w' := by
  by_cases hbig : 1048576 < (s.size : Int)
  · clear h
    go_enter Try.func3, Try.ntmps3
    go_wp2
    go_ret
    exact ⟨rfl, Below.refl _ _⟩
  · have hs : s.size ≤ 1048576 := by omega
    have H := Lib.hid h
    have HC := Lib.hid (sz_any a c xs 1048576 hlen (Nat.le_refl _) hsz w h)
    clear h hsz
    go_enter Try.func3, Try.ntmps3
    go_wp2_with fail
    refine HC.out.mono ?_
    rintro e w1 ⟨r, rfl, rfl, hr⟩
    have HR := Lib.hid hr
    clear hr
    by_cases hneg : r < 0
    · go_wp2
      go_ret
      exact ⟨rfl, Below.refl _ _⟩
    · have hl := HR.out (by omega)
      have hl1 : xs.length ≤ 1048576 := by omega
      go_wp2_with fail
      refine (toStr_any a c xs hl1 _ H.out).mono ?_
      rintro e w2 ⟨rfl, hz2, hrow2, hb2⟩
      have R2 := Lib.hid hrow2
      clear hrow2
      go_wp2_with fail
      refine (specJoin_any _ _ xs s hl hs _ R2.out.strs).mono ?_
      rintro e w3 ⟨rfl, hb3⟩
      have H3 := Lib.hid (H.out.keeps (hb2.trans (hb3.mono hb2.size)))
      have hb13 : Below w.heap.size w w3 := hb2.trans (hb3.mono hb2.size)
      go_wp2_with fail
      refine (toStr_any a c xs hl1 _ H3.out).mono ?_
      rintro e w4 ⟨rfl, hz4, hrow4, hb4⟩
      have R4 := Lib.hid hrow4
      clear hrow4
      have hz23 := hb2.size
      have hz33 := hb3.size
      go_wp2_with fail
      refine (implJoin_any _ _ _ xs s (Nat.le_refl _) hl hs _ hz4 R4.out).mono ?_
      rintro e w5 ⟨rfl, hb5⟩
      have hz44 := hb4.size
      have hz55 := hb5.size
      have hb35 : Below w3.heap.size w3 w5 := hb4.trans (hb5.mono hz44)
      have H5 := Lib.hid (H3.out.keeps hb35)
      have R5 := Lib.hid (R4.out.of_block (hb5.block _ hz4))
      go_wp2_with fail
      refine (toStr_any a c xs hl1 _ H5.out).mono ?_
      rintro e w6 ⟨rfl, hz6, hrow6, hb6⟩
      have R6 := Lib.hid hrow6
      have R56 := Lib.hid (R5.out.of_block (hb6.block _ (by omega)))
      clear hrow6
      go_wp2_with fail
      refine (eqStr_b _ _ _ _ _ _ xs (by omega) _ R56.out R6.out).mono ?_
      rintro e w7 ⟨rfl, hb7⟩
      have hz66 := hb6.size
      go_wp2
      go_ret
      exact ⟨rfl, (hb13.trans (hb35.mono (by omega))).trans ((hb6.mono (by omega)).trans (hb7.mono (by omega)))⟩

end Go.Proofs.Ytdfjledphobgdaa
