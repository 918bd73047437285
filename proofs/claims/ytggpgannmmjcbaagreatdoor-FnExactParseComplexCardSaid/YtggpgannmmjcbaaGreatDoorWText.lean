/-
  WALKS: the text of a set, by impl and by spec.
-/
import Derived.Test.YtggpgannmmjcbaaGreatDoorWSet3
import Derived.Test.YtggpgannmmjcbaaGreatDoorWJoin
import Derived.Laws.Concat
namespace Go.Proofs.YtggpgannmmjcbaaGreatDoor
open Go.RowKit
open Sets

/-- The text as a string. -/
def txt (x : Int) : ByteArray := ⟨(text x).toArray⟩
theorem txt_no (x : Int) (h : okZ x = false) : txt x = ⟨#[]⟩ := by unfold txt text; rw [if_neg (by rw [h]; simp)]
theorem txt_zero : txt 0 = ⟨#[45]⟩ := rfl
theorem txt_pos (s : Nat) (h : s < 64) (h0 : s ≠ 0) : txt (s : Int) = ⟨(lets s 6).toArray⟩ := by unfold txt; rw [text_nat s h, if_neg h0]
theorem txt_size (x : Int) : (txt x).size ≤ 6 := by
  have := text_length x
  unfold txt
  show (text x).toArray.size ≤ 6
  simpa using this

/-- The first k letters. -/
def lt (s k : Nat) : List UInt8 := (lets s 6).take k
theorem lt_next (s k : Nat) (h : k < (pts s 6).length) : lt s (k + 1) = lt s k ++ [UInt8.ofNat (97 + ((pts s 6).getD k 0).toNat)] := by
  unfold lt
  have hl : (lets s 6).length = (pts s 6).length := by rw [lets_pts, List.length_map]
  rw [List.take_succ_eq_append_getElem (by omega)]
  congr 2
  rw [List.getD, List.getElem?_eq_getElem h]
  simp only [lets_pts, List.getElem_map]
  rfl
theorem lt_length (s k : Nat) : (lt s k).length ≤ k := by unfold lt; rw [List.length_take]; omega

theorem u8_of (i : Nat) (h : i < 6) : 97 + (i : Int) = ((UInt8.ofNat (97 + i)).toNat : Int) := by
  have : ∀ t : Fin 6, 97 + (t.val : Int) = ((UInt8.ofNat (97 + t.val)).toNat : Int) := by decide +kernel
  exact this ⟨i, h⟩

theorem bytes_snoc (l : List UInt8) (c : UInt8) : Lib.byteCells (l ++ [c]) = Lib.byteCells l ++ [.int .u8 (c.toNat : Int)] := by
  simp [Lib.byteCells]

set_option maxRecDepth 100000 in
set_option maxHeartbeats 2000000 in
theorem implText_nat (s : Nat) (hs : s < 64) (h0 : 0 < s) (w : World) : Calls Tryz.prog 29 #[.int .i64 (s : Int)] w fun e w' => e = .returned (.string ⟨(lets s 6).toArray⟩) ∧ Below w.heap.size w w' := by
  obtain ⟨i0, hi, hz0, hz1, hz2⟩ := info_parts info_u8
  have hne : ((s : Int) == 0) = false := by simp; omega
  go_enter Tryz.func29, Tryz.ntmps29
  go_wp2_with fail
  refine (isAny_b _ true ((okZ_nat s).2 hs) _).mono ?_
  rintro e w' ⟨rfl, rfl⟩
  go_wp2_with fail
  refine (implPoints_nat s hs _).mono ?_
  rintro e w1 ⟨v, rfl, hO, hb1⟩
  obtain ⟨a1, c1, g1, rfl, hg1, hr1⟩ := hO.at
  have hsz1 := hb1.size
  have R1 := Lib.hid hr1
  have B1 := Lib.hid hb1
  have hpl := pts_length s 6
  clear hO hr1 hb1 hg1
  go_wp2
  go_loopw [3, 14] (fun v i wr => ∃ k : Nat, k ≤ (pts s 6).length ∧ i = .int .i64 (k : Int) ∧ wr.ownsRow w1.heap.size 5 1 v (lt s k).length (Lib.byteCells (lt s k)) ∧ Below w1.heap.size w1 wr) (fun _ i _ => (pts s 6).length - (intOf i).toNat)
  case atStart => exact ⟨0, Nat.zero_le _, rfl, World.ownsRow_nil _ _ _ _, Below.refl _ _⟩
  case round =>
    obtain ⟨k, hk, rfl, hO, hB⟩ := hrel
    have HO := Lib.hid hO
    clear hO
    have hsz := hB.size
    have hll := lt_length s k
    by_cases hlt : k < (pts s 6).length
    · obtain ⟨i, hi2, hi6⟩ := pts_at s 6 k hlt
      obtain ⟨rfl, hg, hc, _⟩ := R1.out k hlt
      have g0 : wr.cell? ⟨g1, k, none⟩ = some (.int .i64 (i : Int)) := by rw [hB.cell (p := ⟨g1, k, none⟩) hg, hc, hi2]
      have hn := lt_next s k hlt
      rw [hi2] at hn
      have HN := Lib.hid hn
      clear hc hi2 hn
      go_wp2_with (at_builtin; refine wpList_append_own _ rfl _ _ 46 rfl w1.heap.size 5 i0 (.int .u8 0) 1 1 Tryz.underlying46 hi hz0 hz1 hz2 rfl (by decide) _ _ _ rfl (HO.out.alloc _) ⟨wr.heap.size, 0, none⟩ 1 1 [.int .u8 (97 + (i : Int))] rfl rfl ?c1 ?c2 ?c3 ?c4 ?c5 ?_)
      case c1 => intro j u hj; exact Mem.cell_new wr _ _ j u hj
      case c2 => intro u hu; simp at hu; subst hu; rfl
      case c3 => unfold maxLen; omega
      case c4 => omega
      case c5 => simp; omega
      intro v' w2 hown1 hgrow _
      have hB1 : Below w1.heap.size w1 w2 := (hB.alloc hsz _).grown hgrow (by simp; omega) (fun g hg => (HO.out.lt g hg).1)
      have H1 : Hid (w2.ownsRow w1.heap.size 5 1 v' (lt s (k + 1)).length (Lib.byteCells (lt s (k + 1)))) := by
        rw [HN.out, List.length_append, bytes_snoc, Int.toNat_natCast, ← u8_of i hi6]
        exact hown1
      clear hown1 hgrow
      go_wp2
      go_roundw
      case rel => exact ⟨k + 1, by omega, by go_num, H1.out, hB1⟩
      case measure => simp [intOf]; omega
    · have E := Lib.hid (show k = (pts s 6).length by omega)
      have hconv := conv_own wr w1.heap.size _ _ HO.out
      go_wp2
      go_ret
      refine ⟨?_, B1.out.trans (hB.mono hsz1)⟩
      have h2 : lt s k = lets s 6 := by
        unfold lt; rw [E.out]; apply List.take_of_length_le; rw [lets_pts, List.length_map]; exact Nat.le_refl _
      rw [← h2]; rfl

set_option maxRecDepth 100000 in
theorem implText_any (x : Int) (w : World) : Calls Tryz.prog 29 #[.int .i64 x] w fun e w' => e = .returned (.string (txt x)) ∧ Below w.heap.size w w' := by
  cases h : okZ x with
  | true =>
    obtain ⟨s, rfl, hs⟩ := okZ_cast x h
    by_cases h0 : s = 0
    · subst h0
      have HK := Lib.hid h
      clear h
      go_enter Tryz.func29, Tryz.ntmps29
      go_wp2_with fail
      refine (isAny_b _ true HK.out _).mono ?_
      rintro e w' ⟨rfl, rfl⟩
      go_wp2
      go_ret
      exact ⟨rfl, Below.refl _ _⟩
    · rw [txt_pos s hs h0]
      exact implText_nat s hs (by omega) w
  | false =>
    rw [txt_no x h]
    have HK := Lib.hid h
    clear h
    go_enter Tryz.func29, Tryz.ntmps29
    go_wp2_with fail
    refine (isAny_b _ false HK.out _).mono ?_
    rintro e w' ⟨rfl, rfl⟩
    go_wp2
    go_ret
    exact ⟨rfl, Below.refl _ _⟩

theorem lets_hit (s i : Nat) (h : ptB s i = true) : lets s (i + 1) = lets s i ++ [UInt8.ofNat (97 + i)] := by
  rw [lets_next, if_pos (by unfold ptB at h; simpa using h)]
theorem lets_miss (s i : Nat) (h : ptB s i = false) : lets s (i + 1) = lets s i := by
  rw [lets_next, if_neg (by unfold ptB at h; simpa using h), List.append_nil]
theorem cut_letter : ∀ k : Fin 6, (⟨#[97, 98, 99, 100, 101, 102]⟩ : ByteArray).extract k.val (k.val + 1) = ⟨#[UInt8.ofNat (97 + k.val)]⟩ := by decide +kernel
theorem cut_run (k : Nat) (hk : k < 6) (w : World) : (Instr.slice 9 (.string ⟨#[97, 98, 99, 100, 101, 102]⟩) (some (.int .i64 (k : Int))) (some (.int .i64 ((k : Int) + 1))) none).run Tryz.prog w = .ok (.string ⟨#[UInt8.ofNat (97 + k)]⟩) w := by
  rw [run_slice_string w 9 ⟨#[97, 98, 99, 100, 101, 102]⟩ .i64 .i64 (k : Int) ((k : Int) + 1) Tryz.underlying9 (by omega) (by omega) (by show (k : Int) + 1 ≤ 6; omega)]
  have := cut_letter ⟨k, hk⟩
  rw [show ((k : Int)).toNat = k by omega, show ((k : Int) + 1).toNat = k + 1 by omega]
  simp only at this
  rw [this]
theorem str_snoc (l : List UInt8) (c : UInt8) : (⟨l.toArray⟩ : ByteArray) ++ ⟨#[c]⟩ = ⟨(l ++ [c]).toArray⟩ := by
  apply ByteArray.ext
  simp

end Go.Proofs.YtggpgannmmjcbaaGreatDoor
