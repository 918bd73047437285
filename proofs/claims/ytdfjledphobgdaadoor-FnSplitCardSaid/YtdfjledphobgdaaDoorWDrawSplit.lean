/-
  WALKS: the draw for SplitByte; the law on splitting and joining.
-/
import Derived.Test.YtdfjledphobgdaaDoorWPick
import Derived.Test.YtdfjledphobgdaaDoorWLawSplit
import Derived.Test.YtdfjledphobgdaaDoorWImplJoin
namespace Go.Proofs.YtdfjledphobgdaaDoor
open Go.RowKit
open Pieces (strs)

def samples : List ByteArray := [⟨#[]⟩, ⟨#[97]⟩, ⟨#[97, 44, 98]⟩, ⟨#[44]⟩, ⟨#[97, 44, 44, 98, 44]⟩, ⟨#[97, 10, 98, 10]⟩]
theorem sample_size (r : Nat) (h : r < samples.length) : (samples.getD r ByteArray.empty).size ≤ 5 := by
  have : ∀ k : Fin 6, (samples.getD k.val ByteArray.empty).size ≤ 5 := by decide
  exact this ⟨r, h⟩

set_option maxRecDepth 100000 in
set_option maxHeartbeats 2000000 in
theorem drawSplit_any (a : Option Addr) (n c : Nat) (hn : n ≤ 140737488355328) (w : World) (hc : Code w a n) :
    Calls Tryd.prog 17 #[.slice a n c] w fun e w' => ∃ (s : ByteArray) (b : UInt8), s.size ≤ 5 ∧ e = .returned (.tuple #[.string s, .int .u8 (b.toNat : Int)]) ∧ Below w.heap.size w w' := by
  have HC := Lib.hid hc
  clear hc
  go_enter Tryd.func17, Tryd.ntmps17
  go_wp2_with fail
  refine (new_any a n c hn _ HC.out).mono ?_
  rintro e w1 ⟨rfl, hcur, hz1, hb1⟩
  have K1 := Lib.hid hcur
  clear hcur
  go_wp2_with fail
  refine (pick_any w.heap.size a n c hn w1.heap.size 0 6 samples (by decide) (by decide) _ (by exact K1.out.alloc hz1 _) (by omega) (by exact row_lit w1 samples _)).mono ?_
  rintro e w2 ⟨r, hr, rfl, hd⟩
  have hz2 : w1.heap.size + 1 ≤ w2.heap.size := by have := hd.2.size; simpa using this
  have hb2 : Below w.heap.size w w2 := (hb1.alloc (by omega) _).trans (Mem.below_of_but hd.2 (Nat.le_refl _) (by simp; omega))
  have K2 := Lib.hid hd.1
  clear hd
  have hsz := sample_size r hr
  generalize samples.getD r ByteArray.empty = x at *
  go_wp2_with fail
  refine (pickInt_any w.heap.size a n c hn w2.heap.size 0 2 [44, 10] (by decide) (by decide) _ (by exact K2.out.alloc (by omega) _) (by omega) (by exact row_ints w2 [44, 10] _)).mono ?_
  rintro e w3 ⟨q, hq, rfl, hd⟩
  have hb3 : Below w.heap.size w w3 := (hb2.alloc (by omega) _).trans (Mem.below_of_but hd.2 (Nat.le_refl _) (by simp; omega))
  clear hd
  have hq2 : q = 0 ∨ q = 1 := by have : q < 2 := hq; omega
  rcases hq2 with rfl | rfl
  · go_wp2
    go_ret2
    exact ⟨x, 44, hsz, rfl, hb3⟩
  · go_wp2
    go_ret2
    exact ⟨x, 10, hsz, rfl, hb3⟩

theorem strs_small (b : UInt8) (s : ByteArray) (hs : s.size ≤ 5) : (strs b s).length + bytesOf (strs b s) (strs b s).length ≤ 1048576 := by
  have h1 := Pieces.strs_length b s
  have h2 := Pieces.strs_sizes b s
  unfold bytesOf
  rw [List.take_length]
  omega
theorem strs_joined (b : UInt8) (s : ByteArray) : joined (strs b s) ⟨#[b]⟩ (strs b s).length = s.data.toList := by
  unfold joined
  rw [List.take_length, Pieces.strs_data]
  exact Pieces.join_pieces b s.data.toList

theorem joinBack_any (p : Nat) (b : UInt8) (s : ByteArray) (hs : s.size ≤ 5) (w : World) (hp : p < w.heap.size) (h : StrRow w p 0 (strs b s)) :
    Calls Tryd.prog 19 #[.slice (some ⟨p, 0, none⟩) (strs b s).length (strs b s).length, .string ⟨#[b]⟩] w fun e w' => e = .returned (.string s) ∧ Below w.heap.size w w' := by
  have hc := implJoin_any p 0 (strs b s).length (strs b s) ⟨#[b]⟩ (Nat.le_refl _) (strs_small b s hs) (by show 1 ≤ 1048576; omega) w hp h
  rw [strs_joined] at hc
  exact hc

set_option maxRecDepth 100000 in
set_option maxHeartbeats 2000000 in
theorem split_walk (a : Option Addr) (n c : Nat) (hn : n ≤ 9223372036854775807) (w : World) (hc : Code w a n) (hm : MaxIs w) :
    Calls Tryd.prog 4 #[.slice a n c] w fun e w' => e = .returned (.bool true) ∧ Below w.heap.size w w' := by
  have HC := Lib.hid hc
  have HM := Lib.hid hm
  clear hc hm
  by_cases hbig : 1048576 < (n : Int)
  · go_enter Tryd.func4, Tryd.ntmps4
    go_wp2
    go_ret
    exact ⟨rfl, Below.refl _ _⟩
  · go_enter Tryd.func4, Tryd.ntmps4
    go_wp2_with (go_at_call 9; go_in)
    refine (drawSplit_any a n c (by omega) _ HC.out).mono ?_
    rintro e w1 ⟨s, b, hs, rfl, hb1⟩
    have M1 := Lib.hid (HM.out.keeps hb1)
    go_wp2_with fail
    refine (implSplit_row s b (by omega) _ M1.out).mono ?_
    rintro e w2 ⟨rfl, hb2, hz2, hrow2, _⟩
    have R2 := Lib.hid hrow2
    have Z2 := Lib.hid hz2
    clear hrow2 hz2
    have hkc := fun (w : World) (x : Int) => one_byte w x
    have hz2' : w1.heap.size + 1 < w2.heap.size := by have := Z2.out; omega
    go_wp2_with fail
    refine (joinBack_any (w1.heap.size + 1) b s hs _ (by simp; omega) (by exact R2.out.of_block (((Below.refl w2.heap.size w2).alloc (Nat.le_refl _) _).block _ hz2'))).mono ?_
    rintro e w3 ⟨rfl, hb3⟩
    have hb23 : Below w2.heap.size w2 w3 := ((Below.refl w2.heap.size w2).alloc (Nat.le_refl _) _).trans (hb3.mono (by simp))
    have hz3 := hb23.size
    clear hb3
    go_wp2_with fail
    refine (specSplit_any s b (by omega) _).mono ?_
    rintro e w4 ⟨v, rfl, hO, hb4⟩
    have HN0 := Lib.hid (Pieces.strs_ne b s)
    obtain ⟨g, cap, rfl, _, _, _⟩ := own_row hO HN0.out
    clear hO
    have hb24 : Below w2.heap.size w2 w4 := hb23.trans (hb4.mono hz3)
    have hlen := Pieces.strs_length b s
    go_wp2
    go_loopw [6] (fun i wr => ∃ k : Nat, k ≤ (strs b s).length ∧ i = .int .i64 (k : Int) ∧ Below w2.heap.size w2 wr) (fun i _ => (strs b s).length - (intOf i).toNat)
    case atStart => exact ⟨0, Nat.zero_le _, rfl, hb24⟩
    case round =>
      obtain ⟨k, hk, rfl, hB⟩ := hrel
      have hzr := hB.size
      by_cases hlt : k < (strs b s).length
      · have g1 := (R2.out.of_block (hB.block _ hz2')) k hlt
        rw [Nat.zero_add] at g1
        have HP1 := Lib.hid (Pieces.strs_piece b s k hlt)
        have hps := Pieces.piece_size b s k hlt
        have MR := Lib.hid (M1.out.keeps (hb2.trans (hB.mono hb2.size)))
        generalize (strs b s).getD k ByteArray.empty = x at *
        go_wp2_with fail
        refine (implSplit_row x b (by omega) _ MR.out).mono ?_
        rintro e w5 ⟨rfl, hb5, _, _, _⟩
        rw [HP1.out]
        go_wp2
        go_roundw
        case rel => exact ⟨k + 1, by omega, by go_num, hB.trans (hb5.mono hzr)⟩
        case measure => simp [intOf]; omega
      · go_wp2
        go_ret
        exact ⟨rfl, hb1.trans ((hb2.trans (hB.mono hb2.size)).mono hb1.size)⟩

theorem split_code (a : Option Addr) (n c : Nat) (hn : n ≤ 9223372036854775807) (w : World) (hc : Code w a n) (hsh : w.ShapedOpen Tryd.prog) :
    Calls Tryd.prog 4 #[.slice a n c] w fun e w' => e = .returned (.bool true) ∧ Below w.heap.size w w' :=
  split_walk a n c hn w hc (Tryd.laysM146.s1_3 w hsh)

end Go.Proofs.YtdfjledphobgdaaDoor
