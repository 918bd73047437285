/-
  THE WALK of the law on SplitByte.
-/
import Derived.Test.YtdfjledphobgdaaDoorWSplit
namespace Go.Proofs.YtdfjledphobgdaaDoor
open Go.RowKit
open Pieces (strs)

theorem gMax : Tryd.prog.globalNamed "internal/bytealg.MaxLen" = some 3 := by kernel_rfl

/-- The library's bound is some int. -/
def MaxIs (w : World) : Prop := ∃ m, w.cell? ⟨3, 0, none⟩ = some (.int .i64 m)
theorem MaxIs.keeps {w w' : World} (h : MaxIs w) (hb : Below w.heap.size w w') : MaxIs w' := by
  obtain ⟨m, hm⟩ := h
  exact ⟨m, by rw [hb.cell (p := ⟨3, 0, none⟩) (World.block_lt_of_cell? w _ hm)]; exact hm⟩

theorem implSplit_row (s : ByteArray) (b : UInt8) (hs : s.size ≤ 1048576) (w : World) (hm : MaxIs w) :
    Calls Tryd.prog 18 #[.string s, .int .u8 (b.toNat : Int)] w fun e w' =>
      e = .returned (.slice (some ⟨w.heap.size + 1, 0, none⟩) (strs b s).length (strs b s).length) ∧ Below w.heap.size w w' ∧ w'.heap.size = w.heap.size + 2 ∧ StrRow w' (w.heap.size + 1) 0 (strs b s) ∧ (∀ j, w'.frozen? ⟨w.heap.size + 1, j, none⟩ = false) := by
  obtain ⟨m, hm⟩ := hm
  exact (implSplit_any s b hs m w hm).mono fun e w' ⟨he, hw⟩ => ⟨he, by subst hw; exact ⟨cut_below _ _ _, cut_size _ _ _, cut_row _ _ _, cut_frozen _ _ _⟩⟩

set_option maxRecDepth 100000 in
set_option maxHeartbeats 2000000 in
theorem exactSplit_walk (s : ByteArray) (b : UInt8) (w : World) (hm : MaxIs w) :
    Calls Tryd.prog 8 #[.string s, .int .u8 (b.toNat : Int)] w fun e w' => e = .returned (.bool true) ∧ Below w.heap.size w w' := by
  by_cases hbig : 1048576 < (s.size : Int)
  · clear hm
    go_enter Tryd.func8, Tryd.ntmps8
    go_wp2
    go_ret
    exact ⟨rfl, Below.refl _ _⟩
  · have hs : s.size ≤ 1048576 := by omega
    have hn1 := Pieces.strs_length b s
    have hn0 := Pieces.strs_ne b s
    have HM := Lib.hid hm
    clear hm
    have HN0 := Lib.hid hn0
    clear hn0
    go_enter Tryd.func8, Tryd.ntmps8
    go_wp2_with fail
    refine (specSplit_any s b hs _).mono ?_
    rintro e w1 ⟨v, rfl, hO, hb1⟩
    obtain ⟨g, cap, rfl, hg1, hg2, hrow1⟩ := own_row hO HN0.out
    clear hO
    have hM1 := HM.out.keeps hb1
    have R1 := Lib.hid hrow1
    have M1 := Lib.hid hM1
    clear hrow1 hM1
    have hz1 := hb1.size
    go_wp2_with fail
    refine (implSplit_row s b hs _ M1.out).mono ?_
    rintro e w2 ⟨rfl, hb2, hz2, hrow2, hfr2⟩
    have R2 := Lib.hid hrow2
    have F2 := Lib.hid hfr2
    have Z2 := Lib.hid hz2
    have R1' := Lib.hid (R1.out.of_block (hb2.block g hg2))
    clear hrow2 hfr2 hz2
    go_wp2_with fail
    refine (eqStr_b _ _ _ _ _ _ (strs b s) (by omega) _ R2.out R1'.out).mono ?_
    rintro e w3 ⟨rfl, hb3⟩
    have hlt2 : w1.heap.size + 1 < w2.heap.size := by have := Z2.out; omega
    have hz3 := hb3.size
    have R3 := Lib.hid (R2.out.of_block (hb3.block _ hlt2))
    have F3 := Lib.hid (fun j => (hb3.frozen (p := ⟨w1.heap.size + 1, j, none⟩) hlt2).trans (F2.out j))
    go_wp2_with fail
    refine (markStr_b (w1.heap.size + 1) 0 _ (strs b s).length _ 1 rfl (by omega) (by omega) (by omega) _ (by omega) (fun j hj => ⟨_, R3.out j hj⟩) (fun j hj => F3.out _)).mono ?_
    rintro e w4 ⟨rfl, hrow4, hg4⟩
    have R4 := Lib.hid hrow4
    have G4 := Lib.hid hg4
    clear hrow4 hg4
    have hz4 : w3.heap.size ≤ w4.heap.size := G4.out.size
    go_wp2_with fail
    refine (heldStr_b (w1.heap.size + 1) 0 _ (strs b s).length _ 1 rfl (by omega) (by omega) (by omega) _ (by omega) R4.out).mono ?_
    rintro e w5 ⟨rfl, hb5⟩
    have hz5 := hb5.size
    have hz2' := hb2.size
    have hb04 : Below w1.heap.size w1 w4 := (hb2.trans (hb3.mono hz2')).trans (Mem.below_of_but G4.out (by omega) (by omega))
    have hb05 : Below w1.heap.size w1 w5 := hb04.trans (hb5.mono (by omega))
    have M5 := Lib.hid (M1.out.keeps hb05)
    have R15 := Lib.hid (R1.out.of_block (hb05.block g hg2))
    have R45 := Lib.hid (R4.out.of_block (hb5.block (w1.heap.size + 1) (by omega)))
    go_wp2_with fail
    refine (implSplit_row s b hs _ M5.out).mono ?_
    rintro e w6 ⟨rfl, hb6, hz6, hrow6, _⟩
    have R6 := Lib.hid hrow6
    have Z6 := Lib.hid hz6
    have R16 := Lib.hid (R15.out.of_block (hb6.block g (by omega)))
    have R46 := Lib.hid (R45.out.of_block (hb6.block (w1.heap.size + 1) (by omega)))
    have hz6' := hb6.size
    clear hrow6 hz6
    go_wp2_with fail
    refine (eqStr_b _ _ _ _ _ _ (strs b s) (by omega) _ R6.out R16.out).mono ?_
    rintro e w7 ⟨rfl, hb7⟩
    have hz7 := hb7.size
    have R47 := Lib.hid (R46.out.of_block (hb7.block (w1.heap.size + 1) (by omega)))
    go_wp2_with fail
    refine (heldStr_b (w1.heap.size + 1) 0 _ (strs b s).length _ 1 rfl (by omega) (by omega) (by omega) _ (by omega) R47.out).mono ?_
    rintro e w8 ⟨rfl, hb8⟩
    go_wp2
    go_ret
    have hb08 : Below w1.heap.size w1 w8 := ((hb05.trans (hb6.mono (by omega))).trans (hb7.mono (by omega))).trans (hb8.mono (by omega))
    exact ⟨rfl, hb1.trans (hb08.mono hz1)⟩

theorem exactSplit_byte (s : ByteArray) (a : Int) (h0 : 0 ≤ a) (h1 : a ≤ 255) (w : World) (hsh : w.ShapedOpen Tryd.prog) :
    Calls Tryd.prog 8 #[.string s, .int .u8 a] w fun e w' => e = .returned (.bool true) ∧ Below w.heap.size w w' := by
  have e : a = ((UInt8.ofNat a.toNat).toNat : Int) := by rw [UInt8.toNat_ofNat']; omega
  rw [e]
  exact exactSplit_walk s _ w (Tryd.laysM146.s1_3 w hsh)

end Go.Proofs.YtdfjledphobgdaaDoor
