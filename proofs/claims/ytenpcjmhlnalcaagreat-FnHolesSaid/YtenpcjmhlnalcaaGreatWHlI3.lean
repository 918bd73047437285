/-
  WALKS: impl's chapter 14: the sum of the list; holes of the top dimension only; parts.
-/
import Derived.Test.YtenpcjmhlnalcaaGreatJg39
import Derived.Test.YtenpcjmhlnalcaaGreatJg9
namespace Go.Proofs.YtenpcjmhlnalcaaGreat
open Go.RowKit
open Sets Lin Hom

set_option maxRecDepth 100000 in
set_option maxHeartbeats 4000000 in
theorem implCountH_any (n : Int) (a : Option Addr) (c : Nat) (xs : List Int) (hcap : xs.length ≤ c) (hlen : xs.length ≤ 1099511627776) (p : Int) (w : World) (h : Ints w a xs) :
    Calls Tryz.prog 12 #[cx n (.slice a xs.length c), .int .i64 p] w fun e w' => e = .returned (.int .i64 (tot (holZ n xs p))) ∧ Below w.heap.size w w' := by
  have hb0 : Below w.heap.size w (w.alloc (Obj.cells #[Value.int IntKind.i64 n, Value.slice a xs.length c] 26)) := (Below.refl _ _).alloc (Nat.le_refl _) _
  have htwo := Two.new w (.int .i64 n) (.slice a xs.length c) 26
  have H := Lib.hid (h.keeps hb0)
  have HB0 := Lib.hid hb0
  have HT := Lib.hid htwo
  have HC := Lib.hid (fun W (hh : Ints W a xs) => implHoles_any n a c xs hcap hlen p W hh)
  have HBD := Lib.hid (tot_bound _ (holZ_bound n xs p))
  have HBJ := Lib.hid (holZ_bound n xs p)
  have htl := holZ_le n xs p
  obtain ⟨L, hL⟩ : ∃ L, holZ n xs p = L := ⟨_, rfl⟩
  rw [hL] at HC HBD HBJ htl
  rw [hL]
  clear h hb0 htwo hL
  go_enter Tryz.func12, Tryz.ntmps12
  obtain ⟨t0, t1, t2, _, _⟩ := HT.out
  go_wp2_with fail
  refine (HC.out _ H.out).mono ?_
  rintro e w1 ⟨v1, rfl, hO1, hb1⟩
  obtain ⟨al, dl, gl, rfl, -, -, hrl, -⟩ := hO1
  have HB1 : Hid (Below w.heap.size w w1) := HB0.out.trans (hb1.mono HB0.out.size)
  have HR := Lib.hid hrl
  clear hrl hb1 t0 t1 t2
  go_wp2
  go_loop [5, 12] (fun s i => ∃ k : Nat, k ≤ L.length ∧ i = .int .i64 (k : Int) ∧ s = .int .i64 (tot (L.take k))) (fun _ i => L.length - (intOf i).toNat)
  case atStart => exact ⟨0, Nat.zero_le _, rfl, rfl⟩
  case round =>
    obtain ⟨k, hk, rfl, rfl⟩ := hrel
    by_cases hlt : k < L.length
    · obtain ⟨ea, hg1, hc1, _⟩ := HR.out k hlt
      have hbd := HBD.out k hk
      have hbj := HBJ.out k hlt
      have HTT := Lib.hid (tot_take L k hlt)
      obtain ⟨x, hx⟩ : ∃ x, L.getD k 0 = x := ⟨_, rfl⟩
      obtain ⟨s, hs⟩ : ∃ s, tot (L.take k) = s := ⟨_, rfl⟩
      rw [hx] at hc1 hbj HTT
      rw [hs] at hbd HTT
      rw [hs]
      obtain rfl := ea
      clear hx hs
      go_wp2
      go_round
      case rel => exact ⟨k + 1, by omega, by go_num, by rw [HTT.out]⟩
      case measure => simp [intOf]; omega
    · have E := Lib.hid (show k = L.length by omega)
      go_wp2
      go_ret
      exact ⟨ret_int (by rw [E.out, List.take_length]), HB1.out⟩

theorem beq_dec (x y : List Int) : (x == y) = decide (x = y) := by
  by_cases h : x = y
  · subst h; simp
  · rw [decide_eq_false h, beq_eq_false_iff_ne]; exact h

set_option maxRecDepth 100000 in
set_option maxHeartbeats 4000000 in
theorem onlyTop_any (n : Int) (a : Option Addr) (c : Nat) (xs : List Int) (hcap : xs.length ≤ c) (hlen : xs.length ≤ 1099511627776) (p z : Int) (w : World) (h : Ints w a xs) :
    Calls Tryz.prog 37 #[cx n (.slice a xs.length c), .int .i64 p, .int .i64 z] w fun e w' => e = .returned (.bool (topB (holZ n xs p) z)) ∧ Below w.heap.size w w' := by
  obtain ⟨i0, hi, hz0, hz1, hz2⟩ := info_parts info_int
  have hb0 : Below w.heap.size w (w.alloc (Obj.cells #[Value.int IntKind.i64 n, Value.slice a xs.length c] 26)) := (Below.refl _ _).alloc (Nat.le_refl _) _
  have htwo := Two.new w (.int .i64 n) (.slice a xs.length c) 26
  have H := Lib.hid (h.keeps hb0)
  have HB0 := Lib.hid hb0
  have HT := Lib.hid htwo
  have HC := Lib.hid (fun W (hh : Ints W a xs) => implHoles_any n a c xs hcap hlen p W hh)
  have h7 := holZ_le n xs p
  obtain ⟨L, hL⟩ : ∃ L, holZ n xs p = L := ⟨_, rfl⟩
  rw [hL] at HC h7
  rw [hL]
  obtain ⟨l, hl⟩ : ∃ l, L.length = l := ⟨_, rfl⟩
  have HL := Lib.hid hl
  have HTB : Hid (topB L z = (decide (0 < l) && decide (L = lastL (l - 1) z))) := by rw [← hl]; exact rfl
  rw [hl] at h7
  clear h hb0 htwo hL hl
  go_enter Tryz.func37, Tryz.ntmps37
  obtain ⟨t0, t1, t2, _, _⟩ := HT.out
  go_wp2_with fail
  refine (HC.out _ H.out).mono ?_
  rintro e w1 ⟨v1, rfl, hO1, hb1⟩
  obtain ⟨al, dl, gl, rfl, -, -, hrl, -⟩ := hO1
  rw [HL.out]
  have HB1 : Hid (Below w.heap.size w w1) := HB0.out.trans (hb1.mono HB0.out.size)
  have HR := Lib.hid hrl
  clear hrl hb1 t0 t1 t2
  by_cases h0 : l = 0
  · subst h0
    have hd : ((0 : Int) == 0) = true := rfl
    have HF : Hid (topB L z = false) := by rw [HTB.out]; exact rfl
    go_wp2
    go_ret
    exact ⟨by rw [HF.out]; rfl, HB1.out⟩
  · have hd : (((l : Nat) : Int) == 0) = false := by rw [beq_eq_false_iff_ne]; omega
    have HD : Hid (topB L z = (L == lastL (l - 1) z)) := by
      have : topB L z = (L == lastL (l - 1) z) := by rw [HTB.out, beq_dec, decide_eq_true (by omega : 0 < l), Bool.true_and]
      exact this
    obtain ⟨b, hb⟩ : ∃ b, (L == lastL (l - 1) z) = b := ⟨_, rfl⟩
    have HBB := Lib.hid hb
    have HD2 : Hid (topB L z = b) := by rw [HD.out]; exact hb
    have HLL : Hid (lastL (l - 1) z = (List.replicate l 0).set (l - 1) z) := by
      have : lastL (l - 1) z = (List.replicate l 0).set (l - 1) z := by unfold lastL; rw [show l - 1 + 1 = l by omega]
      exact this
    clear hb
    go_wp2_with (at_make; refine wpList_make_full _ rfl _ _ 24 rfl w1.heap.size 3 i0 (.int .i64 0) 1 Tryz.underlying24 hi hz0 hz1 _ _ _ _ l rfl rfl rfl rfl ?c1 ?c2 ?c3 ?_)
    case c1 => rw [hz2]; omega
    case c2 => unfold maxLen; omega
    case c3 => exact Nat.le_refl _
    intro w2 hown hgrow
    have hO2 : OwnInts w2 w1.heap.size (.slice (some ⟨w1.heap.size, 0, none⟩) (List.replicate l (0 : Int)).length l) (List.replicate l 0) := by
      have : w2.ownsRow w1.heap.size 3 1 (.slice (some ⟨w1.heap.size, 0, none⟩) l l) l ((List.replicate l (0 : Int)).map (Value.int .i64)) := by
        rw [List.map_replicate, ← toList_madeCells_one]
        simpa using hown
      unfold OwnInts
      rw [List.length_replicate]
      exact this
    obtain ⟨-, hgs, hI2, -⟩ := hO2.known
    have hB2 : Below w1.heap.size w1 w2 := Mem.below_of_none hgrow
    obtain ⟨-, -, c0, f0⟩ := hI2 (l - 1) (by rw [List.length_replicate]; omega)
    have HS : Hid (IntsAt (w2.setCell ⟨w1.heap.size, l - 1, none⟩ (.int .i64 z)) w1.heap.size (some ⟨w1.heap.size, 0, none⟩) (lastL (l - 1) z)) := by
      have := IntsAt.setOwn hI2 (l - 1) z
      rw [← HLL.out] at this
      exact this
    have hBS : Below w1.heap.size w1 (w2.setCell ⟨w1.heap.size, l - 1, none⟩ (.int .i64 z)) := hB2.setCell (p := ⟨w1.heap.size, l - 1, none⟩) (Nat.le_refl _) _
    have HR2 := Lib.hid (HR.out.keeps hBS)
    have HB2 : Hid (Below w.heap.size w (w2.setCell ⟨w1.heap.size, l - 1, none⟩ (.int .i64 z))) := HB1.out.trans (hBS.mono HB1.out.size)
    obtain ⟨B1, hB1⟩ : ∃ B, w1.heap.size = B := ⟨_, rfl⟩
    rw [hB1] at hgs c0 f0 HS HR2 HB2 ⊢
    obtain ⟨l1, hl1⟩ : ∃ l1, l = l1 + 1 := ⟨l - 1, by omega⟩
    subst hl1
    rw [Nat.add_sub_cancel] at c0 f0 HS HR2 HB2 HBB HLL
    have c0 : w2.cell? ⟨B1, l1, none⟩ = some (.int .i64 0) := by
      rw [c0]; simp [List.getD]
    have HLN : Hid ((lastL l1 z).length = l1 + 1) := by
      have : (lastL l1 z).length = l1 + 1 := by simp [lastL]
      exact this
    clear hown hgrow hO2 hI2 hB2 hBS hB1
    go_wp2_with fail
    refine (equalS_b _ _ _ _ L (lastL l1 z) (l1 + 1) HL.out HLN.out (by omega) b HBB.out _ HR2.out.ints HS.out.ints).mono ?_
    rintro e w3 ⟨rfl, hb3⟩
    have HB3 := Lib.hid (HB2.out.trans (hb3.mono HB2.out.size))
    clear hb3
    go_wp2
    go_ret
    exact ⟨by rw [HD2.out]; rfl, HB3.out⟩

set_option maxRecDepth 100000 in
set_option maxHeartbeats 2000000 in
theorem implNoHoles_any (n : Int) (a : Option Addr) (c : Nat) (xs : List Int) (hcap : xs.length ≤ c) (hlen : xs.length ≤ 1099511627776) (p : Int) (w : World) (h : Ints w a xs) :
    Calls Tryz.prog 14 #[cx n (.slice a xs.length c), .int .i64 p] w fun e w' => e = .returned (.bool (noneZ (holZ n xs p))) ∧ Below w.heap.size w w' := by
  have hb0 : Below w.heap.size w (w.alloc (Obj.cells #[Value.int IntKind.i64 n, Value.slice a xs.length c] 26)) := (Below.refl _ _).alloc (Nat.le_refl _) _
  have htwo := Two.new w (.int .i64 n) (.slice a xs.length c) 26
  have hC := onlyTop_any n a c xs hcap hlen p 0 _ (h.keeps hb0)
  rw [← none_top _ (holZ_pos n xs p)] at hC
  obtain ⟨b, hb⟩ : ∃ b, noneZ (holZ n xs p) = b := ⟨_, rfl⟩
  rw [hb] at hC ⊢
  have HC := Lib.hid hC
  have HB0 := Lib.hid hb0
  have HT := Lib.hid htwo
  clear h hb0 htwo hC hb
  go_enter Tryz.func14, Tryz.ntmps14
  obtain ⟨t0, t1, t2, _, _⟩ := HT.out
  go_wp2_with fail
  refine HC.out.mono ?_
  rintro e w1 ⟨rfl, hb1⟩
  have HB1 : Hid (Below w.heap.size w w1) := HB0.out.trans (hb1.mono HB0.out.size)
  clear hb1 t0 t1 t2
  go_wp2
  go_ret
  exact ⟨rfl, HB1.out⟩

set_option maxRecDepth 100000 in
set_option maxHeartbeats 2000000 in
theorem implSphere_any (n : Int) (a : Option Addr) (c : Nat) (xs : List Int) (hcap : xs.length ≤ c) (hlen : xs.length ≤ 1099511627776) (p : Int) (w : World) (h : Ints w a xs) :
    Calls Tryz.prog 16 #[cx n (.slice a xs.length c), .int .i64 p] w fun e w' => e = .returned (.bool (sphereZ (holZ n xs p))) ∧ Below w.heap.size w w' := by
  have hb0 : Below w.heap.size w (w.alloc (Obj.cells #[Value.int IntKind.i64 n, Value.slice a xs.length c] 26)) := (Below.refl _ _).alloc (Nat.le_refl _) _
  have htwo := Two.new w (.int .i64 n) (.slice a xs.length c) 26
  have hC := onlyTop_any n a c xs hcap hlen p 1 _ (h.keeps hb0)
  rw [← sphere_top _ (holZ_pos n xs p)] at hC
  obtain ⟨b, hb⟩ : ∃ b, sphereZ (holZ n xs p) = b := ⟨_, rfl⟩
  rw [hb] at hC ⊢
  have HC := Lib.hid hC
  have HB0 := Lib.hid hb0
  have HT := Lib.hid htwo
  clear h hb0 htwo hC hb
  go_enter Tryz.func16, Tryz.ntmps16
  obtain ⟨t0, t1, t2, _, _⟩ := HT.out
  go_wp2_with fail
  refine HC.out.mono ?_
  rintro e w1 ⟨rfl, hb1⟩
  have HB1 : Hid (Below w.heap.size w w1) := HB0.out.trans (hb1.mono HB0.out.size)
  clear hb1 t0 t1 t2
  go_wp2
  go_ret
  exact ⟨rfl, HB1.out⟩

set_option maxRecDepth 100000 in
set_option maxHeartbeats 2000000 in
theorem implParts_any (n : Int) (a : Option Addr) (c : Nat) (xs : List Int) (hcap : xs.length ≤ c) (hlen : xs.length ≤ 1099511627776) (w : World) (h : Ints w a xs) :
    Calls Tryz.prog 18 #[cx n (.slice a xs.length c)] w fun e w' => e = .returned (.int .i64 (partsZ n xs)) ∧ Below w.heap.size w w' := by
  have hb0 : Below w.heap.size w (w.alloc (Obj.cells #[Value.int IntKind.i64 n, Value.slice a xs.length c] 26)) := (Below.refl _ _).alloc (Nat.le_refl _) _
  have htwo := Two.new w (.int .i64 n) (.slice a xs.length c) 26
  have hC := implHoles_any n a c xs hcap hlen 2 _ (h.keeps hb0)
  have hBJ := holZ_bound n xs 2
  have HP : Hid (partsZ n xs = if 1 < (holZ n xs 2).length then (holZ n xs 2).getD 1 0 + 1 else 0) := parts_hol n xs
  have htl := holZ_le n xs 2
  obtain ⟨L, hL⟩ : ∃ L, holZ n xs 2 = L := ⟨_, rfl⟩
  rw [hL] at hC HP hBJ htl
  have HC := Lib.hid hC
  have HB0 := Lib.hid hb0
  have HT := Lib.hid htwo
  have HBJ := Lib.hid hBJ
  obtain ⟨l, hl⟩ : ∃ l, L.length = l := ⟨_, rfl⟩
  have HL := Lib.hid hl
  rw [hl] at htl HP
  clear h hb0 htwo hC hBJ hL hl
  go_enter Tryz.func18, Tryz.ntmps18
  obtain ⟨t0, t1, t2, _, _⟩ := HT.out
  go_wp2_with fail
  refine HC.out.mono ?_
  rintro e w1 ⟨v1, rfl, hO1, hb1⟩
  obtain ⟨al, dl, gl, rfl, -, -, hrl, -⟩ := hO1
  rw [HL.out]
  have HB1 : Hid (Below w.heap.size w w1) := HB0.out.trans (hb1.mono HB0.out.size)
  have HR := Lib.hid hrl
  clear hrl hb1 t0 t1 t2
  by_cases h2 : l < 2
  · have hd : decide ((l : Int) < 2) = true := decide_eq_true (by omega)
    have HZ : Hid (partsZ n xs = 0) := by rw [HP.out]; exact if_neg (by omega)
    go_wp2
    go_ret
    exact ⟨by rw [HZ.out]; rfl, HB1.out⟩
  · have hd : decide ((l : Int) < 2) = false := decide_eq_false (by omega)
    obtain ⟨ea, hg1, hc1, _⟩ := HR.out 1 (by rw [HL.out]; omega)
    have hbj := HBJ.out 1 (by rw [HL.out]; omega)
    have HZ : Hid (partsZ n xs = L.getD 1 0 + 1) := by rw [HP.out]; exact if_pos (by omega)
    obtain ⟨x, hx⟩ : ∃ x, L.getD 1 0 = x := ⟨_, rfl⟩
    rw [hx] at hc1 hbj HZ
    obtain rfl := ea
    clear hx
    go_wp2
    go_ret
    exact ⟨by rw [HZ.out]; rfl, HB1.out⟩

end Go.Proofs.YtenpcjmhlnalcaaGreat
