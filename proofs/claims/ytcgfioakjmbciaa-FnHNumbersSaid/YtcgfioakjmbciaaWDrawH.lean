/-
  WALKS: the draws of chapter 10 (written by gendrawh.py).
-/
import Derived.Test.YtcgfioakjmbciaaJg26
import Derived.Test.YtcgfioakjmbciaaJg27
import Derived.Test.YtcgfioakjmbciaaWHS2
namespace Go.Proofs.Ytcgfioakjmbciaa
open Go.RowKit
open Sets Hn

set_option maxRecDepth 100000 in
set_option maxHeartbeats 4000000 in
theorem drawH_any (a : Option Addr) (n c : Nat) (hn : n ≤ 140737488355328) (w : World) (hc : Code w a n) :
    Calls Try.prog 11 #[.slice a n c] w fun e w' => Drawn1 w e w' := by
  have hb0 : Below w.heap.size w (w.alloc (.cells #[.int .i64 0, .slice none 0 0] 26)) := (Below.refl _ _).alloc (Nat.le_refl _) _
  have HC0 := Lib.hid (hc.keeps hb0)
  have HB0 := Lib.hid hb0
  have HT0 := Lib.hid (Two.new w (.int .i64 0) (.slice none 0 0) 26)
  clear hc hb0
  go_enter Try.func11, Try.ntmps11
  go_wp2_with fail
  refine (new_any a n c hn _ HC0.out).mono ?_
  rintro e w1 ⟨rfl, hcur, hz1, hb1⟩
  simp only [World.size_alloc] at hcur hz1
  have K1 := Lib.hid hcur
  have B1 : Hid (Below w.heap.size w w1) := HB0.out.trans (hb1.mono (by simp))
  have T1 := Lib.hid (Two.keeps HT0.out hb1)
  clear hcur hb1 HC0 HB0 HT0
  go_wp2_with fail
  refine (l3Bent_any a n c hn (w.heap.size + 1) w1 hz1 K1.out).mono ?_
  rintro e w2 ⟨N, v, xs, rfl, hl, hO, hK, hG⟩
  obtain ⟨a5, c5, g5, rfl, hc5, hg5, hr5, _⟩ := OwnInts.ata hO hG.size
  have O2 := Lib.hid (OwnInts.lower hO (show w.heap.size + 1 ≤ w1.heap.size by omega))
  have B2 : Hid (Below w.heap.size w w2) := B1.out.trans (Mem.below_of_but hG (by omega) (by omega))
  obtain ⟨t0, t1, t2, t3, t4⟩ := Two.far T1.out hG (by omega)
  clear hO hK hG hr5 K1 T1 B1
  go_wp2
  refine ret_cx w.heap.size rfl rfl (x := .int .i64 N) (y := .slice a5 xs.length c5) (by go_simp) (by go_simp) rfl ?_
  exact ⟨N, _, xs, rfl, hl, (OwnInts.set (OwnInts.set O2.out _ _ _ (by omega)) _ _ _ (by omega)).lower (by omega), (B2.out.setCell (by simp) _).setCell (by simp) _⟩


theorem five (r1 r2 r : Nat) (h1 : r1 < 12) (h2 : r2 < 62) (h : r < 5) : ∃ z : Int, ([(r1 : Int), (r2 : Int), -1, 61, 60] : List Int).getD r 0 = z ∧ -1 ≤ z ∧ z ≤ 61 := by
  rcases (by omega : r = 0 ∨ r = 1 ∨ r = 2 ∨ r = 3 ∨ r = 4) with rfl | rfl | rfl | rfl | rfl
  · exact ⟨(r1 : Int), rfl, by omega, by omega⟩
  · exact ⟨(r2 : Int), rfl, by omega, by omega⟩
  · exact ⟨-1, rfl, by decide, by decide⟩
  · exact ⟨61, rfl, by decide, by decide⟩
  · exact ⟨60, rfl, by decide, by decide⟩

theorem bit_is (b : Bool) (w : World) : Calls Try.prog 46 #[.bool b] w fun e w' => (∃ z : Nat, z ≤ 1 ∧ e = .returned (.int .i64 (z : Int))) ∧ w = w' :=
  (l1Bit_b b w).mono fun _ _ ⟨h, h2⟩ => ⟨by cases b with
    | true => exact ⟨1, by omega, h⟩
    | false => exact ⟨0, by omega, h⟩, h2⟩

set_option maxRecDepth 100000 in
set_option maxHeartbeats 4000000 in
theorem drawChoose_any (a : Option Addr) (n c : Nat) (hn : n ≤ 140737488355328) (w : World) (hc : Code w a n) :
    Calls Try.prog 14 #[.slice a n c] w fun e w' => ∃ x y : Int, e = .returned (.tuple #[.int .i64 x, .int .i64 y]) ∧ Below w.heap.size w w' := by
  have HC0 := Lib.hid hc
  clear hc
  go_enter Try.func14, Try.ntmps14
  go_wp2_with fail
  refine (new_any a n c hn _ HC0.out).mono ?_
  rintro e w1 ⟨rfl, hcur, hz1, hb1⟩
  have K1 := Lib.hid hcur
  have B1 := Lib.hid hb1
  clear hcur hb1 HC0
  obtain ⟨B, hB⟩ : ∃ B, w.heap.size = B := ⟨_, rfl⟩
  have HBE := Lib.hid hB
  rw [hB] at K1 hz1 ⊢
  have B1 : Hid (Below B w w1) := by
    have := B1.out
    rw [hB] at this
    exact this
  clear hB
  go_wp2_with fail
  refine (below_lit B a n c hn _ 12 rfl (by decide) (by decide) _ K1.out).mono ?_
  rintro e w2 ⟨r1, hr1, rfl, hd⟩
  have K2 := Lib.hid hd.1
  have B2 : Hid (Below B w w2) := B1.out.trans (Mem.below_of_but hd.2 (Nat.le_refl _) (by omega))
  have hz2 : B < w2.heap.size := Nat.lt_of_lt_of_le hz1 hd.2.size
  clear hd K1 B1 hz1
  go_wp2_with fail
  refine (below_lit B a n c hn _ 62 rfl (by decide) (by decide) _ K2.out).mono ?_
  rintro e w3 ⟨r2, hr2, rfl, hd⟩
  have hz3 : B < w3.heap.size := Nat.lt_of_lt_of_le hz2 hd.2.size
  have hba : Below w3.heap.size w3 (w3.alloc (.cells #[.int .i64 (r1 : Int), .int .i64 (r2 : Int), .int .i64 (-1), .int .i64 61, .int .i64 60] 3)) := (Below.refl _ _).alloc (Nat.le_refl _) _
  have K3 := Lib.hid (hd.1.keeps hz3 hba)
  have B3 : Hid (Below B w (w3.alloc (.cells #[.int .i64 (r1 : Int), .int .i64 (r2 : Int), .int .i64 (-1), .int .i64 61, .int .i64 60] 3))) := (B2.out.trans (Mem.below_of_but hd.2 (Nat.le_refl _) (by omega))).trans (hba.mono (by omega))
  have HROW := Lib.hid (row_ints w3 [(r1 : Int), (r2 : Int), -1, 61, 60] 3)
  clear hd hba K2 B2 hz2
  go_wp2_with fail
  refine (pickInt_any B a n c hn w3.heap.size 0 5 [(r1 : Int), (r2 : Int), -1, 61, 60] (by simp) (by simp) _ K3.out (by omega) (by exact HROW.out)).mono ?_
  rintro e w4 ⟨r, hr, rfl, hd⟩
  obtain ⟨z, hz, hzl, hzu⟩ := five r1 r2 r hr1 hr2 hr
  rw [hz]
  have K4 := Lib.hid hd.1
  have B4 : Hid (Below B w w4) := B3.out.trans (Mem.below_of_but hd.2 (Nat.le_refl _) (by simp; omega))
  have hz4 : B < w4.heap.size := by have := hd.2.size; simp at this; omega
  clear hd hz hr hr1 hr2 HROW K3 B3 hz3
  obtain ⟨m, hm, hm1, hm2⟩ : ∃ m : Nat, (if z + 2 < 1 then (1 : Int) else z + 2) = (m : Int) ∧ 0 < m ∧ m ≤ 4294967296 := by
    by_cases e : z + 2 < 1
    · exact ⟨1, by rw [if_pos e]; rfl, by decide, by decide⟩
    · exact ⟨(z + 2).toNat, by rw [if_neg e]; omega, by omega, by omega⟩
  have HMAX := Lib.hid (fun W => l1Max_any 1 (z + 2) W)
  rw [hm] at HMAX
  clear hm
  go_wp2_with fail
  refine (HMAX.out _).mono ?_
  rintro e w' ⟨rfl, rfl⟩
  go_wp2_with fail
  refine (below_lit B a n c hn _ m rfl hm1 hm2 _ K4.out).mono ?_
  rintro e w5 ⟨q, hq, rfl, hd⟩
  have K5 := Lib.hid hd.1
  have B5 : Hid (Below B w w5) := B4.out.trans (Mem.below_of_but hd.2 (Nat.le_refl _) (by omega))
  have hz5 : B < w5.heap.size := Nat.lt_of_lt_of_le hz4 hd.2.size
  clear hd K4 B4 hz4
  go_wp2_with fail
  refine (once_b B a n c hn _ 10 rfl (by decide) (by decide) _ K5.out).mono ?_
  rintro e w6 ⟨b, rfl, hd⟩
  have B6 : Hid (Below B w w6) := B5.out.trans (Mem.below_of_but hd.2 (Nat.le_refl _) (by omega))
  clear hd K5 B5 hz5
  go_wp2_with fail
  refine (bit_is b _).mono ?_
  rintro e w' ⟨⟨y, hy, rfl⟩, rfl⟩
  go_wp2
  go_ret2
  exact ⟨_, _, rfl, by rw [HBE.out]; exact B6.out⟩

set_option maxRecDepth 100000 in
set_option maxHeartbeats 8000000 in
theorem drawFrom_any (a : Option Addr) (n c : Nat) (hn : n ≤ 140737488355328) (w : World) (hc : Code w a n) :
    Calls Try.prog 13 #[.slice a n c] w fun e w' => ∃ (v : Value) (xs : List Int), e = .returned v ∧ xs.length ≤ 8 ∧ OwnInts w' w.heap.size v xs ∧ Below w.heap.size w w' := by
  obtain ⟨i0, hi, hz0, hz1, hz2⟩ := info_parts info_int
  have HC0 := Lib.hid hc
  clear hc
  go_enter Try.func13, Try.ntmps13
  go_wp2_with fail
  refine (new_any a n c hn _ HC0.out).mono ?_
  rintro e w1 ⟨rfl, hcur, hs1, hb1⟩
  obtain ⟨B, hB⟩ : ∃ B, w.heap.size = B := ⟨_, rfl⟩
  have HBE := Lib.hid hB
  rw [hB] at hcur hs1 hb1 ⊢
  have hold : ∀ j, j < n → ∀ g o : Nat, a = some ⟨g, o, none⟩ → g < B := fun j hj g o e => by
    obtain ⟨g2, o2, x, e2, _, h2⟩ := HC0.out j hj
    rw [e] at e2
    cases e2
    exact hB ▸ World.block_lt_of_cell? w _ h2
  have HOLD := Lib.hid hold
  have K1 := Lib.hid hcur
  have B1 := Lib.hid hb1
  clear hcur hb1 HC0 hB hold
  go_wp2_with fail
  refine (l3Draw_any a n c hn B w1 hs1 K1.out).mono ?_
  rintro e w2 ⟨N, v, xs, rfl, hl, hO, hK, hG⟩
  obtain ⟨a2, c2, g2, rfl, hc2, hg2, hr2, _⟩ := OwnInts.ata hO hG.size
  have hs2 : B < w2.heap.size := Nat.lt_of_lt_of_le hs1 hG.size
  have K2 := Lib.hid hK
  have B2 : Hid (Below B w w2) := B1.out.trans (Mem.below_of_but hG (Nat.le_refl _) (by omega))
  have R2 := Lib.hid hr2.ints
  clear hO hK hG hr2 K1 B1
  have hl7 := hnum_le7 N xs
  go_wp2_with fail
  refine (specH_any N a2 c2 xs (by omega) w2 R2.out).mono ?_
  rintro e w3 ⟨v3, rfl, hO, hb⟩
  obtain ⟨L, hL⟩ : ∃ L, hnum N xs = L := ⟨_, rfl⟩
  rw [hL] at hO hl7
  have hs3 : B < w3.heap.size := Nat.lt_of_lt_of_le hs2 hb.size
  have K3 := Lib.hid (K2.out.keeps hs2 hb)
  have B3 : Hid (Below B w w3) := B2.out.trans (hb.mono (by omega))
  have O3 : Hid (OwnInts w3 (B + 1) v3 L) := hO.lower (by omega)
  clear hO hb hL R2 K2 B2
  go_wp2_with fail
  refine (once_b B a n c hn _ 3 rfl (by decide) (by decide) _ K3.out).mono ?_
  rintro e w4 ⟨b1, rfl, hd⟩
  have K4 := Lib.hid hd.1
  have B4 : Hid (Below B w w4) := B3.out.trans (Mem.below_of_but hd.2 (Nat.le_refl _) (by omega))
  have O4 : Hid (OwnInts w4 (B + 1) v3 L) := OwnInts.away O3.out hd.2 (by omega)
  have hs4 : B < w4.heap.size := Nat.lt_of_lt_of_le hs3 hd.2.size
  clear hd K3 B3 O3
  cases b1 with
  | false =>
    obtain ⟨aa, cc, gg, hvv, hcc, hgg, hrr, _⟩ := OwnInts.ata O4.out (show B + 1 ≤ w4.heap.size by omega)
    obtain ⟨l, hll⟩ : ∃ l, L.length = l := ⟨_, rfl⟩
    have HLL := Lib.hid hll
    have hl8 : l ≤ 8 := by omega
    rw [hll] at hvv
    by_cases h0 : l = 0
    · subst h0
      subst hvv
      go_wp2
      go_ret
      exact ⟨_, L, rfl, by rw [HLL.out]; omega, by rw [HBE.out]; exact O4.out.lower (by omega), by rw [HBE.out]; exact B4.out⟩
    · have hd0 : decide (0 < l) = true := by simp; omega
      have hO1 := O4.out
      rw [hvv, ← hll] at hO1
      obtain ⟨e4, hgl, hci, hfi⟩ := hrr 0 (by omega)
      subst hvv
      subst e4
      have HP := Lib.hid hO1
      clear hrr hci hfi hll hO1
      go_wp2_with fail
      refine (once_b B a n c hn _ 12 rfl (by decide) (by decide) _ K4.out).mono ?_
      rintro e w7 ⟨b2, rfl, hd⟩
      have B7 : Hid (Below B w w7) := B4.out.trans (Mem.below_of_but hd.2 (Nat.le_refl _) (by omega))
      have O7 : Hid (OwnInts w7 (B + 1) (.slice (some ⟨gg, 0, none⟩) L.length cc) L) := OwnInts.away HP.out hd.2 (by omega)
      have hs7 : B < w7.heap.size := Nat.lt_of_lt_of_le hs4 hd.2.size
      have K7 := Lib.hid hd.1
      clear hd K4 B4 O4 HP
      cases b2 with
      | false =>
        have h7 := O7.out
        rw [HLL.out] at h7
        have H7 := Lib.hid h7
        clear h7
        go_wp2
        go_ret
        exact ⟨_, L, rfl, by rw [HLL.out]; omega, by rw [HBE.out]; exact H7.out.lower (by omega), by rw [HBE.out]; exact B7.out⟩
      | true =>
        have hba : Below w7.heap.size w7 (w7.alloc (.cells #[.int .i64 1000, .int .i64 1001, .int .i64 (-1001)] 3)) := (Below.refl _ _).alloc (Nat.le_refl _) _
        have K8 := Lib.hid (K7.out.keeps hs7 hba)
        have B8 : Hid (Below B w (w7.alloc (.cells #[.int .i64 1000, .int .i64 1001, .int .i64 (-1001)] 3))) := B7.out.trans (hba.mono (by omega))
        have O8 : Hid (OwnInts (w7.alloc (.cells #[.int .i64 1000, .int .i64 1001, .int .i64 (-1001)] 3)) (B + 1) (.slice (some ⟨gg, 0, none⟩) L.length cc) L) := O7.out.alloc _
        have HROW := Lib.hid (row_ints w7 [1000, 1001, -1001] 3)
        clear hba K7 B7 O7
        go_wp2_with fail
        refine (pickInt_any B a n c hn w7.heap.size 0 3 [1000, 1001, -1001] (by decide) (by decide) _ K8.out (by omega) (by exact HROW.out)).mono ?_
        rintro e w9 ⟨r, hr, rfl, hd⟩
        obtain ⟨y, hy⟩ : ∃ y, ([1000, 1001, -1001] : List Int).getD r 0 = y := ⟨_, rfl⟩
        rw [hy]
        have B9 : Hid (Below B w w9) := B8.out.trans (Mem.below_of_but hd.2 (Nat.le_refl _) (by simp; omega))
        have O9 : Hid (OwnInts w9 (B + 1) (.slice (some ⟨gg, 0, none⟩) L.length cc) L) := OwnInts.away O8.out hd.2 (by omega)
        have hP := OwnInts.put O9.out 0 y
        rw [List.length_set, HLL.out] at hP
        have HP := Lib.hid hP
        obtain ⟨a9, c9, g9, hv9, hg9, hr9⟩ := O9.out.at
        injection hv9 with e1 e2 e3
        subst e1
        obtain ⟨e4, hgl9, hc9, hf9⟩ := hr9 0 (by rw [HLL.out]; omega)
        injection e4 with e4
        injection e4 with e4
        subst e4
        have hl0 : 0 < l := by omega
        clear hd hy HROW K8 B8 O8 hP hr9 e2 e3
        go_wp2
        go_ret
        exact ⟨_, L.set 0 y, rfl, by rw [List.length_set, HLL.out]; omega, by rw [HBE.out]; exact HP.out.lower (by omega), by rw [HBE.out]; exact B9.out.setCell (by dsimp only; omega) _⟩
  | true =>
    obtain ⟨a3, c3, g3, hv3, hc3, hg3, hr3, _⟩ := OwnInts.ata O4.out (show B + 1 ≤ w4.heap.size by omega)
    subst hv3
    clear hr3
    go_wp2_with fail
    refine (below_lit B a n c hn _ 5 rfl (by decide) (by decide) _ K4.out).mono ?_
    rintro e w5 ⟨q, hq, rfl, hd⟩
    have K5 := Lib.hid hd.1
    have B5 : Hid (Below B w w5) := B4.out.trans (Mem.below_of_but hd.2 (Nat.le_refl _) (by omega))
    have O5 : Hid (w5.ownsRow (B + 1) 3 1 (.slice a3 L.length c3) L.length (L.map (Value.int .i64))) := OwnInts.away O4.out hd.2 (by omega)
    have hs5 : B < w5.heap.size := Nat.lt_of_lt_of_le hs4 hd.2.size
    clear hd K4 B4 O4
    obtain ⟨x, hx⟩ : ∃ x, ((q : Int) - 2) = x := ⟨_, rfl⟩
    go_wp2_with (at_builtin; refine wpList_append_own_at _ rfl _ _ 24 rfl (B + 1) 3 i0 (.int .i64 0) 1 8 Try.underlying24 hi hz0 hz1 hz2 rfl (by decide) _ _ _ rfl (O5.out.alloc _) ⟨w5.heap.size, 0, none⟩ 1 1 [.int .i64 x] rfl rfl ?c1 ?c2 ?c3 ?c4 ?c5 ?_)
    case c1 => intro q u hq; exact Mem.cell_new w5 _ _ q u hq
    case c2 => intro u hu; simp at hu; subst hu; rfl
    case c3 => unfold maxLen; omega
    case c4 => omega
    case c5 => simp; omega
    intro v' w6 hown1 hgrow _ hob
    have hbs : Below (B + 1) w5 w6 := ((Below.refl _ _).alloc (by omega) _).grown hgrow (by simp; omega) (fun g hg => (O5.out.lt g hg).1)
    have K6 := Lib.hid (K5.out.below (b := B + 1) (by omega) hbs (fun j hj g o e => by have := HOLD.out j hj g o e; omega))
    have B6 : Hid (Below B w w6) := B5.out.trans (hbs.mono (by omega))
    have O6 : Hid (OwnInts w6 (B + 1) v' (L ++ [x])) := Lib.hid (OwnInts.next hown1)
    have hs6 : B < w6.heap.size := Nat.lt_of_lt_of_le hs5 hbs.size
    have hl8 : (L ++ [x]).length ≤ 8 := by rw [List.length_append]; simp; omega
    generalize L ++ [x] = L6 at O6 hl8
    clear hown1 hgrow hob hbs K5 B5 O5 hx
    obtain ⟨aa, cc, gg, hvv, hcc, hgg, hrr, _⟩ := OwnInts.ata O6.out (show B + 1 ≤ w6.heap.size by omega)
    obtain ⟨l, hll⟩ : ∃ l, L6.length = l := ⟨_, rfl⟩
    have HLL := Lib.hid hll
    have hl8 : l ≤ 8 := by omega
    rw [hll] at hvv
    by_cases h0 : l = 0
    · subst h0
      subst hvv
      go_wp2
      go_ret
      exact ⟨_, L6, rfl, by rw [HLL.out]; omega, by rw [HBE.out]; exact O6.out.lower (by omega), by rw [HBE.out]; exact B6.out⟩
    · have hd0 : decide (0 < l) = true := by simp; omega
      have hO1 := O6.out
      rw [hvv, ← hll] at hO1
      obtain ⟨e4, hgl, hci, hfi⟩ := hrr 0 (by omega)
      subst hvv
      subst e4
      have HP := Lib.hid hO1
      clear hrr hci hfi hll hO1
      go_wp2_with fail
      refine (once_b B a n c hn _ 12 rfl (by decide) (by decide) _ K6.out).mono ?_
      rintro e w7 ⟨b2, rfl, hd⟩
      have B7 : Hid (Below B w w7) := B6.out.trans (Mem.below_of_but hd.2 (Nat.le_refl _) (by omega))
      have O7 : Hid (OwnInts w7 (B + 1) (.slice (some ⟨gg, 0, none⟩) L6.length cc) L6) := OwnInts.away HP.out hd.2 (by omega)
      have hs7 : B < w7.heap.size := Nat.lt_of_lt_of_le hs6 hd.2.size
      have K7 := Lib.hid hd.1
      clear hd K6 B6 O6 HP
      cases b2 with
      | false =>
        have h7 := O7.out
        rw [HLL.out] at h7
        have H7 := Lib.hid h7
        clear h7
        go_wp2
        go_ret
        exact ⟨_, L6, rfl, by rw [HLL.out]; omega, by rw [HBE.out]; exact H7.out.lower (by omega), by rw [HBE.out]; exact B7.out⟩
      | true =>
        have hba : Below w7.heap.size w7 (w7.alloc (.cells #[.int .i64 1000, .int .i64 1001, .int .i64 (-1001)] 3)) := (Below.refl _ _).alloc (Nat.le_refl _) _
        have K8 := Lib.hid (K7.out.keeps hs7 hba)
        have B8 : Hid (Below B w (w7.alloc (.cells #[.int .i64 1000, .int .i64 1001, .int .i64 (-1001)] 3))) := B7.out.trans (hba.mono (by omega))
        have O8 : Hid (OwnInts (w7.alloc (.cells #[.int .i64 1000, .int .i64 1001, .int .i64 (-1001)] 3)) (B + 1) (.slice (some ⟨gg, 0, none⟩) L6.length cc) L6) := O7.out.alloc _
        have HROW := Lib.hid (row_ints w7 [1000, 1001, -1001] 3)
        clear hba K7 B7 O7
        go_wp2_with fail
        refine (pickInt_any B a n c hn w7.heap.size 0 3 [1000, 1001, -1001] (by decide) (by decide) _ K8.out (by omega) (by exact HROW.out)).mono ?_
        rintro e w9 ⟨r, hr, rfl, hd⟩
        obtain ⟨y, hy⟩ : ∃ y, ([1000, 1001, -1001] : List Int).getD r 0 = y := ⟨_, rfl⟩
        rw [hy]
        have B9 : Hid (Below B w w9) := B8.out.trans (Mem.below_of_but hd.2 (Nat.le_refl _) (by simp; omega))
        have O9 : Hid (OwnInts w9 (B + 1) (.slice (some ⟨gg, 0, none⟩) L6.length cc) L6) := OwnInts.away O8.out hd.2 (by omega)
        have hP := OwnInts.put O9.out 0 y
        rw [List.length_set, HLL.out] at hP
        have HP := Lib.hid hP
        obtain ⟨a9, c9, g9, hv9, hg9, hr9⟩ := O9.out.at
        injection hv9 with e1 e2 e3
        subst e1
        obtain ⟨e4, hgl9, hc9, hf9⟩ := hr9 0 (by rw [HLL.out]; omega)
        injection e4 with e4
        injection e4 with e4
        subst e4
        have hl0 : 0 < l := by omega
        clear hd hy HROW K8 B8 O8 hP hr9 e2 e3
        go_wp2
        go_ret
        exact ⟨_, L6.set 0 y, rfl, by rw [List.length_set, HLL.out]; omega, by rw [HBE.out]; exact HP.out.lower (by omega), by rw [HBE.out]; exact B9.out.setCell (by dsimp only; omega) _⟩

end Go.Proofs.Ytcgfioakjmbciaa
