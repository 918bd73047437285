/-
  TEXTS of one claim, put together: WMissS3, WMissS4, WDrawMiss, Mx.
-/
import Derived.Test.YtnpmhofeiflpeaaGreatJg14
import Derived.Test.YtnpmhofeiflpeaaGreatJg13
import Derived.Test.YtnpmhofeiflpeaaGreatJg15
import Derived.Test.YtnpmhofeiflpeaaGreatJg28
import Derived.Test.YtnpmhofeiflpeaaGreatJg29
import Derived.Test.YtnpmhofeiflpeaaGreatWPartB
import Derived.Test.YtnpmhofeiflpeaaGreatJg1
/-! WALKS: spec's chapter 7: GreatestMissing, CompleteUpTo, IsFlag, FlagOf (written by genmiss.py). -/

namespace Go.Proofs.YtnpmhofeiflpeaaGreat
open Go.RowKit
open Sets

theorem okM_at {xs : List Int} (h : allOk xs = true) (k : Nat) (hk : k < xs.length) : ∃ t : Nat, xs.getD k 0 = (t : Int) ∧ t < 64 := by
  refine ok_nat h ?_
  rw [List.getD, List.getElem?_eq_getElem hk]; exact List.getElem_mem hk

end Go.Proofs.YtnpmhofeiflpeaaGreat

/-! WALKS: spec.FlagOf (written by genflagof.py). -/

namespace Go.Proofs.YtnpmhofeiflpeaaGreat
open Go.RowKit
open Sets

theorem specFlagO_no {n : Int} {xs : List Int} (h : isC n xs = false) : flagO n xs = none := by unfold flagO; rw [h]; rfl
theorem specFlagO_yes {n : Int} {xs M : List Int} (h : isC n xs = true) (hM : missing n xs = M) : flagO n xs = some (n, maxQ (avoidQ n (keepL (fun x => decide (pc x.toNat ≤ 2)) M M.length))) := by
  unfold flagO; rw [h, hM, keepL_all]; rfl
theorem specAt_ok {xs : List Int} (h : allOk xs = true) (k : Nat) (hk : k < xs.length) : ∃ t : Nat, xs.getD k 0 = (t : Int) ∧ t < 64 := by
  refine ok_nat h ?_
  rw [List.getD, List.getElem?_eq_getElem hk]; exact List.getElem_mem hk
theorem specKeep_hit (M : List Int) (k t : Nat) (hk : k < M.length) (ht : M.getD k 0 = (t : Int)) (h : pc t ≤ 2) : keepL (fun x => decide (pc x.toNat ≤ 2)) M (k + 1) = keepL (fun x => decide (pc x.toNat ≤ 2)) M k ++ [(t : Int)] := by
  rw [keepL_hit _ M k hk (by rw [ht]; simpa using h), ht]
theorem specKeep_miss (M : List Int) (k t : Nat) (hk : k < M.length) (ht : M.getD k 0 = (t : Int)) (h : ¬pc t ≤ 2) : keepL (fun x => decide (pc x.toNat ≤ 2)) M (k + 1) = keepL (fun x => decide (pc x.toNat ≤ 2)) M k :=
  keepL_miss _ M k hk (by rw [ht]; simpa using h)

end Go.Proofs.YtnpmhofeiflpeaaGreat

/-! WALKS: the draws of chapter 7. -/

namespace Go.Proofs.YtnpmhofeiflpeaaGreat
open Go.RowKit
open Sets

theorem flagO_le (n : Int) (xs : List Int) : (oL (flagO n xs)).length ≤ 64 := partL_le _ _ _

set_option maxRecDepth 100000 in
set_option maxHeartbeats 4000000 in
theorem l2Sets_cur (a : Option Addr) (n c : Nat) (hn : n ≤ 140737488355328) (w0 : World) (hc0 : Code w0 a n) (B : Nat) (w : World) (hB0 : w0.heap.size ≤ B) (hBw : B < w.heap.size) (hb0 : Below w0.heap.size w0 w) (hc : Cur w B a n c) :
    Calls Tryz.prog 76 #[.pointer (some ⟨B, 0, none⟩)] w fun e w' => ∃ v xs, e = .returned v ∧ xs.length ≤ 6 ∧ OwnInts w' w.heap.size v xs ∧ Cur w' B a n c ∧ Below w0.heap.size w0 w' := by
  obtain ⟨i0, hi, hz0, hz1, hz2⟩ := info_parts info_int
  have HC0 := Lib.hid hc0
  have HC := Lib.hid hc
  have HOLD := Lib.hid hc.old
  clear hc0 hc
  have hs0 := hb0.size
  go_enter Tryz.func76, Tryz.ntmps76
  go_wp2_with fail
  refine (below_lit B a n c hn _ 7 rfl (by omega) (by omega) _ (by exact HC.out.alloc hBw _)).mono ?_
  rintro e w1 ⟨m, hm, rfl, hd⟩
  have K1 := Lib.hid hd.1
  have O1 := Lib.hid (OwnInts.but (OwnInts.lit w _ [] (Nat.le_refl _) (by simp)) hd.2 hBw)
  have hb1 : Below w0.heap.size w0 w1 := (hb0.alloc (by omega) _).trans (Mem.below_of_but hd.2 hB0 (by simp; omega))
  have hs1 : w.heap.size ≤ w1.heap.size := by have := hd.2.size; simp at this; omega
  clear hd hb0
  go_wp2
  go_loopw [3, 5] (fun v i wr => ∃ (k : Nat) (xs : List Int), k ≤ m ∧ i = .int .i64 (k : Int) ∧ OwnInts wr w.heap.size v xs ∧ Cur wr B a n c ∧ Below w0.heap.size w0 wr ∧ w.heap.size ≤ wr.heap.size ∧ xs.length = k) (fun _ i _ => m - (intOf i).toNat)
  case atStart => exact ⟨0, [], Nat.zero_le _, rfl, O1.out, K1.out, hb1, hs1, rfl⟩
  case round =>
    clear K1 O1 hb1 hs1
    obtain ⟨k, xs, hk, rfl, hO, hK, hb1, hs1, hxl⟩ := hrel
    have HO := Lib.hid hO
    have HK := Lib.hid hK
    have HXL := Lib.hid hxl
    have hxl1 : xs.length ≤ k := by omega
    clear hO hK hxl
    by_cases hlt : k < m
    · go_wp2_with fail
      refine (below_lit B a n c hn _ 64 rfl (by omega) (by omega) _ HK.out).mono ?_
      rintro e w2 ⟨r, hr, rfl, hd⟩
      have K2 := Lib.hid hd.1
      have O2 : Hid (w2.ownsRow w.heap.size 3 1 u3 xs.length (xs.map (Value.int .i64))) := Lib.hid (OwnInts.but HO.out hd.2 hBw)
      have hb2 : Below w0.heap.size w0 w2 := hb1.trans (Mem.below_of_but hd.2 hB0 (by omega))
      have hs2 : w.heap.size ≤ w2.heap.size := by have := hd.2.size; omega
      clear hd HO HK hb1
      go_wp2_with (at_builtin; refine wpList_append_own _ rfl _ _ 24 rfl w.heap.size 3 i0 (.int .i64 0) 1 8 Tryz.underlying24 hi hz0 hz1 hz2 rfl (by decide) _ _ _ rfl (O2.out.alloc _) ⟨w2.heap.size, 0, none⟩ 1 1 [.int .i64 (r : Int)] rfl rfl ?c1 ?c2 ?c3 ?c4 ?c5 ?_)
      case c1 => intro j u hj; exact Mem.cell_new w2 _ _ j u hj
      case c2 => intro u hu; simp at hu; subst hu; rfl
      case c3 => unfold maxLen; omega
      case c4 => omega
      case c5 => simp; omega
      intro v' w3 hown1 hgrow _
      have hbs : Below (B + 1) w2 w3 := ((Below.refl _ _).alloc (by omega) _).grown hgrow (by simp; omega) (fun g hg => by have := (O2.out.lt g hg).1; omega)
      have hb3 : Below w0.heap.size w0 w3 := hb2.trans (hbs.mono (by omega))
      have K3 := Lib.hid (Cur.redo HC0.out K2.out hB0 hb3 (hbs.block B (by omega)))
      have hs3 : w.heap.size ≤ w3.heap.size := by have := hbs.size; omega
      have H1 := Lib.hid hown1
      clear hown1 hgrow hbs
      go_wp2
      go_roundw
      case rel => exact ⟨k + 1, xs ++ [(r : Int)], by omega, by go_num, OwnInts.next H1.out, K3.out, hb3, hs3, by rw [List.length_append, HXL.out]; rfl⟩
      case measure => simp [intOf]; omega
    · have E := Lib.hid (show k = m by omega)
      by_cases hm0 : 0 < m
      · go_wp2_with fail
        refine (once_any B a n c hn _ 12 rfl (by omega) (by omega) _ HK.out).mono ?_
        rintro e w2 ⟨b, rfl, hd⟩
        have K2 := Lib.hid hd.1
        have O2 : Hid (OwnInts w2 w.heap.size u3 xs) := Lib.hid (OwnInts.but HO.out hd.2 hBw)
        have hb2 : Below w0.heap.size w0 w2 := hb1.trans (Mem.below_of_but hd.2 hB0 (by omega))
        have hs2 : w.heap.size ≤ w2.heap.size := by have := hd.2.size; omega
        clear hd HO HK hb1
        cases b with
        | true =>
          have hx0 : 0 < xs.length := by have := HXL.out; have := E.out; omega
          obtain ⟨a1, c1, g1, hv, hg1, hr1⟩ := O2.out.at
          subst hv
          obtain ⟨ea, _, _, _⟩ := hr1 0 hx0
          subst ea
          have hlg := (World.ownsRow.lt O2.out g1 rfl)
          clear hr1
          go_wp2_with fail
          refine (pickInt_any B a n c hn w2.heap.size 0 3 [-1, 64, 63] (by decide) (by decide) _ (by exact K2.out.alloc (by omega) _) (by omega) (by exact row_ints w2 [-1, 64, 63] _)).mono ?_
          rintro e w3 ⟨r, hr, rfl, hd⟩
          have O3 := Lib.hid (OwnInts.but (OwnInts.alloc O2.out _) hd.2 hBw)
          have hb3 : Below w0.heap.size w0 w3 := (hb2.alloc (by omega) _).trans (Mem.below_of_but hd.2 hB0 (by simp; omega))
          generalize ([-1, 64, 63] : List Int).getD r 0 = z at *
          have O4 := Lib.hid (OwnInts.set0 O3.out z)
          have hx : ∃ x, w3.cell? ⟨g1, 0, none⟩ = some x := ⟨_, by rw [World.ownsRow.cellAt O3.out 0 (by omega), ints_cell xs 0 hx0]⟩
          obtain ⟨x, hx⟩ := hx
          have hf : w3.frozen? ⟨g1, 0, none⟩ = false := World.ownsRow.frozenAt O3.out 0
          have hx1 : 0 < xs.length := hx0
          have K4 := Lib.hid (Cur.below hd.1 (b := w.heap.size) hBw (show Below w.heap.size w3 (w3.setCell ⟨g1, 0, none⟩ (.int .i64 z)) from (Below.refl _ _).setCell (show w.heap.size ≤ g1 by omega) _) HOLD.out)
          clear hd
          go_wp2
          go_ret
          exact ⟨_, xs.set 0 z, rfl, by rw [List.length_set]; omega, by exact O4.out, K4.out, hb3.setCell (show w0.heap.size ≤ g1 by omega) _⟩
        | false =>
          go_wp2
          go_ret
          exact ⟨_, xs, rfl, by omega, O2.out, K2.out, hb2⟩
      · go_wp2
        go_ret
        exact ⟨_, xs, rfl, by omega, HO.out, HK.out, hb1⟩

theorem OwnInts.setk {w : World} {base g c : Nat} {xs : List Int} (h : OwnInts w base (.slice (some ⟨g, 0, none⟩) xs.length c) xs) (k : Nat) (z : Int) : OwnInts (w.setCell ⟨g, k, none⟩ (.int .i64 z)) base (.slice (some ⟨g, 0, none⟩) xs.length c) (xs.set k z) := by
  have h1 := (World.ownsRow.stored h k (.int .i64 z)).1
  unfold OwnInts
  rw [List.length_set, List.map_set]
  exact h1

set_option maxRecDepth 100000 in
set_option maxHeartbeats 4000000 in
theorem drawFrom_any (a : Option Addr) (n c : Nat) (hn : n ≤ 140737488355328) (w : World) (hc : Code w a n) :
    Calls Tryz.prog 39 #[.slice a n c] w fun e w' => ∃ (N : Int) (v : Value) (xs : List Int), e = .returned (.tuple #[.int .i64 N, v]) ∧ xs.length ≤ 6 ∧ OwnInts w' w.heap.size v xs ∧ Below w.heap.size w w' := by
  have HC := Lib.hid hc
  clear hc
  go_enter Tryz.func39, Tryz.ntmps39
  go_wp2_with fail
  refine (new_any a n c hn _ HC.out).mono ?_
  rintro e w1 ⟨rfl, hcur, hz1, hb1⟩
  have K1 := Lib.hid hcur
  have B1 := Lib.hid hb1
  have HOLD := Lib.hid hcur.old
  clear hcur hb1
  go_wp2_with fail
  refine (pickInt_any w.heap.size a n c hn w1.heap.size 0 10 [1, 2, 3, 4, 5, 6, 6, 6, 0, 7] (by decide) (by decide) _ (by exact K1.out.alloc hz1 _) (by omega) (by exact row_ints w1 [1, 2, 3, 4, 5, 6, 6, 6, 0, 7] _)).mono ?_
  rintro e w2 ⟨r, hr, rfl, hd⟩
  have K2 := Lib.hid hd.1
  have B2 : Hid (Below w.heap.size w w2) := (B1.out.alloc (by omega) _).trans (Mem.below_of_but hd.2 (by omega) (by simp; omega))
  have hs2 : w1.heap.size + 1 ≤ w2.heap.size := by have := hd.2.size; simp at this; omega
  obtain ⟨N, hN⟩ : ∃ N : Int, ([1, 2, 3, 4, 5, 6, 6, 6, 0, 7] : List Int).getD r 0 = N := ⟨_, rfl⟩
  rw [hN]
  clear hd K1 B1 hr hN
  go_wp2_with fail
  refine (l2Sets_cur a n c hn w HC.out w.heap.size w2 (Nat.le_refl _) (by omega) B2.out K2.out).mono ?_
  rintro e w3 ⟨v, xs, rfl, hl, hO, hK, hb3⟩
  have HK := Lib.hid hK
  have HB := Lib.hid hb3
  obtain ⟨a3, c3, g3, rfl, hg3, hI⟩ := OwnInts.at hO
  have hwg : w.heap.size < g3 := by omega
  have HO := Lib.hid hO
  have HI := Lib.hid hI
  clear hO hK hb3 K2 B2 hI
  go_wp2
  go_loopw [7] (fun i wr => ∃ (k : Nat) (ys : List Int), k ≤ xs.length ∧ i = .int .i64 (k : Int) ∧ ys.length = xs.length ∧ OwnInts wr w2.heap.size (.slice a3 xs.length c3) ys ∧ Cur wr w.heap.size a n c ∧ Below w.heap.size w wr) (fun i _ => xs.length - (intOf i).toNat)
  case atStart => exact ⟨0, xs, Nat.zero_le _, rfl, rfl, HO.out, HK.out, HB.out⟩
  case round =>
    clear HO HK HB
    obtain ⟨k, ys, hk, rfl, hyl, hO, hK, hB⟩ := hrel
    have HYL := Lib.hid hyl
    have hsz := hB.size
    have HK := Lib.hid hK
    have HO := Lib.hid hO
    have HB := Lib.hid hB
    clear hO hK hB hyl
    by_cases hlt : k < xs.length
    · obtain ⟨ha3, _⟩ := HI.out k hlt
      subst ha3
      go_wp2_with fail
      refine (once_b w.heap.size a n c hn _ 5 rfl (by omega) (by omega) _ HK.out).mono ?_
      rintro e w4 ⟨b, rfl, hd⟩
      have HO4 := Lib.hid (OwnInts.away HO.out hd.2 (by omega))
      have HK4 := Lib.hid hd.1
      have HB4 : Hid (Below w.heap.size w w4) := HB.out.trans (Mem.below_of_but hd.2 (Nat.le_refl _) (by omega))
      clear hd HO HK HB
      cases b with
      | true =>
        go_wp2
        go_ret2
        exact ⟨N, _, ys, rfl, by rw [HYL.out]; exact hl, HO4.out.lower (by omega), HB4.out⟩
      | false =>
        have hO4 := HO4.out
        unfold OwnInts at hO4
        rw [HYL.out] at hO4
        have hcl := World.ownsRow.cellAt hO4 k (by omega)
        rw [ints_cell ys k (by rw [HYL.out]; exact hlt)] at hcl
        have hfr := World.ownsRow.frozenAt hO4 k
        clear hO4
        obtain ⟨x, hx⟩ : ∃ x, ys.getD k 0 = x := ⟨_, rfl⟩
        rw [hx] at hcl
        clear hx
        have fin : ∀ w5 : World, w5 = w4 → ∃ (k' : Nat) (zs : List Int), k' ≤ xs.length ∧ Value.int .i64 ((k : Int) + 1) = .int .i64 (k' : Int) ∧ zs.length = xs.length ∧ OwnInts w5 w2.heap.size (.slice (some ⟨g3, 0, none⟩) xs.length c3) zs ∧ Cur w5 w.heap.size a n c ∧ Below w.heap.size w w5 := fun w5 h => by
          subst h; exact ⟨k + 1, ys, by omega, by go_num, HYL.out, HO4.out, HK4.out, HB4.out⟩
        have FIN := Lib.hid fin
        clear fin
        by_cases h1 : 1 ≤ N
        · by_cases h6 : N ≤ 6
          · by_cases hx0 : 0 < x
            · go_wp2
              generalize bits BinOp.and IntKind.i64 x (wrap64 (wrap64 (2 ^ N.toNat) - 1)) = z
              have hO5 : OwnInts (w4.setCell ⟨g3, k, none⟩ (.int .i64 z)) w2.heap.size (.slice (some ⟨g3, 0, none⟩) xs.length c3) (ys.set k z) := by
                have h := HO4.out
                rw [← HYL.out] at h ⊢
                exact OwnInts.setk h k z
              have hst : Below w2.heap.size w4 (w4.setCell ⟨g3, k, none⟩ (.int .i64 z)) := (Below.refl _ _).setCell hg3 _
              have hK5 := Cur.below HK4.out (by omega) hst (fun j hj g o e => by have := HOLD.out j hj g o e; omega)
              have hB5 : Below w.heap.size w (w4.setCell ⟨g3, k, none⟩ (.int .i64 z)) := HB4.out.setCell (show w.heap.size ≤ g3 by omega) _
              refine ⟨⟨k + 1, ys.set k z, by omega, by go_num, by rw [List.length_set]; exact HYL.out, hO5, hK5, hB5⟩, ?_⟩
              simp [intOf]; omega
            · go_wp2
              go_roundw
              case rel => exact FIN.out _ rfl
              case measure => simp [intOf]; omega
          · go_wp2
            go_roundw
            case rel => exact FIN.out _ rfl
            case measure => simp [intOf]; omega
        · go_wp2
          go_roundw
          case rel => exact FIN.out _ rfl
          case measure => simp [intOf]; omega
    · go_wp2
      go_ret2
      exact ⟨N, _, ys, rfl, by rw [HYL.out]; exact hl, HO.out.lower (by omega), HB.out⟩

end Go.Proofs.YtnpmhofeiflpeaaGreat

/-! MEMORY: a matrix of numbers: a slice of slices, each row in a block of its own; a call that writes into some blocks alone. -/

namespace Go.Proofs.YtnpmhofeiflpeaaGreat
open Go.RowKit

/-- Only the blocks G are written; new ones may come. -/
structure Only (G : List Nat) (w w' : World) : Prop where
  os : w'.os = w.os
  tape : w'.tape = w.tape
  output : w'.output = w.output
  size : w.heap.size ≤ w'.heap.size
  block : ∀ k, k < w.heap.size → k ∉ G → w'.heap[k]? = w.heap[k]?
theorem Only.refl (G : List Nat) (w : World) : Only G w w := ⟨rfl, rfl, rfl, Nat.le_refl _, fun _ _ _ => rfl⟩
theorem Only.trans {G : List Nat} {a b c : World} (h : Only G a b) (k : Only G b c) : Only G a c :=
  ⟨k.os.trans h.os, k.tape.trans h.tape, k.output.trans h.output, Nat.le_trans h.size k.size, fun i hi hn => (k.block i (Nat.lt_of_lt_of_le hi h.size) hn).trans (h.block i hi hn)⟩
theorem Only.set (G : List Nat) (w : World) {b : Nat} (o : Nat) (hb : b ∈ G) (v : Value) : Only G w (w.setCell ⟨b, o, none⟩ v) := by
  refine ⟨rfl, rfl, rfl, by simp [World.setCell], fun k _ hk => ?_⟩
  simp only [World.setCell, Array.getElem?_modify]
  rw [if_neg (fun e => hk (by rw [← e]; exact hb))]
theorem Only.of_below {w w' : World} (G : List Nat) (h : Below w.heap.size w w') : Only G w w' := ⟨h.os, h.tape, h.output, h.size, fun k hk _ => h.block k hk⟩
theorem Only.below {B : Nat} {G : List Nat} {w w' : World} (h : Only G w w') (hG : ∀ g, g ∈ G → B ≤ g) (hB : B ≤ w.heap.size) : Below B w w' :=
  ⟨h.os, h.tape, h.output, h.size, fun k hk => h.block k (by omega) fun hm => by have := hG k hm; omega⟩
theorem Only.drew {G : List Nat} {w w' : World} (h : Only G w w') : Only G w w'.drew := ⟨h.os, h.tape, h.output, h.size, h.block⟩
theorem IntsAt.only {w w' : World} {G : List Nat} {g : Nat} {a : Option Addr} {xs : List Int} (h : IntsAt w g a xs) (k : Only G w w') (hg : g ∉ G) : IntsAt w' g a xs := fun j hj => by
  obtain ⟨h1, h2, h3, h4⟩ := h j hj
  have hb := k.block g h2 hg
  exact ⟨h1, Nat.lt_of_lt_of_le h2 k.size, by rw [World.cell?_of_block (w := w) hb]; exact h3, by rw [World.frozen?_of_block (w := w) hb]; exact h4⟩

abbrev blk (R : List (Nat × Nat)) (i : Nat) : Nat := (R.getD i (0, 0)).1
abbrev room (R : List (Nat × Nat)) (i : Nat) : Nat := (R.getD i (0, 0)).2
abbrev blks (R : List (Nat × Nat)) : List Nat := R.map (·.1)
theorem blk_mem {R : List (Nat × Nat)} {i : Nat} (h : i < R.length) : blk R i ∈ blks R := by
  refine List.mem_map.2 ⟨R[i], List.getElem_mem h, ?_⟩
  simp [blk, List.getD, List.getElem?_eq_getElem h]
theorem blk_inj {R : List (Nat × Nat)} (hn : (blks R).Nodup) {i k : Nat} (hi : i < R.length) (hk : k < R.length) (h : blk R i = blk R k) : i = k := by
  have e : ∀ j, (hj : j < R.length) → blk R j = (blks R)[j]'(by simpa using hj) := fun j hj => by simp [blk, blks, List.getD, List.getElem?_eq_getElem hj]
  rw [e i hi, e k hk] at h
  exact (List.getElem_inj hn).1 h

/-- A matrix: the outer slice in the block go, its rows in the blocks of R. -/
structure Mx (w : World) (go : Nat) (ao : Option Addr) (R : List (Nat × Nat)) (M : Lin.Mat) : Prop where
  len : R.length = M.length
  nodup : (blks R).Nodup
  out : ∀ i, i < M.length → ao = some ⟨go, 0, none⟩ ∧ go < w.heap.size ∧ w.cell? ⟨go, i, none⟩ = some (.slice (some ⟨blk R i, 0, none⟩) (Lin.row M i).length (room R i)) ∧ w.frozen? ⟨go, i, none⟩ = false
  rows : ∀ i, i < M.length → blk R i < w.heap.size ∧ IntsAt w (blk R i) (some ⟨blk R i, 0, none⟩) (Lin.row M i)
  apart : go ∉ blks R

theorem Mx.keeps {w w' : World} {go : Nat} {ao : Option Addr} {R : List (Nat × Nat)} {M : Lin.Mat} (h : Mx w go ao R M) (hb : Below w.heap.size w w') : Mx w' go ao R M := by
  refine ⟨h.len, h.nodup, fun i hi => ?_, fun i hi => ?_, h.apart⟩
  · obtain ⟨h1, h2, h3, h4⟩ := h.out i hi
    exact ⟨h1, Nat.lt_of_lt_of_le h2 hb.size, by rw [hb.cell (p := ⟨go, i, none⟩) h2]; exact h3, by rw [hb.frozen (p := ⟨go, i, none⟩) h2]; exact h4⟩
  · obtain ⟨h1, h2⟩ := h.rows i hi
    exact ⟨Nat.lt_of_lt_of_le h1 hb.size, h2.keeps hb⟩
theorem Mx.drew {w : World} {go : Nat} {ao : Option Addr} {R : List (Nat × Nat)} {M : Lin.Mat} (h : Mx w go ao R M) : Mx w.drew go ao R M := ⟨h.len, h.nodup, h.out, h.rows, h.apart⟩
theorem Mx.cell {w : World} {go : Nat} {ao : Option Addr} {R : List (Nat × Nat)} {M : Lin.Mat} (h : Mx w go ao R M) {i : Nat} (hi : i < M.length) : w.cell? ⟨go, i, none⟩ = some (.slice (some ⟨blk R i, 0, none⟩) (Lin.row M i).length (room R i)) := (h.out i hi).2.2.1
theorem Mx.ent {w : World} {go : Nat} {ao : Option Addr} {R : List (Nat × Nat)} {M : Lin.Mat} (h : Mx w go ao R M) {i j : Nat} (hi : i < M.length) (hj : j < (Lin.row M i).length) : w.cell? ⟨blk R i, j, none⟩ = some (.int .i64 (Lin.ent M i j)) := ((h.rows i hi).2 j hj).2.2.1
theorem Mx.soft {w : World} {go : Nat} {ao : Option Addr} {R : List (Nat × Nat)} {M : Lin.Mat} (h : Mx w go ao R M) {i j : Nat} (hi : i < M.length) (hj : j < (Lin.row M i).length) : w.frozen? ⟨blk R i, j, none⟩ = false := ((h.rows i hi).2 j hj).2.2.2

theorem row_set (M : Lin.Mat) (i k : Nat) (r : List Int) (hi : i < M.length) : Lin.row (M.set i r) k = if k = i then r else Lin.row M k := by
  unfold Lin.row
  simp only [List.getD, List.getElem?_set]
  by_cases e : k = i
  · subst e; simp [hi]
  · rw [if_neg (fun h => e h.symm), if_neg e]

theorem IntsAt.setOwn {w : World} {g : Nat} {a : Option Addr} {xs : List Int} (h : IntsAt w g a xs) (j : Nat) (x : Int) : IntsAt (w.setCell ⟨g, j, none⟩ (.int .i64 x)) g a (xs.set j x) := fun k hk => by
  rw [List.length_set] at hk
  obtain ⟨h1, h2, h3, h4⟩ := h k hk
  refine ⟨h1, by simpa [World.setCell] using h2, ?_, by rw [World.frozen?_setCell]; exact h4⟩
  by_cases e : k = j
  · subst e
    rw [World.cell?_setCell_same _ _ _ h3]
    simp [List.getD, hk]
  · rw [World.cell?_setCell_other _ _ _ _ (by simp), h3]
    simp [List.getD, Ne.symm e]

/-- One number of one row is written. -/
theorem Mx.set {w : World} {go : Nat} {ao : Option Addr} {R : List (Nat × Nat)} {M : Lin.Mat} (h : Mx w go ao R M) {i : Nat} (hi : i < M.length) (j : Nat) (x : Int) : Mx (w.setCell ⟨blk R i, j, none⟩ (.int .i64 x)) go ao R (M.set i ((Lin.row M i).set j x)) := by
  have hiR : i < R.length := by rw [h.len]; exact hi
  have hne : go ≠ blk R i := fun e => h.apart (e ▸ blk_mem hiR)
  have hlen : ∀ k, (Lin.row (M.set i ((Lin.row M i).set j x)) k).length = (Lin.row M k).length := fun k => by
    rw [row_set M i k _ hi]
    by_cases e : k = i
    · rw [if_pos e, List.length_set, e]
    · rw [if_neg e]
  refine ⟨by rw [List.length_set]; exact h.len, h.nodup, fun k hk => ?_, fun k hk => ?_, h.apart⟩
  · rw [List.length_set] at hk
    obtain ⟨h1, h2, h3, h4⟩ := h.out k hk
    refine ⟨h1, by simpa [World.setCell] using h2, ?_, by rw [World.frozen?_setCell]; exact h4⟩
    rw [World.cell?_setCell_other _ _ _ _ (fun e => hne (congrArg Addr.block e).symm), hlen]; exact h3
  · rw [List.length_set] at hk
    obtain ⟨h1, h2⟩ := h.rows k hk
    refine ⟨by simpa [World.setCell] using h1, ?_⟩
    rw [row_set M i k _ hi]
    by_cases e : k = i
    · rw [if_pos e]; subst e; exact h2.setOwn j x
    · rw [if_neg e]
      exact h2.only (G := [blk R i]) (Only.set _ w j (by simp) _) (by
        rw [List.mem_singleton]; intro e'; exact e (blk_inj h.nodup (by rw [h.len]; exact hk) hiR e'))

/-- A row that is written number by number, j of them so far. -/
def mix (new old : List Int) (j : Nat) : List Int := new.take j ++ old.drop j
theorem mix_zero (new old : List Int) : mix new old 0 = old := rfl
theorem mix_length {new old : List Int} (h : new.length = old.length) (j : Nat) : (mix new old j).length = old.length := by unfold mix; simp; omega
theorem mix_end {new old : List Int} (h : new.length = old.length) {j : Nat} (hj : old.length ≤ j) : mix new old j = new := by
  unfold mix; rw [List.take_of_length_le (by omega), List.drop_eq_nil_of_le hj, List.append_nil]
theorem mix_at {new old : List Int} (h : new.length = old.length) {j : Nat} (hj : j < old.length) : (mix new old j).getD j 0 = old.getD j 0 := by
  unfold mix
  simp only [List.getD]
  rw [List.getElem?_append_right (by simp; omega)]
  simp [List.getElem?_drop, show j - min j new.length = 0 by omega]
theorem mix_step {new old : List Int} (h : new.length = old.length) {j : Nat} (hj : j < old.length) : (mix new old j).set j (new.getD j 0) = mix new old (j + 1) := by
  unfold mix
  apply List.ext_getElem?
  intro k
  rw [List.getElem?_set]
  by_cases e : j = k
  · subst e
    rw [if_pos rfl, if_pos (by simp; omega), List.getElem?_append_left (by simp; omega), List.getElem?_take_of_lt (by omega)]
    simp [List.getD, List.getElem?_eq_getElem (h ▸ hj : j < new.length)]
  · rw [if_neg e]
    by_cases e2 : k < j
    · rw [List.getElem?_append_left (by simp; omega), List.getElem?_append_left (by simp; omega), List.getElem?_take_of_lt e2, List.getElem?_take_of_lt (by omega)]
    · rw [List.getElem?_append_right (by simp; omega), List.getElem?_append_right (by simp; omega), List.getElem?_drop, List.getElem?_drop]
      congr 1
      simp; omega

theorem set_set_mix (M : Lin.Mat) (i : Nat) (a b : List Int) : (M.set i a).set i b = M.set i b := by rw [List.set_set]

/-- The next number of a row is written. -/
theorem Mx.step {w : World} {go : Nat} {ao : Option Addr} {R : List (Nat × Nat)} {M : Lin.Mat} {i j : Nat} {new old : List Int} (h : Mx w go ao R (M.set i (mix new old j))) (hi : i < M.length) (hl : new.length = old.length) (hj : j < old.length) {x : Int} (hx : new.getD j 0 = x) :
    Mx (w.setCell ⟨blk R i, j, none⟩ (.int .i64 x)) go ao R (M.set i (mix new old (j + 1))) := by
  have := h.set (i := i) (by rw [List.length_set]; exact hi) j x
  rw [row_set M i i _ hi, if_pos rfl, ← hx, mix_step hl hj, List.set_set, hx] at this
  exact this

end Go.Proofs.YtnpmhofeiflpeaaGreat
