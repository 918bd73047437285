/-
  TEXTS of one claim, put together: WDualS, WEq1, WEq2, WEq3.
-/
import Derived.Test.YtbkkdgmiokdbmaaGreatDual3
import Derived.Test.YtbkkdgmiokdbmaaGreatJg11
import Derived.Test.YtbkkdgmiokdbmaaGreatJg15
import Derived.Test.YtbkkdgmiokdbmaaGreatJg9
import Derived.Test.YtbkkdgmiokdbmaaGreatJg16
import Derived.Deep.RegionLaw
import Derived.Deep.AppendLies
import Derived.Test.YtbkkdgmiokdbmaaGreatJg1
import Derived.Laws.CopyOwn
import Derived.Deep.WholeRow
import Derived.Deep.RegionHeld3
/-! WALKS: spec's chapter 8: the dual complex. -/

namespace Go.Proofs.YtbkkdgmiokdbmaaGreat
open Go.RowKit
open Sets Hom

theorem comp_lit (k : Nat) (s : Int) (h : setB (k : Int) s = true) : 0 ≤ s ∧ s < 2 ^ k ∧ compZ (k : Int) s = 2 ^ k - 1 - s := by
  have h2 := (setB_iff _ s).1 h
  rw [Int.toNat_natCast] at h2
  exact ⟨h2.2.2.1, h2.2.2.2, by unfold compZ; rw [if_pos h, Int.toNat_natCast]⟩

end Go.Proofs.YtbkkdgmiokdbmaaGreat

/-! WALKS: impl.firstBlock, and its blocks compared. -/

namespace Go.Proofs.YtbkkdgmiokdbmaaGreat
open Go.RowKit
open Sets

/-- The first 64 numbers, filled up by 0. -/
def pad (xs : List Int) : List Int := xs.take 64 ++ List.replicate (64 - min xs.length 64) 0
theorem pad_len (xs : List Int) : (pad xs).length = 64 := by simp [pad]; omega
/-- The cells of the block of facets. -/
def blkV (n : Int) (xs : List Int) : List Value := Value.int .i64 n :: Value.int .i64 (xs.length : Int) :: icells (pad xs)
theorem blkV_len (n : Int) (xs : List Int) : (blkV n xs).length = 66 := by
  unfold blkV; rw [List.length_cons, List.length_cons, icells_length, pad_len]
theorem blkV_one (n : Int) (xs : List Int) : ∀ v ∈ blkV n xs, v.oneCell' = true := by
  intro v hv
  unfold blkV icells at hv
  rcases List.mem_cons.1 hv with rfl | hv
  · rfl
  rcases List.mem_cons.1 hv with rfl | hv
  · rfl
  obtain ⟨x, _, rfl⟩ := List.mem_map.1 hv
  rfl
def blk0 (n : Int) (l : Nat) : List Value := Value.int .i64 n :: Value.int .i64 (l : Int) :: List.replicate 64 (Value.int .i64 0)
theorem blk0_len (n : Int) (l : Nat) : (blk0 n l).length = 66 := rfl
theorem zero51 : Tryz.zeroCells85.toList = List.replicate 66 (Value.int .i64 0) := by kernel_rfl
theorem zero51_size : Tryz.zeroCells85.size = 66 := by kernel_rfl
theorem blk0_set (n : Int) (l : Nat) : (Tryz.zeroCells85.toList.set 0 (Value.int .i64 n)).set 1 (Value.int .i64 (l : Int)) = blk0 n l := by
  rw [zero51]; rfl
theorem splice_blk (n : Int) (xs : List Int) : splice (blk0 n xs.length) 2 (icells (xs.take 64)) = blkV n xs := by
  unfold splice blk0 blkV pad
  have : (icells (xs.take 64)).length = min xs.length 64 := by rw [icells_length, List.length_take]; omega
  rw [this]
  have e : 2 + min xs.length 64 = min xs.length 64 + 1 + 1 := by omega
  rw [e, List.drop_succ_cons, List.drop_succ_cons, List.drop_replicate]
  unfold icells
  rw [List.map_append, List.map_replicate]
  rfl

/-- The memory behind the first two statements. -/
noncomputable def fbW (w : World) (n : Int) (v : Value) (l : Nat) : World :=
  ((((w.alloc (Obj.cells #[Value.int IntKind.i64 n, v] 26)).alloc (Obj.cells Tryz.zeroCells85 85)).alloc (Obj.cells Tryz.zeroCells85 85)).setRow (w.heap.size + 1 + 1) (blk0 n l).toArray)
theorem fb_last (w : World) (n : Int) (v : Value) : (((w.alloc (Obj.cells #[Value.int IntKind.i64 n, v] 26)).alloc (Obj.cells Tryz.zeroCells85 85)).alloc (Obj.cells Tryz.zeroCells85 85)).heap[w.heap.size + 1 + 1]? = some (Obj.cells Tryz.zeroCells85 85) := by
  rw [show w.heap.size + 1 + 1 = ((w.alloc (Obj.cells #[Value.int IntKind.i64 n, v] 26)).alloc (Obj.cells Tryz.zeroCells85 85)).heap.size by simp]
  exact heap_alloc_last _ _
theorem fb_g (w : World) (n : Int) (v : Value) (l : Nat) : (fbW w n v l).heap[w.heap.size + 1 + 1]? = some (.cells (blk0 n l).toArray 85 (0, 0)) :=
  setRow_heap _ _ _ _ _ _ (fb_last w n v)
theorem fb_below (w : World) (n : Int) (v : Value) (l : Nat) : Below w.heap.size w (fbW w n v l) :=
  below_setRow ((((Below.refl _ _).alloc (by simp) _).alloc (by simp) _).alloc (by simp; omega) _) (by omega) _
theorem fb_r (w : World) (n : Int) (v : Value) (l : Nat) : (fbW w n v l).heap[w.heap.size + 1]? = some (.cells Tryz.zeroCells85 85 (0, 0)) := by
  unfold fbW
  rw [setRow_other _ _ _ _ (by omega), heap_alloc_old _ _ (by simp)]
  rw [show w.heap.size + 1 = (w.alloc (Obj.cells #[Value.int IntKind.i64 n, v] 26)).heap.size by simp]
  exact heap_alloc_last _ _
theorem fb_c (w : World) (n : Int) (v : Value) (l : Nat) : (fbW w n v l).heap[w.heap.size]? = some (.cells #[Value.int IntKind.i64 n, v] 26 (0, 0)) := by
  unfold fbW
  rw [setRow_other _ _ _ _ (by omega), heap_alloc_old _ _ (by simp; omega), heap_alloc_old _ _ (by simp)]
  exact heap_alloc_last _ _
theorem fb_size (w : World) (n : Int) (v : Value) (l : Nat) : (fbW w n v l).heap.size = w.heap.size + 1 + 1 + 1 := by
  unfold fbW; simp [World.setRow]

set_option maxRecDepth 100000 in
set_option maxHeartbeats 4000000 in
theorem firstBlock_any (n : Int) (a : Option Addr) (c : Nat) (xs : List Int) (hlen : xs.length ≤ 1099511627776) (w : World) (h : Ints w a xs) :
    Calls Tryz.prog 79 #[cx n (.slice a xs.length c)] w fun e w' => e = .returned (.agg (blkV n xs).toArray) ∧ Below w.heap.size w w' := by
  have H := Lib.hid h
  clear h
  have hL := fb_last w n (.slice a xs.length c)
  have HL := Lib.hid hL
  clear hL
  go_enter Tryz.func79, Tryz.ntmps79
  go_wp2_with fail
  rw [blk0_set]
  rw [run_storeCells_from (w.heap.size + 1 + 1) 85 (blk0 n xs.length) 0 Tryz.zeroCells85 _ HL.out (by first | rfl | simp) (by intro v hv; simp [blk0] at hv; rcases hv with rfl | rfl | rfl <;> rfl)]
  go_wp2_with fail
  generalize hw1 : World.setRow _ _ _ = w1
  have HW : Hid (fbW w n (.slice a xs.length c) xs.length = w1) := hw1
  clear hw1 HL
  have hb1 : Below w.heap.size w w1 := HW.out ▸ fb_below _ _ _ _
  have hg1 : w1.heap[w.heap.size + 1 + 1]? = some (.cells (blk0 n xs.length).toArray 85 (0, 0)) := HW.out ▸ fb_g _ _ _ _
  have hr1 : w1.heap[w.heap.size + 1]? = some (.cells Tryz.zeroCells85 85 (0, 0)) := HW.out ▸ fb_r _ _ _ _
  have hc1 : w1.heap[w.heap.size]? = some (.cells #[Value.int IntKind.i64 n, .slice a xs.length c] 26 (0, 0)) := HW.out ▸ fb_c _ _ _ _
  have hc10 : w1.cell? ⟨w.heap.size, 0, none⟩ = some (Value.int IntKind.i64 n) := by simp [World.cell?, hc1]
  have hc11 : w1.cell? ⟨w.heap.size, 1, none⟩ = some (.slice a xs.length c) := by simp [World.cell?, hc1]
  have HB := Lib.hid hb1
  have HG := Lib.hid hg1
  have HR := Lib.hid hr1
  have HX := Lib.hid (H.out.keeps hb1)
  clear HW hb1 hg1 hr1 hc1 H
  have hcl : (icells (xs.take 64)).length = Nat.min xs.length 64 := by rw [icells_length, List.length_take, Nat.min_comm]
  have hfit : 2 + (icells (xs.take 64)).length ≤ (blk0 n xs.length).length := by
    rw [blk0_len, icells_length, List.length_take]; omega
  have h1c : ∀ v ∈ icells (xs.take 64), v.oneCell' = true := by
    intro v hv; obtain ⟨x, _, rfl⟩ := List.mem_map.1 hv; rfl
  have hcs : 0 < (icells (xs.take 64)).length → (some ⟨w.heap.size + 1 + 1, 2, none⟩ : Option Addr) = some ⟨w.heap.size + 1 + 1, 2, none⟩ ∧ ∃ ad, a = some ad ∧ ∀ (j : Nat) v, (icells (xs.take 64))[j]? = some v → w1.drew.cell? (ad.add j) = some v := by
    intro hp
    have hx0 : 0 < xs.length := by rw [icells_length, List.length_take] at hp; omega
    obtain ⟨g, o, rfl, _⟩ := HX.out 0 hx0
    refine ⟨rfl, _, rfl, fun j v hv => ?_⟩
    have hj : j < (icells (xs.take 64)).length := (List.getElem?_eq_some_iff.1 hv).1
    rw [icells_length, List.length_take] at hj
    obtain ⟨g', o', he, hcc⟩ := HX.out j (by omega)
    cases he
    rw [icells_at _ j (by rw [List.length_take]; omega)] at hv
    cases hv
    have e1 : (⟨g, o, none⟩ : Addr).add j = ⟨g, o + j, none⟩ := by unfold Addr.add; split <;> simp_all
    rw [e1, show (xs.take 64).getD j 0 = xs.getD j 0 by simp [List.getD, show j < 64 by omega]]
    exact hcc
  have HCL := Lib.hid hcl
  have HF := Lib.hid hfit
  have H1 := Lib.hid h1c
  have HC := Lib.hid hcs
  clear hcl hfit h1c hcs
  go_region_law (refine step_copy_splice rfl (.tmp 11) (.tmp 13) 24 24 rfl 3 (by kernel_rfl) (by kernel_rfl) _ _ _ _ _ _ rfl rfl (w.heap.size + 1 + 1) 2 (blk0 n xs.length) 85 HG.out (icells (xs.take 64)) HCL.out HC.out HF.out H1.out (w.heap.size + 1 + 1) w1 (Below.refl _ _).drew (Nat.le_refl _) ?_; intro w2 hg2 hb2)
  rw [splice_blk] at hg2
  have hr2 : w2.heap[w.heap.size + 1]? = some (.cells Tryz.zeroCells85 85 (0, 0)) := by
    rw [hb2.block _ (by omega)]; exact HR.out
  have hb3 := HB.out.trans (hb2.mono (by omega))
  have HB3 := Lib.hid hb3
  have HR2 := Lib.hid hr2
  clear hb3 hr2 hb2 hc10 hc11 HB HG HR HX HCL HF H1 HC
  have hlb : (blkV n xs).toArray.size = 66 := by rw [List.size_toArray, blkV_len]
  have hs2 : (Tryz.prog.info? 85).map (·.size) = some (blkV n xs).toArray.size := by
    rw [hlb]; kernel_rfl
  have hz : Tryz.zeroCells85.size = (blkV n xs).toArray.size := by
    rw [hlb]; exact zero51_size
  have ho : (blkV n xs).toArray.all (·.oneCell') = true := by
    rw [← Array.all_toList, List.all_eq_true]; exact blkV_one n xs
  have HS2 := Lib.hid hs2
  have HZ := Lib.hid hz
  have HO := Lib.hid ho
  clear hlb hs2 hz ho
  go_wp2_with (first | (refine wpList_load_row (o := ⟨some 15, _, _, _, _, _⟩) rfl 85 (.tmp 3) rfl (w.heap.size + 1 + 1) rfl _ _ _ _ hg2.out (Tryz.underlying85) rfl HS2.out ?_) | (refine wpList_store_row (o := ⟨none, .store _ (.tmp 2) (.tmp 15), _, _, _, _⟩) rfl 85 (.tmp 2) (.tmp 15) rfl (w.heap.size + 1) (blkV n xs).toArray rfl rfl _ _ HR2.out HS2.out HZ.out HO.out ?_))
  have hr4 := setRow_heap w2 (w.heap.size + 1) _ (blkV n xs).toArray _ _ HR2.out
  have hb4 := below_setRow HB3.out (g := w.heap.size + 1) (by omega) (blkV n xs).toArray
  refine bodyPost_ret (v := .agg (blkV n xs).toArray) ?_ ?_ ?_
  · exact results_cell_row rfl _ _ (w.heap.size + 1) _ _ _ _ rfl hr4 (Tryz.underlying85) rfl HS2.out
  · rfl
  · exact ⟨rfl, hb4⟩

theorem part_blk (n : Int) (xs : List Int) (w : World) : (part 83 (blkV n xs).toArray 2).run Tryz.prog w = .ok (.agg (icells (pad xs)).toArray) w := by
  have h : List.take 64 (List.drop 2 (blkV n xs)) = icells (pad xs) := by
    show List.take 64 (icells (pad xs)) = icells (pad xs)
    exact List.take_of_length_le (by rw [icells_length, pad_len]; exact Nat.le_refl _)
  have hu : Tryz.prog.underlying 83 = some (.array 64 3) := by kernel_rfl
  simp [part, isAgg, run_underlying hu, h]

theorem blk_struct : Tryz.prog.underlying 85 = some (.struct (Tryz.prog.fieldsOf 85)) := by kernel_rfl
theorem blk_stood : Tryz.prog.stoodInHeld 85 = false := by kernel_rfl
theorem blk_fields : (Tryz.prog.fieldsOf 85).toList.map (fun f => (f.name, f.type, f.offset)) = [("points", 3, 0), ("count", 3, 1), ("facets", 83, 2)] := by kernel_rfl
theorem int_under : Tryz.prog.underlying 3 = some (.int .i64) := by kernel_rfl
theorem arr_under : Tryz.prog.underlying 83 = some (.array 64 3) := by kernel_rfl
theorem int_size (w : World) : (sizeOf 3).run Tryz.prog w = .ok 1 w := by
  have hi : (Tryz.prog.info? 3).map (·.size) = some 1 := by kernel_rfl
  cases hq : Tryz.prog.info? 3 with
  | none => rw [hq] at hi; cases hi
  | some i =>
    rw [hq] at hi
    have : i.size = 1 := by simpa using hi
    simp [sizeOf, typeInfo, hq, this]
theorem blk_p0 (n : Int) (xs : List Int) (w : World) : (part 3 (blkV n xs).toArray 0).run Tryz.prog w = .ok (.int .i64 n) w := by simp [part, isAgg, run_underlying int_under, blkV]
theorem blk_p1 (n : Int) (xs : List Int) (w : World) : (part 3 (blkV n xs).toArray 1).run Tryz.prog w = .ok (.int .i64 (xs.length : Int)) w := by simp [part, isAgg, run_underlying int_under, blkV]
theorem eqInt_run (d : Nat) (x y : Int) (w : World) : (Op.equalIn (d + 1) 3 (.int .i64 x) (.int .i64 y)).run Tryz.prog w = .ok (x == y) w := run_equalIn_int w d _ .i64 .i64 _ _ int_under
theorem eqArr_run (d : Nat) (xs ys : List Int) (w : World) : (Op.equalIn (d + 1 + 1) 83 (.agg (icells (pad xs)).toArray) (.agg (icells (pad ys)).toArray)).run Tryz.prog w = .ok (pad xs == pad ys) w :=
  equalIn_ints (P := Tryz.prog) w d 83 3 64 arr_under int_under int_size (pad xs) (pad ys) (pad_len _) (pad_len _)

/-- Blocks are equal. -/
def eqBlk (n m : Int) (xs ys : List Int) : Bool := n == m && ((xs.length : Int) == (ys.length : Int) && pad xs == pad ys)

theorem beq_blk (d : Nat) (n m : Int) (xs ys : List Int) (w : World) : (Op.equalIn (d + 1 + 1 + 1) 85 (.agg (blkV n xs).toArray) (.agg (blkV m ys).toArray)).run Tryz.prog w = .ok (eqBlk n m xs ys) w := by
  rw [run_equalIn_struct w (d + 1 + 1) _ _ _ blk_struct blk_stood]
  have hf := blk_fields
  generalize (Tryz.prog.fieldsOf 85).toList = fs at hf
  obtain ⟨f0, fs1, rfl, h0, hf1⟩ := List.map_eq_cons_iff.1 hf
  obtain ⟨f1, fs2, rfl, h1, hf2⟩ := List.map_eq_cons_iff.1 hf1
  obtain ⟨f2, fs3, rfl, h2, hf3⟩ := List.map_eq_cons_iff.1 hf2
  obtain rfl := List.map_eq_nil_iff.1 hf3
  simp only [Prod.mk.injEq] at h0 h1 h2
  obtain ⟨⟨n0, t0, o0⟩, ⟨n1, t1, o1⟩, n2, t2, o2⟩ := And.intro h0 (And.intro h1 h2)
  clear hf hf1 hf2 h0 h1 h2
  unfold eqBlk
  simp only [Op.eqFields, n0, n1, n2, t0, t1, t2, o0, o1, o2]
  simp only [ne_eq, show ¬ ("points" : String) = "_" by decide, show ¬ ("count" : String) = "_" by decide, show ¬ ("facets" : String) = "_" by decide, not_false_eq_true, if_true, Sem.run_bind, blk_p0, eqInt_run, Result.andThen_ok]
  cases hnm : n == m
  · simp
  cases hl : (xs.length : Int) == (ys.length : Int)
  · simp only [Bool.not_true, Bool.false_eq_true, if_false, Sem.run_bind, blk_p1, eqInt_run, Result.andThen_ok, hl, Bool.not_false, if_true, Sem.run_pure, Bool.false_and, Bool.and_false]
  cases hpq : pad xs == pad ys
  · simp only [Bool.not_true, Bool.false_eq_true, if_false, Sem.run_bind, blk_p1, part_blk, eqInt_run, eqArr_run, Result.andThen_ok, hl, hpq, Bool.not_false, if_true, Sem.run_pure, Bool.and_false]
  · simp only [Bool.not_true, Bool.false_eq_true, if_false, Sem.run_bind, blk_p1, part_blk, eqInt_run, eqArr_run, Result.andThen_ok, hl, hpq, Sem.run_pure, Bool.and_true]

end Go.Proofs.YtbkkdgmiokdbmaaGreat

/-! WALKS: impl.EqualComplex. -/

namespace Go.Proofs.YtbkkdgmiokdbmaaGreat
open Go.RowKit
open Sets

/-- EqualComplex. -/
def eqC (n m : Int) (xs ys : List Int) : Bool := n == m && xs == ys

theorem eqBlk_no {n m : Int} {xs ys : List Int} (h : eqBlk n m xs ys = false) : eqC n m xs ys = false := by
  rw [Bool.eq_false_iff]; intro e
  unfold eqC at e
  rw [Bool.and_eq_true, beq_iff_eq, beq_iff_eq] at e
  obtain ⟨rfl, rfl⟩ := e
  unfold eqBlk at h
  simp at h
theorem eqBlk_yes {n m : Int} {xs ys : List Int} (h : eqBlk n m xs ys = true) : n = m ∧ xs.length = ys.length ∧ pad xs = pad ys := by
  unfold eqBlk at h
  rw [Bool.and_eq_true, Bool.and_eq_true, beq_iff_eq, beq_iff_eq, beq_iff_eq] at h
  exact ⟨h.1, by omega, h.2.2⟩
theorem eqBlk_take {n m : Int} {xs ys : List Int} (h : eqBlk n m xs ys = true) : xs.take 64 = ys.take 64 := by
  obtain ⟨_, hl, hp⟩ := eqBlk_yes h
  unfold pad at hp
  exact (List.append_inj hp (by simp [hl])).1
theorem eqBlk_end {n m : Int} {xs ys : List Int} (h : eqBlk n m xs ys = true) (hs : xs.length ≤ 64) : eqC n m xs ys = true := by
  obtain ⟨rfl, hl, _⟩ := eqBlk_yes h
  have ht := eqBlk_take h
  rw [List.take_of_length_le hs, List.take_of_length_le (by omega)] at ht
  subst ht
  simp [eqC]
theorem eqBlk_step {n m : Int} {xs ys : List Int} (h : eqBlk n m xs ys = true) : eqC n m (xs.drop 64) (ys.drop 64) = eqC n m xs ys := by
  have ht := eqBlk_take h
  unfold eqC
  congr 1
  rw [Bool.eq_iff_iff, beq_iff_eq, beq_iff_eq]
  constructor
  · intro e
    rw [← List.take_append_drop 64 xs, ← List.take_append_drop 64 ys, ht, e]
  · intro e; rw [e]

theorem Ints.drop {w : World} {b o : Nat} {xs : List Int} (h : Ints w (some ⟨b, o, none⟩) xs) (k : Nat) : Ints w (some ⟨b, o + k, none⟩) (xs.drop k) := fun j hj => by
  rw [List.length_drop] at hj
  obtain ⟨b', o', e, hc⟩ := h (k + j) (by omega)
  cases e
  refine ⟨b, o + k, rfl, ?_⟩
  rw [show o + k + j = o + (k + j) by omega, hc]
  simp [List.getD]
theorem Two.set1o {w : World} {b b' : Nat} {x y : Value} (h : Two w b x y) (hne : b ≠ b') (z : Value) : Two (w.setCell ⟨b', 1, none⟩ z) b x y := by
  obtain ⟨h1, h2, h3, h4, h5⟩ := h
  refine ⟨by simp [World.setCell]; exact h1, ?_, ?_, by rw [World.frozen?_setCell]; exact h4, by rw [World.frozen?_setCell]; exact h5⟩
  · rw [World.cell?_setCell_other _ _ _ _ (by simp)]; exact h2
  · rw [World.cell?_setCell_other _ _ _ _ (by simp)]; exact h3

/-- The length that lies in a box. -/
def lenBox (w : World) (b : Nat) : Nat := match w.cell? ⟨b, 1, none⟩ with | some (.slice _ n _) => n | _ => 0
theorem Two.len {w : World} {b : Nat} {x : Value} {a : Option Addr} {l c : Nat} (h : Two w b x (.slice a l c)) : lenBox w b = l := by
  unfold lenBox; rw [h.2.2.1]

theorem eql_blk (n m : Int) (xs ys : List Int) (w : World) : (binOp .eql 85 (.agg (blkV n xs).toArray) (.agg (blkV m ys).toArray)).run Tryz.prog w = .ok (.bool (eqBlk n m xs ys)) w := by
  rw [run_eql_struct, beq_blk 9997 n m xs ys w]; rfl

attribute [local go_sem ↓] eql_blk

set_option maxRecDepth 100000 in
set_option maxHeartbeats 4000000 in
theorem implEqual_any (n m : Int) (pa pb : Option Addr) (ca cb : Nat) (xs ys : List Int) (hlx : xs.length ≤ 1099511627776) (hly : ys.length ≤ 1099511627776) (hcx : xs.length ≤ ca) (hcy : ys.length ≤ cb) (w : World) (hx : Ints w pa xs) (hy : Ints w pb ys) :
    Calls Tryz.prog 55 #[cx n (.slice pa xs.length ca), cx m (.slice pb ys.length cb)] w fun e w' => e = .returned (.bool (eqC n m xs ys)) ∧ Below w.heap.size w w' := by
  have T0 := (Two.new w (.int .i64 n) (.slice pa xs.length ca) 26).alloc (.cells #[.int .i64 m, .slice pb ys.length cb] 26)
  have T1 := Two.new (w.alloc (.cells #[.int .i64 n, .slice pa xs.length ca] 26)) (.int .i64 m) (.slice pb ys.length cb) 26
  have hB : Below w.heap.size w ((w.alloc (.cells #[.int .i64 n, .slice pa xs.length ca] 26)).alloc (.cells #[.int .i64 m, .slice pb ys.length cb] 26)) := ((Below.refl _ _).alloc (by simp) _).alloc (by simp) _
  rw [World.size_alloc] at T1
  have HT0 := Lib.hid T0
  have HT1 := Lib.hid T1
  have HB := Lib.hid hB
  have HX := Lib.hid hx
  have HY := Lib.hid hy
  obtain ⟨r, hr⟩ : ∃ r, eqC n m xs ys = r := ⟨_, rfl⟩
  rw [hr]
  have HR := Lib.hid hr
  clear T0 T1 hB hx hy hr
  go_enter Tryz.func55, Tryz.ntmps55
  go_wp2_with fail
  go_loopw [] (fun wr => ∃ (qa qb : Option Addr) (da db : Nat) (us vs : List Int), us.length ≤ 1099511627776 ∧ vs.length ≤ 1099511627776 ∧ us.length ≤ da ∧ vs.length ≤ db ∧ Ints w qa us ∧ Ints w qb vs ∧
      Two wr w.heap.size (.int .i64 n) (.slice qa us.length da) ∧ Two wr (w.heap.size + 1) (.int .i64 m) (.slice qb vs.length db) ∧ Below w.heap.size w wr ∧ eqC n m us vs = r) (fun wr => lenBox wr w.heap.size)
  case atStart => exact ⟨pa, pb, ca, cb, xs, ys, hlx, hly, hcx, hcy, HX.out, HY.out, HT0.out, HT1.out, HB.out, HR.out⟩
  case round =>
    clear HT0 HT1 HB HX HY HR hlx hly hcx hcy
    obtain ⟨qa, qb, da, db, us, vs, hlu, hlv, hcu, hcv, hu, hv, ta, tb, hb, hr⟩ := hrel
    have HU := Lib.hid (hu.keeps hb)
    have HV := Lib.hid (hv.keeps hb)
    have HU0 := Lib.hid hu
    have HV0 := Lib.hid hv
    have TA := Lib.hid ta
    have TB := Lib.hid tb
    have HB := Lib.hid hb
    have HR := Lib.hid hr
    have hz := hb.size
    clear hu hv ta tb hb hr
    obtain ⟨ta1, ta2, ta3, ta4, ta5⟩ := TA.out
    obtain ⟨tb1, tb2, tb3, tb4, tb5⟩ := TB.out
    cases hq : eqBlk n m us vs with
    | false =>
      go_wp2_with fail
      go_region_held3 (fun w' => w'.cell? ⟨w.heap.size, 0, none⟩ = some (.int .i64 n) ∧ w'.cell? ⟨w.heap.size, 1, none⟩ = some (.slice qa us.length da) ∧ w'.cell? ⟨w.heap.size + 1, 0, none⟩ = some (.int .i64 m) ∧ w'.cell? ⟨w.heap.size + 1, 1, none⟩ = some (.slice qb vs.length db) ∧ Below wr.heap.size wr w') (first | (exact ⟨TA.out.drew.2.1, TA.out.drew.2.2.1, TB.out.drew.2.1, TB.out.drew.2.2.1, bdrew1 _⟩) | (exact ⟨(TA.out.keeps (below_fresh hbA)).2.1, (TA.out.keeps (below_fresh hbA)).2.2.1, (TB.out.keeps (below_fresh hbA)).2.1, (TB.out.keeps (below_fresh hbA)).2.2.1, below_fresh hbA⟩) | (exact ⟨((TA.out.keeps (below_fresh hbA)).keeps hbB).2.1, ((TA.out.keeps (below_fresh hbA)).keeps hbB).2.2.1, ((TB.out.keeps (below_fresh hbA)).keeps hbB).2.1, ((TB.out.keeps (below_fresh hbA)).keeps hbB).2.2.1, (below_fresh hbA).trans (hbB.mono (below_fresh hbA).size)⟩)) (first | (go_at_call 79; with_reducible refine (firstBlock_any n _ _ us hlu _ (Ints.drew HU.out)).mono ?_; rintro e wA ⟨rfl, hbA⟩) | (go_at_call 79; with_reducible refine (firstBlock_any m _ _ vs hlv _ (HV.out.keeps (below_fresh hbA))).mono ?_; rintro e wB ⟨rfl, hbB⟩))
      have hW : Below wr.heap.size wr wB := (below_fresh hbA).trans (hbB.mono (below_fresh hbA).size)
      go_wp2_with fail
      obtain rfl : false = r := by rw [← HR.out]; exact (eqBlk_no hq).symm
      go_ret
      exact ⟨rfl, HB.out.trans (hW.mono hz)⟩
    | true =>
      have hle : us.length = vs.length := (eqBlk_yes hq).2.1
      have hle1 : us.length ≤ vs.length := by omega
      have hle2 : vs.length ≤ us.length := by omega
      have HE := Lib.hid hq
      clear hle
      by_cases hs : us.length ≤ 64
      · go_wp2_with fail
        go_region_held3 (fun w' => w'.cell? ⟨w.heap.size, 0, none⟩ = some (.int .i64 n) ∧ w'.cell? ⟨w.heap.size, 1, none⟩ = some (.slice qa us.length da) ∧ w'.cell? ⟨w.heap.size + 1, 0, none⟩ = some (.int .i64 m) ∧ w'.cell? ⟨w.heap.size + 1, 1, none⟩ = some (.slice qb vs.length db) ∧ Below wr.heap.size wr w') (first | (exact ⟨TA.out.drew.2.1, TA.out.drew.2.2.1, TB.out.drew.2.1, TB.out.drew.2.2.1, bdrew1 _⟩) | (exact ⟨(TA.out.keeps (below_fresh hbA)).2.1, (TA.out.keeps (below_fresh hbA)).2.2.1, (TB.out.keeps (below_fresh hbA)).2.1, (TB.out.keeps (below_fresh hbA)).2.2.1, below_fresh hbA⟩) | (exact ⟨((TA.out.keeps (below_fresh hbA)).keeps hbB).2.1, ((TA.out.keeps (below_fresh hbA)).keeps hbB).2.2.1, ((TB.out.keeps (below_fresh hbA)).keeps hbB).2.1, ((TB.out.keeps (below_fresh hbA)).keeps hbB).2.2.1, (below_fresh hbA).trans (hbB.mono (below_fresh hbA).size)⟩)) (first | (go_at_call 79; with_reducible refine (firstBlock_any n _ _ us hlu _ (Ints.drew HU.out)).mono ?_; rintro e wA ⟨rfl, hbA⟩) | (go_at_call 79; with_reducible refine (firstBlock_any m _ _ vs hlv _ (HV.out.keeps (below_fresh hbA))).mono ?_; rintro e wB ⟨rfl, hbB⟩))
        have hW : Below wr.heap.size wr wB := (below_fresh hbA).trans (hbB.mono (below_fresh hbA).size)
        have TA2 := Lib.hid ((TA.out.keeps (below_fresh hbA)).keeps hbB)
        obtain ⟨sa1, sa2, sa3, sa4, sa5⟩ := TA2.out
        go_wp2_with fail
        obtain rfl : true = r := by rw [← HR.out]; exact (eqBlk_end HE.out hs).symm
        go_ret
        exact ⟨rfl, HB.out.trans (hW.mono hz)⟩
      · go_wp2_with fail
        go_region_held3 (fun w' => w'.cell? ⟨w.heap.size, 0, none⟩ = some (.int .i64 n) ∧ w'.cell? ⟨w.heap.size, 1, none⟩ = some (.slice qa us.length da) ∧ w'.cell? ⟨w.heap.size + 1, 0, none⟩ = some (.int .i64 m) ∧ w'.cell? ⟨w.heap.size + 1, 1, none⟩ = some (.slice qb vs.length db) ∧ Below wr.heap.size wr w') (first | (exact ⟨TA.out.drew.2.1, TA.out.drew.2.2.1, TB.out.drew.2.1, TB.out.drew.2.2.1, bdrew1 _⟩) | (exact ⟨(TA.out.keeps (below_fresh hbA)).2.1, (TA.out.keeps (below_fresh hbA)).2.2.1, (TB.out.keeps (below_fresh hbA)).2.1, (TB.out.keeps (below_fresh hbA)).2.2.1, below_fresh hbA⟩) | (exact ⟨((TA.out.keeps (below_fresh hbA)).keeps hbB).2.1, ((TA.out.keeps (below_fresh hbA)).keeps hbB).2.2.1, ((TB.out.keeps (below_fresh hbA)).keeps hbB).2.1, ((TB.out.keeps (below_fresh hbA)).keeps hbB).2.2.1, (below_fresh hbA).trans (hbB.mono (below_fresh hbA).size)⟩)) (first | (go_at_call 79; with_reducible refine (firstBlock_any n _ _ us hlu _ (Ints.drew HU.out)).mono ?_; rintro e wA ⟨rfl, hbA⟩) | (go_at_call 79; with_reducible refine (firstBlock_any m _ _ vs hlv _ (HV.out.keeps (below_fresh hbA))).mono ?_; rintro e wB ⟨rfl, hbB⟩))
        have hW : Below wr.heap.size wr wB := (below_fresh hbA).trans (hbB.mono (below_fresh hbA).size)
        have TA2 := Lib.hid ((TA.out.keeps (below_fresh hbA)).keeps hbB)
        obtain ⟨sa1, sa2, sa3, sa4, sa5⟩ := TA2.out
        have TB2 := Lib.hid ((TB.out.keeps (below_fresh hbA)).keeps hbB)
        obtain ⟨sb1, sb2, sb3, sb4, sb5⟩ := TB2.out
        clear ta1 ta2 ta3 ta4 ta5 tb1 tb2 tb3 tb4 tb5 hq
        go_wp2_with fail
        obtain ⟨ga, oa, rfl, _⟩ := HU.out 0 (by omega)
        obtain ⟨gb, ob, rfl, _⟩ := HV.out 0 (by omega)
        have hda : 64 < da := by omega
        have hdb : 64 < db := by omega
        have hua : 64 ≤ us.length := by omega
        have hvb : 64 ≤ vs.length := by omega
        go_region
        have eu : us.length - 64 = (us.drop 64).length := by rw [List.length_drop]
        have ev : vs.length - 64 = (vs.drop 64).length := by rw [List.length_drop]
        have TA3 := ((TA2.out.set1 (.slice (some ⟨ga, oa + 64, none⟩) (us.length - 64) (da - 64))).set1o (b' := w.heap.size + 1) (by omega) (.slice (some ⟨gb, ob + 64, none⟩) (vs.length - 64) (db - 64)))
        have TB3 := ((TB2.out.set1o (b' := w.heap.size) (by omega) (.slice (some ⟨ga, oa + 64, none⟩) (us.length - 64) (da - 64))).set1 (.slice (some ⟨gb, ob + 64, none⟩) (vs.length - 64) (db - 64)))
        have hB3 := ((HB.out.trans (hW.mono hz)).setCell (p := ⟨w.heap.size, 1, none⟩) (by simp) (.slice (some ⟨ga, oa + 64, none⟩) (us.length - 64) (da - 64))).setCell (p := ⟨w.heap.size + 1, 1, none⟩) (by simp) (.slice (some ⟨gb, ob + 64, none⟩) (vs.length - 64) (db - 64))
        have HA3 := Lib.hid TA3
        have HC3 := Lib.hid TB3
        have HB3 := Lib.hid hB3
        have EU := Lib.hid eu
        have EV := Lib.hid ev
        have hlen0 : lenBox wr w.heap.size = us.length := TA.out.len
        have hlen1 := TA3.len
        have L0 := Lib.hid hlen0
        have L1 := Lib.hid hlen1
        clear TA3 TB3 hB3 eu ev hlen0 hlen1 sa1 sa2 sa3 sa4 sa5 sb1 sb2 sb3 sb4 sb5
        go_wp2_with fail
        go_roundw
        case rel =>
          refine ⟨some ⟨ga, oa + 64, none⟩, some ⟨gb, ob + 64, none⟩, da - 64, db - 64, us.drop 64, vs.drop 64, by rw [← EU.out]; omega, by rw [← EV.out]; omega, by rw [← EU.out]; omega, by rw [← EV.out]; omega, HU0.out.drop 64, HV0.out.drop 64, ?_, ?_, HB3.out.drew, ?_⟩
          · rw [← EU.out]; exact HA3.out
          · rw [← EV.out]; exact HC3.out
          · rw [eqBlk_step HE.out]; exact HR.out
        case measure =>
          have e2 : lenBox ((wB.setCell ⟨w.heap.size, 1, none⟩ (.slice (some ⟨ga, oa + 64, none⟩) (us.length - 64) (da - 64))).setCell ⟨w.heap.size + 1, 1, none⟩ (.slice (some ⟨gb, ob + 64, none⟩) (vs.length - 64) (db - 64))).drew w.heap.size = us.length - 64 := L1.out
          rw [e2, L0.out]; omega

end Go.Proofs.YtbkkdgmiokdbmaaGreat

/-! WALKS: spec.EqualComplex. -/

namespace Go.Proofs.YtbkkdgmiokdbmaaGreat
open Go.RowKit
open Sets

theorem beq_false_at {xs ys : List Int} (k : Nat) (h : xs.getD k 0 ≠ ys.getD k 0) : (xs == ys) = false := by
  rw [beq_eq_false_iff_ne]; intro e; subst e; exact h rfl
theorem beq_false_len {xs ys : List Int} (h : ¬ xs.length = ys.length) : (xs == ys) = false := by
  rw [beq_eq_false_iff_ne]; intro e; subst e; exact h rfl
theorem take_next {xs ys : List Int} {k : Nat} (hk : k < xs.length) (hl : k < ys.length) (h : xs.take k = ys.take k) (e : xs.getD k 0 = ys.getD k 0) : xs.take (k + 1) = ys.take (k + 1) := by
  rw [List.take_succ_eq_append_getElem hk, List.take_succ_eq_append_getElem hl, h]
  rw [List.getD, List.getElem?_eq_getElem hk, List.getD, List.getElem?_eq_getElem hl] at e
  simp at e
  rw [e]

set_option maxRecDepth 100000 in
set_option maxHeartbeats 1000000 in
theorem l2Same_any (a1 a2 : Option Addr) (c1 c2 : Nat) (xs ys : List Int) (hlx : xs.length ≤ 1099511627776) (hly : ys.length ≤ 1099511627776) (w : World) (h1 : Ints w a1 xs) (h2 : Ints w a2 ys) :
    Calls Tryz.prog 80 #[.slice a1 xs.length c1, .slice a2 ys.length c2] w fun e w' => e = .returned (.bool (xs == ys)) ∧ Below w.heap.size w w' := by
  have H1 := Lib.hid h1
  have H2 := Lib.hid h2
  clear h1 h2
  by_cases hl : xs.length = ys.length
  · have hl1 : xs.length ≤ ys.length := by omega
    have hl2 : ys.length ≤ xs.length := by omega
    have hne : ((xs.length : Int) != (ys.length : Int)) = false := by rw [hl]; simp
    have HL := Lib.hid hl
    clear hl
    go_enter Tryz.func80, Tryz.ntmps80
    go_wp2
    clear hne
    go_loopw [5] (fun i wr => ∃ k n : Nat, k ≤ xs.length ∧ i = .int .i64 k ∧ wr = w.drewN n ∧ xs.take k = ys.take k) (fun i _ => xs.length - (intOf i).toNat)
    case atStart => exact ⟨0, 0, Nat.zero_le _, rfl, rfl, rfl⟩
    case round =>
      obtain ⟨k, n, hk, rfl, rfl, ht⟩ := hrel
      have HT := Lib.hid ht
      clear ht
      by_cases hlt : k < xs.length
      · have hlt2 : k < ys.length := by omega
        obtain ⟨b1, o1, rfl, g1⟩ := H1.out k hlt
        obtain ⟨b2, o2, rfl, g2⟩ := H2.out k hlt2
        obtain ⟨x, hx⟩ : ∃ x, xs.getD k 0 = x := ⟨_, rfl⟩
        obtain ⟨y, hy⟩ : ∃ y, ys.getD k 0 = y := ⟨_, rfl⟩
        rw [hx] at g1
        rw [hy] at g2
        have HX := Lib.hid hx
        have HY := Lib.hid hy
        clear hx hy
        by_cases hxy : x = y
        · subst hxy
          go_wp2
          go_quiet (fail)
          go_wp2
          go_roundw
          case rel => exact ⟨k + 1, n + nq, by omega, by go_num, rfl, take_next hlt hlt2 HT.out (HX.out.trans HY.out.symm)⟩
          case measure => simp [intOf]; omega
        · have hb : (x != y) = true := by simp [hxy]
          have HN := Lib.hid hxy
          clear hxy
          go_wp2
          go_quiet (fail)
          go_wp2
          go_ret
          rw [beq_false_at k (by rw [HX.out, HY.out]; exact HN.out)]
          exact ⟨rfl, (Mem.below_drewN w n).trans ((Mem.below_drewN _ _).mono (by simp))⟩
      · go_wp2
        go_ret
        have : xs = ys := by
          have := HT.out
          rwa [List.take_of_length_le (by omega), List.take_of_length_le (by omega)] at this
        subst this
        rw [beq_self_eq_true]
        exact ⟨rfl, Mem.below_drewN w n⟩
  · have hne : ((xs.length : Int) != (ys.length : Int)) = true := by simp; omega
    rw [beq_false_len hl]
    clear hl
    go_enter Tryz.func80, Tryz.ntmps80
    go_wp2
    go_ret
    exact ⟨rfl, Below.refl _ _⟩

set_option maxRecDepth 100000 in
set_option maxHeartbeats 1000000 in
theorem specEqual_any (n m : Int) (pa pb : Option Addr) (ca cb : Nat) (xs ys : List Int) (hlx : xs.length ≤ 1099511627776) (hly : ys.length ≤ 1099511627776) (w : World) (hx : Ints w pa xs) (hy : Ints w pb ys) :
    Calls Tryz.prog 56 #[cx n (.slice pa xs.length ca), cx m (.slice pb ys.length cb)] w fun e w' => e = .returned (.bool (eqC n m xs ys)) ∧ Below w.heap.size w w' := by
  have hB : Below w.heap.size w ((w.alloc (.cells #[.int .i64 n, .slice pa xs.length ca] 26)).alloc (.cells #[.int .i64 m, .slice pb ys.length cb] 26)) := ((Below.refl _ _).alloc (by simp) _).alloc (by simp) _
  have HX := Lib.hid (hx.keeps hB)
  have HY := Lib.hid (hy.keeps hB)
  have HB := Lib.hid hB
  clear hx hy hB
  by_cases hnm : n = m
  · subst hnm
    unfold eqC
    rw [beq_self_eq_true, Bool.true_and]
    obtain ⟨r, hr⟩ : ∃ r, (xs == ys) = r := ⟨_, rfl⟩
    have hc := fun w h1 h2 => l2Same_any pa pb ca cb xs ys hlx hly w h1 h2
    rw [hr] at hc ⊢
    have HC := Lib.hid hc
    clear hc hr
    go_enter Tryz.func56, Tryz.ntmps56
    go_wp2_with fail
    refine (HC.out _ HX.out HY.out).mono ?_
    rintro e w1 ⟨rfl, hb1⟩
    go_wp2
    go_ret
    exact ⟨rfl, HB.out.trans (hb1.mono (by simp; omega))⟩
  · have hne : (n == m) = false := by simp [hnm]
    unfold eqC
    rw [hne, Bool.false_and]
    clear hnm
    go_enter Tryz.func56, Tryz.ntmps56
    go_wp2_with fail
    go_ret
    exact ⟨rfl, HB.out⟩

end Go.Proofs.YtbkkdgmiokdbmaaGreat
