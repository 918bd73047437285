/-
  WALKS: impl.firstBlock, and its blocks compared.
-/
import Derived.Test.YtggpgannmmjcbaaWSz
import Derived.Test.YtggpgannmmjcbaaArrEq
import Derived.Laws.CopyOwn
import Derived.Deep.RegionLaw
import Derived.Deep.WholeRow
namespace Go.Proofs.Ytggpgannmmjcbaa
open Go.RowKit
open Sets

/-- The first 64 numbers, filled up by 0. -/
def pad (xs : List Int) : List Int := xs.take 64 ++ List.replicate (64 - min xs.length 64) 0
theorem pad_len (xs : List Int) : (pad xs).length = 64 := by simp [pad]; omega
/-- The cells of the block of facets. -/
def blkV (n : Int) (xs : List Int) : List Value := Value.int .i64 n :: Value.int .i64 (xs.length : Int) :: icells (pad xs)
theorem blkV_len (n : Int) (xs : List Int) : (blkV n xs).length = 66 := by
  unfold blkV; rw [List.length_cons, List.length_cons, icells_length, pad_len]
theorem blkV_one (n : Int) (xs : List Int) : ∀ v ∈ blkV n xs, v.oneCell' = true := by
  intro v hv
  unfold blkV icells at hv
  rcases List.mem_cons.1 hv with rfl | hv
  · rfl
  rcases List.mem_cons.1 hv with rfl | hv
  · rfl
  obtain ⟨x, _, rfl⟩ := List.mem_map.1 hv
  rfl
def blk0 (n : Int) (l : Nat) : List Value := Value.int .i64 n :: Value.int .i64 (l : Int) :: List.replicate 64 (Value.int .i64 0)
theorem blk0_len (n : Int) (l : Nat) : (blk0 n l).length = 66 := rfl
theorem zero51 : Try.zeroCells51.toList = List.replicate 66 (Value.int .i64 0) := by kernel_rfl
theorem zero51_size : Try.zeroCells51.size = 66 := by kernel_rfl
theorem blk0_set (n : Int) (l : Nat) : (Try.zeroCells51.toList.set 0 (Value.int .i64 n)).set 1 (Value.int .i64 (l : Int)) = blk0 n l := by
  rw [zero51]; rfl
theorem splice_blk (n : Int) (xs : List Int) : splice (blk0 n xs.length) 2 (icells (xs.take 64)) = blkV n xs := by
  unfold splice blk0 blkV pad
  have : (icells (xs.take 64)).length = min xs.length 64 := by rw [icells_length, List.length_take]; omega
  rw [this]
  have e : 2 + min xs.length 64 = min xs.length 64 + 1 + 1 := by omega
  rw [e, List.drop_succ_cons, List.drop_succ_cons, List.drop_replicate]
  unfold icells
  rw [List.map_append, List.map_replicate]
  rfl

/-- The memory behind the first two statements. -/
noncomputable def fbW (w : World) (n : Int) (v : Value) (l : Nat) : World :=
  ((((w.alloc (Obj.cells #[Value.int IntKind.i64 n, v] 27)).alloc (Obj.cells Try.zeroCells51 51)).alloc (Obj.cells Try.zeroCells51 51)).setRow (w.heap.size + 1 + 1) (blk0 n l).toArray)
theorem fb_last (w : World) (n : Int) (v : Value) : (((w.alloc (Obj.cells #[Value.int IntKind.i64 n, v] 27)).alloc (Obj.cells Try.zeroCells51 51)).alloc (Obj.cells Try.zeroCells51 51)).heap[w.heap.size + 1 + 1]? = some (Obj.cells Try.zeroCells51 51) := by
  rw [show w.heap.size + 1 + 1 = ((w.alloc (Obj.cells #[Value.int IntKind.i64 n, v] 27)).alloc (Obj.cells Try.zeroCells51 51)).heap.size by simp]
  exact heap_alloc_last _ _
theorem fb_g (w : World) (n : Int) (v : Value) (l : Nat) : (fbW w n v l).heap[w.heap.size + 1 + 1]? = some (.cells (blk0 n l).toArray 51 (0, 0)) :=
  setRow_heap _ _ _ _ _ _ (fb_last w n v)
theorem fb_below (w : World) (n : Int) (v : Value) (l : Nat) : Below w.heap.size w (fbW w n v l) :=
  below_setRow ((((Below.refl _ _).alloc (by simp) _).alloc (by simp) _).alloc (by simp; omega) _) (by omega) _
theorem fb_r (w : World) (n : Int) (v : Value) (l : Nat) : (fbW w n v l).heap[w.heap.size + 1]? = some (.cells Try.zeroCells51 51 (0, 0)) := by
  unfold fbW
  rw [setRow_other _ _ _ _ (by omega), heap_alloc_old _ _ (by simp)]
  rw [show w.heap.size + 1 = (w.alloc (Obj.cells #[Value.int IntKind.i64 n, v] 27)).heap.size by simp]
  exact heap_alloc_last _ _
theorem fb_c (w : World) (n : Int) (v : Value) (l : Nat) : (fbW w n v l).heap[w.heap.size]? = some (.cells #[Value.int IntKind.i64 n, v] 27 (0, 0)) := by
  unfold fbW
  rw [setRow_other _ _ _ _ (by omega), heap_alloc_old _ _ (by simp; omega), heap_alloc_old _ _ (by simp)]
  exact heap_alloc_last _ _
theorem fb_size (w : World) (n : Int) (v : Value) (l : Nat) : (fbW w n v l).heap.size = w.heap.size + 1 + 1 + 1 := by
  unfold fbW; simp [World.setRow]

set_option maxRecDepth 100000 in
set_option maxHeartbeats 4000000 in
theorem firstBlock_any (n : Int) (a : Option Addr) (c : Nat) (xs : List Int) (hlen : xs.length ≤ 1099511627776) (w : World) (h : Ints w a xs) :
    Calls Try.prog 49 #[cx n (.slice a xs.length c)] w fun e w' => e = .returned (.agg (blkV n xs).toArray) ∧ Below w.heap.size w w' := by
  have H := Lib.hid h
  clear h
  have hL := fb_last w n (.slice a xs.length c)
  have HL := Lib.hid hL
  clear hL
  go_enter Try.func49, Try.ntmps49
  go_wp2_with fail
  rw [blk0_set]
  rw [run_storeCells_from (w.heap.size + 1 + 1) 51 (blk0 n xs.length) 0 Try.zeroCells51 _ HL.out (by first | rfl | simp) (by intro v hv; simp [blk0] at hv; rcases hv with rfl | rfl | rfl <;> rfl)]
  go_wp2_with fail
  generalize hw1 : World.setRow _ _ _ = w1
  have HW : Hid (fbW w n (.slice a xs.length c) xs.length = w1) := hw1
  clear hw1 HL
  have hb1 : Below w.heap.size w w1 := HW.out ▸ fb_below _ _ _ _
  have hg1 : w1.heap[w.heap.size + 1 + 1]? = some (.cells (blk0 n xs.length).toArray 51 (0, 0)) := HW.out ▸ fb_g _ _ _ _
  have hr1 : w1.heap[w.heap.size + 1]? = some (.cells Try.zeroCells51 51 (0, 0)) := HW.out ▸ fb_r _ _ _ _
  have hc1 : w1.heap[w.heap.size]? = some (.cells #[Value.int IntKind.i64 n, .slice a xs.length c] 27 (0, 0)) := HW.out ▸ fb_c _ _ _ _
  have hc10 : w1.cell? ⟨w.heap.size, 0, none⟩ = some (Value.int IntKind.i64 n) := by simp [World.cell?, hc1]
  have hc11 : w1.cell? ⟨w.heap.size, 1, none⟩ = some (.slice a xs.length c) := by simp [World.cell?, hc1]
  have HB := Lib.hid hb1
  have HG := Lib.hid hg1
  have HR := Lib.hid hr1
  have HX := Lib.hid (H.out.keeps hb1)
  clear HW hb1 hg1 hr1 hc1 H
  have hcl : (icells (xs.take 64)).length = Nat.min xs.length 64 := by rw [icells_length, List.length_take, Nat.min_comm]
  have hfit : 2 + (icells (xs.take 64)).length ≤ (blk0 n xs.length).length := by
    rw [blk0_len, icells_length, List.length_take]; omega
  have h1c : ∀ v ∈ icells (xs.take 64), v.oneCell' = true := by
    intro v hv; obtain ⟨x, _, rfl⟩ := List.mem_map.1 hv; rfl
  have hcs : 0 < (icells (xs.take 64)).length → (some ⟨w.heap.size + 1 + 1, 2, none⟩ : Option Addr) = some ⟨w.heap.size + 1 + 1, 2, none⟩ ∧ ∃ ad, a = some ad ∧ ∀ (j : Nat) v, (icells (xs.take 64))[j]? = some v → w1.drew.cell? (ad.add j) = some v := by
    intro hp
    have hx0 : 0 < xs.length := by rw [icells_length, List.length_take] at hp; omega
    obtain ⟨g, o, rfl, _⟩ := HX.out 0 hx0
    refine ⟨rfl, _, rfl, fun j v hv => ?_⟩
    have hj : j < (icells (xs.take 64)).length := (List.getElem?_eq_some_iff.1 hv).1
    rw [icells_length, List.length_take] at hj
    obtain ⟨g', o', he, hcc⟩ := HX.out j (by omega)
    cases he
    rw [icells_at _ j (by rw [List.length_take]; omega)] at hv
    cases hv
    have e1 : (⟨g, o, none⟩ : Addr).add j = ⟨g, o + j, none⟩ := by unfold Addr.add; split <;> simp_all
    rw [e1, show (xs.take 64).getD j 0 = xs.getD j 0 by simp [List.getD, show j < 64 by omega]]
    exact hcc
  have HCL := Lib.hid hcl
  have HF := Lib.hid hfit
  have H1 := Lib.hid h1c
  have HC := Lib.hid hcs
  clear hcl hfit h1c hcs
  go_region_law (refine step_copy_splice rfl (.tmp 11) (.tmp 13) 22 22 rfl 3 (by kernel_rfl) (by kernel_rfl) _ _ _ _ _ _ rfl rfl (w.heap.size + 1 + 1) 2 (blk0 n xs.length) 51 HG.out (icells (xs.take 64)) HCL.out HC.out HF.out H1.out (w.heap.size + 1 + 1) w1 (Below.refl _ _).drew (Nat.le_refl _) ?_; intro w2 hg2 hb2)
  rw [splice_blk] at hg2
  have hr2 : w2.heap[w.heap.size + 1]? = some (.cells Try.zeroCells51 51 (0, 0)) := by
    rw [hb2.block _ (by omega)]; exact HR.out
  have hb3 := HB.out.trans (hb2.mono (by omega))
  have HB3 := Lib.hid hb3
  have HR2 := Lib.hid hr2
  clear hb3 hr2 hb2 hc10 hc11 HB HG HR HX HCL HF H1 HC
  have hlb : (blkV n xs).toArray.size = 66 := by rw [List.size_toArray, blkV_len]
  have hs2 : (Try.prog.info? 51).map (·.size) = some (blkV n xs).toArray.size := by
    rw [hlb]; kernel_rfl
  have hz : Try.zeroCells51.size = (blkV n xs).toArray.size := by
    rw [hlb]; exact zero51_size
  have ho : (blkV n xs).toArray.all (·.oneCell') = true := by
    rw [← Array.all_toList, List.all_eq_true]; exact blkV_one n xs
  have HS2 := Lib.hid hs2
  have HZ := Lib.hid hz
  have HO := Lib.hid ho
  clear hlb hs2 hz ho
  go_wp2_with (first | (refine wpList_load_row (o := ⟨some 15, _, _, _, _, _⟩) rfl 51 (.tmp 3) rfl (w.heap.size + 1 + 1) rfl _ _ _ _ hg2.out (Try.underlying51) rfl HS2.out ?_) | (refine wpList_store_row (o := ⟨none, .store _ (.tmp 2) (.tmp 15), _, _, _, _⟩) rfl 51 (.tmp 2) (.tmp 15) rfl (w.heap.size + 1) (blkV n xs).toArray rfl rfl _ _ HR2.out HS2.out HZ.out HO.out ?_))
  have hr4 := setRow_heap w2 (w.heap.size + 1) _ (blkV n xs).toArray _ _ HR2.out
  have hb4 := below_setRow HB3.out (g := w.heap.size + 1) (by omega) (blkV n xs).toArray
  refine bodyPost_ret (v := .agg (blkV n xs).toArray) ?_ ?_ ?_
  · exact results_cell_row rfl _ _ (w.heap.size + 1) _ _ _ _ rfl hr4 (Try.underlying51) rfl HS2.out
  · rfl
  · exact ⟨rfl, hb4⟩

theorem part_blk (n : Int) (xs : List Int) (w : World) : (part 49 (blkV n xs).toArray 2).run Try.prog w = .ok (.agg (icells (pad xs)).toArray) w := by
  have h : List.take 64 (List.drop 2 (blkV n xs)) = icells (pad xs) := by
    show List.take 64 (icells (pad xs)) = icells (pad xs)
    exact List.take_of_length_le (by rw [icells_length, pad_len]; exact Nat.le_refl _)
  have hu : Try.prog.underlying 49 = some (.array 64 3) := by kernel_rfl
  simp [part, isAgg, run_underlying hu, h]

theorem blk_struct : Try.prog.underlying 51 = some (.struct (Try.prog.fieldsOf 51)) := by kernel_rfl
theorem blk_stood : Try.prog.stoodInHeld 51 = false := by kernel_rfl
theorem blk_fields : (Try.prog.fieldsOf 51).toList.map (fun f => (f.name, f.type, f.offset)) = [("points", 3, 0), ("count", 3, 1), ("facets", 49, 2)] := by kernel_rfl
theorem int_under : Try.prog.underlying 3 = some (.int .i64) := by kernel_rfl
theorem arr_under : Try.prog.underlying 49 = some (.array 64 3) := by kernel_rfl
theorem int_size (w : World) : (sizeOf 3).run Try.prog w = .ok 1 w := by
  have hi : (Try.prog.info? 3).map (·.size) = some 1 := by kernel_rfl
  cases hq : Try.prog.info? 3 with
  | none => rw [hq] at hi; cases hi
  | some i =>
    rw [hq] at hi
    have : i.size = 1 := by simpa using hi
    simp [sizeOf, typeInfo, hq, this]
theorem blk_p0 (n : Int) (xs : List Int) (w : World) : (part 3 (blkV n xs).toArray 0).run Try.prog w = .ok (.int .i64 n) w := by simp [part, isAgg, run_underlying int_under, blkV]
theorem blk_p1 (n : Int) (xs : List Int) (w : World) : (part 3 (blkV n xs).toArray 1).run Try.prog w = .ok (.int .i64 (xs.length : Int)) w := by simp [part, isAgg, run_underlying int_under, blkV]
theorem eqInt_run (d : Nat) (x y : Int) (w : World) : (Op.equalIn (d + 1) 3 (.int .i64 x) (.int .i64 y)).run Try.prog w = .ok (x == y) w := run_equalIn_int w d _ .i64 .i64 _ _ int_under
theorem eqArr_run (d : Nat) (xs ys : List Int) (w : World) : (Op.equalIn (d + 1 + 1) 49 (.agg (icells (pad xs)).toArray) (.agg (icells (pad ys)).toArray)).run Try.prog w = .ok (pad xs == pad ys) w :=
  equalIn_ints (P := Try.prog) w d 49 3 64 arr_under int_under int_size (pad xs) (pad ys) (pad_len _) (pad_len _)

/-- Blocks are equal. -/
def eqBlk (n m : Int) (xs ys : List Int) : Bool := n == m && ((xs.length : Int) == (ys.length : Int) && pad xs == pad ys)

theorem beq_blk (d : Nat) (n m : Int) (xs ys : List Int) (w : World) : (Op.equalIn (d + 1 + 1 + 1) 51 (.agg (blkV n xs).toArray) (.agg (blkV m ys).toArray)).run Try.prog w = .ok (eqBlk n m xs ys) w := by
  rw [run_equalIn_struct w (d + 1 + 1) _ _ _ blk_struct blk_stood]
  have hf := blk_fields
  generalize (Try.prog.fieldsOf 51).toList = fs at hf
  obtain ⟨f0, fs1, rfl, h0, hf1⟩ := List.map_eq_cons_iff.1 hf
  obtain ⟨f1, fs2, rfl, h1, hf2⟩ := List.map_eq_cons_iff.1 hf1
  obtain ⟨f2, fs3, rfl, h2, hf3⟩ := List.map_eq_cons_iff.1 hf2
  obtain rfl := List.map_eq_nil_iff.1 hf3
  simp only [Prod.mk.injEq] at h0 h1 h2
  obtain ⟨⟨n0, t0, o0⟩, ⟨n1, t1, o1⟩, n2, t2, o2⟩ := And.intro h0 (And.intro h1 h2)
  clear hf hf1 hf2 h0 h1 h2
  unfold eqBlk
  simp only [Op.eqFields, n0, n1, n2, t0, t1, t2, o0, o1, o2]
  simp only [ne_eq, show ¬ ("points" : String) = "_" by decide, show ¬ ("count" : String) = "_" by decide, show ¬ ("facets" : String) = "_" by decide, not_false_eq_true, if_true, Sem.run_bind, blk_p0, eqInt_run, Result.andThen_ok]
  cases hnm : n == m
  · simp
  cases hl : (xs.length : Int) == (ys.length : Int)
  · simp only [Bool.not_true, Bool.false_eq_true, if_false, Sem.run_bind, blk_p1, eqInt_run, Result.andThen_ok, hl, Bool.not_false, if_true, Sem.run_pure, Bool.false_and, Bool.and_false]
  cases hpq : pad xs == pad ys
  · simp only [Bool.not_true, Bool.false_eq_true, if_false, Sem.run_bind, blk_p1, part_blk, eqInt_run, eqArr_run, Result.andThen_ok, hl, hpq, Bool.not_false, if_true, Sem.run_pure, Bool.and_false]
  · simp only [Bool.not_true, Bool.false_eq_true, if_false, Sem.run_bind, blk_p1, part_blk, eqInt_run, eqArr_run, Result.andThen_ok, hl, hpq, Sem.run_pure, Bool.and_true]

end Go.Proofs.Ytggpgannmmjcbaa
