/-
  TEXTS of one claim, put together: ArrEq, WCnt2, WCnt3, WCnt4.
-/
import Derived.Laws.StructEq
import Derived.Test.YtenpcjmhlnalcaaGreatJg7
import Derived.Test.YtenpcjmhlnalcaaGreatJg2
import Derived.Laws.CopyOwn
import Derived.Deep.WholeRow
import Derived.Laws.Rows
/-! ARRAYS OF NUMBERS, compared: equal exactly if the lists are. -/

namespace Go.Proofs.YtenpcjmhlnalcaaGreat
open Go

/-- The cells of a list of numbers. -/
def icells (xs : List Int) : List Value := xs.map fun x => Value.int .i64 x
theorem icells_length (xs : List Int) : (icells xs).length = xs.length := List.length_map _
theorem icells_at (xs : List Int) (i : Nat) (h : i < xs.length) : (icells xs)[i]? = some (.int .i64 (xs.getD i 0)) := by
  unfold icells; rw [List.getElem?_map, List.getElem?_eq_getElem h, List.getD, List.getElem?_eq_getElem h]; rfl

theorem ints_range_eq : ∀ (xs ys : List Int), xs.length = ys.length → ((List.range xs.length).all fun i => xs.getD i 0 == ys.getD i 0) = (xs == ys)
  | [], [], _ => rfl
  | x :: xs, y :: ys, h => by
    have ih := ints_range_eq xs ys (by simpa using h)
    rw [List.length_cons, List.range_succ_eq_map, List.all_cons, List.all_map]
    simp only [List.getD_cons_zero, Function.comp_def, List.getD_cons_succ, ih]
    simp [List.cons_beq_cons]
  | [], _ :: _, h => by simp at h
  | _ :: _, [], h => by simp at h

theorem equalIn_ints {P : Program} (w : World) (d : Nat) (t e : TypeId) (n : Nat) (ht : P.underlying t = some (.array n e)) (he : P.underlying e = some (.int .i64)) (hsz : ∀ w, (sizeOf e).run P w = .ok 1 w)
    (xs ys : List Int) (hx : xs.length = n) (hy : ys.length = n) :
    (Op.equalIn (d + 2) t (.agg (icells xs).toArray) (.agg (icells ys).toArray)).run P w = .ok (xs == ys) w := by
  rw [← ints_range_eq xs ys (hx.trans hy.symm), hx, List.range_eq_range', Op.equalIn]
  simp only [Sem.run_bind, run_underlying ht, Result.andThen_ok, hsz, Std.Legacy.Range.forIn_eq_forIn_range', Std.Legacy.Range.size, Nat.sub_zero, Nat.add_sub_cancel, Nat.div_one]
  have hl : ∀ i ∈ List.range' 0 n 1, i < n := fun i hi => by simpa using (List.mem_range'_1.1 hi).2
  generalize List.range' 0 n 1 = l at hl ⊢
  induction l with
  | nil => simp
  | cons i l ih =>
    have hi : i < n := hl i (by simp)
    have px : (part e (icells xs).toArray (i * 1)).run P w = .ok (.int .i64 (xs.getD i 0)) w := by
      simp [part, isAgg, run_underlying he, icells_at xs i (by omega)]
    have py : (part e (icells ys).toArray (i * 1)).run P w = .ok (.int .i64 (ys.getD i 0)) w := by
      simp [part, isAgg, run_underlying he, icells_at ys i (by omega)]
    have pe : (Op.equalIn (d + 1) e (.int .i64 (xs.getD i 0)) (.int .i64 (ys.getD i 0))).run P w = .ok (xs.getD i 0 == ys.getD i 0) w :=
      run_equalIn_int w d e .i64 .i64 _ _ he
    simp only [List.forIn_cons, Sem.run_bind, px, py, pe, Result.andThen_ok, List.all_cons]
    cases hb : (xs.getD i 0 == ys.getD i 0)
    · simp
    · simp only [Bool.not_true, Bool.false_eq_true, if_false, Sem.run_pure, Result.andThen_ok, Bool.true_and]
      exact ih fun j hj => hl j (by simp [hj])

end Go.Proofs.YtenpcjmhlnalcaaGreat

/-! WALKS of chapter 4: countSizes; impl's FaceCounts and EulerOf. -/

namespace Go.Proofs.YtenpcjmhlnalcaaGreat
open Go.RowKit
open Sets

/-! ### an array of numbers in a block -/

def RowAt (w : World) (B : Nat) (t : TypeId) (L : List Int) : Prop := w.heap[B]? = some (.cells (icells L).toArray t (0, 0))
theorem RowAt.lt {w : World} {B : Nat} {t : TypeId} {L : List Int} (h : RowAt w B t L) : B < w.heap.size := (Array.getElem?_eq_some_iff.1 h).1
theorem RowAt.cell {w : World} {B : Nat} {t : TypeId} {L : List Int} (h : RowAt w B t L) (j : Nat) (hj : j < L.length) : w.cell? ⟨B, j, none⟩ = some (.int .i64 (L.getD j 0)) := by
  unfold RowAt at h
  simp only [World.cell?, h]
  simpa using icells_at L j hj
theorem RowAt.frozen {w : World} {B : Nat} {t : TypeId} {L : List Int} (h : RowAt w B t L) (j : Nat) : w.frozen? ⟨B, j, none⟩ = false := by
  unfold RowAt at h
  simp [World.frozen?, h]
theorem RowAt.keeps {w w' : World} {B : Nat} {t : TypeId} {L : List Int} (h : RowAt w B t L) (hb : Below w.heap.size w w') : RowAt w' B t L := by
  unfold RowAt; rw [hb.block B h.lt]; exact h
theorem RowAt.set {w : World} {B : Nat} {t : TypeId} {L : List Int} (h : RowAt w B t L) (j : Nat) (x : Int) : RowAt (w.setCell ⟨B, j, none⟩ (.int .i64 x)) B t (L.set j x) := by
  have hlt := h.lt
  unfold RowAt at h ⊢
  have hv := (Array.getElem?_eq_some_iff.1 h).2
  unfold World.setCell
  rw [Array.getElem?_eq_getElem (by simpa using hlt), Array.getElem_modify]
  simp only [if_pos, hv]
  simp [icells, List.map_set]
theorem RowAt.ints {w : World} {B : Nat} {t : TypeId} {L : List Int} (h : RowAt w B t L) (k : Nat) (hk : k ≤ L.length) : IntsAt w B (some ⟨B, 0, none⟩) (L.take k) := fun j hj => by
  rw [List.length_take] at hj
  refine ⟨rfl, h.lt, ?_, h.frozen j⟩
  rw [List.getD, List.getElem?_take_of_lt (by omega)]
  exact h.cell j (by omega)

abbrev z7 : Array Value := #[.int .i64 0, .int .i64 0, .int .i64 0, .int .i64 0, .int .i64 0, .int .i64 0, .int .i64 0]
theorem zero7 : z7 = (icells (List.replicate 7 0)).toArray := rfl
theorem size7 (L : List Int) (h : L.length = 7) : (Tryz.prog.info? 57).map (·.size) = some (icells L).toArray.size := by
  rw [List.size_toArray, icells_length, h]; kernel_rfl
theorem one7 (L : List Int) : (icells L).toArray.all (·.oneCell') = true := by
  rw [← Array.all_toList, List.all_eq_true]
  intro v hv
  obtain ⟨x, _, rfl⟩ := List.mem_map.1 hv
  rfl
theorem RowAt.new (w : World) : RowAt (w.alloc (.cells z7 57)) w.heap.size 57 (List.replicate 7 0) := by
  unfold RowAt; rw [← zero7]; exact heap_alloc_last _ _

theorem cnts_nil : cnts [] = List.replicate 7 0 := rfl
theorem cnts_lit (L : List Int) : cnts L = [(cnt 0 L : Int), (cnt 1 L : Int), (cnt 2 L : Int), (cnt 3 L : Int), (cnt 4 L : Int), (cnt 5 L : Int), (cnt 6 L : Int)] := rfl

theorem cnts_set (L : List Int) (k p : Nat) (h : k < L.length) (hp : pc (L.getD k 0).toNat = p) : (cnts (L.take k)).set p ((cnt p (L.take k) : Int) + 1) = cnts (L.take (k + 1)) := by
  have h7 := pc_le (L.getD k 0).toNat
  rw [hp] at h7
  rw [cnts_lit, cnts_lit]
  simp only [cnt_take _ L k h, hp]
  rcases (by omega : p = 0 ∨ p = 1 ∨ p = 2 ∨ p = 3 ∨ p = 4 ∨ p = 5 ∨ p = 6) with rfl | rfl | rfl | rfl | rfl | rfl | rfl <;> simp

set_option maxRecDepth 100000 in
set_option maxHeartbeats 4000000 in
theorem countSizes_any (a : Option Addr) (c : Nat) (xs : List Int) (hok : allOk xs = true) (hlen : xs.length ≤ 1099511627776) (w : World) (h : Ints w a xs) :
    Calls Tryz.prog 48 #[.slice a xs.length c] w fun e w' => e = .returned (.agg (icells (cnts xs)).toArray) ∧ Below w.heap.size w w' := by
  have hb0 : Below w.heap.size w ((w.alloc (Obj.cells z7 57)).alloc (Obj.cells z7 57)) := ((Below.refl _ _).alloc (Nat.le_refl _) _).alloc (by simp) _
  have hr0 := (RowAt.new w).keeps ((Below.refl _ _).alloc (Nat.le_refl _) (.cells z7 57))
  have hr1 := RowAt.new (w.alloc (.cells z7 57))
  rw [World.size_alloc] at hr1
  have HA := Lib.hid h
  have HB0 := Lib.hid hb0
  have HR0 := Lib.hid hr0
  have HR1 := Lib.hid hr1
  have HOK := Lib.hid (allOk_at xs hok)
  clear h hb0 hr0 hr1 hok
  go_enter Tryz.func48, Tryz.ntmps48
  go_wp2
  generalize hW : ((w.alloc (Obj.cells z7 57)).alloc (Obj.cells z7 57)) = W at *
  clear hW
  go_loopw [8] (fun i wr => ∃ k : Nat, k ≤ xs.length ∧ i = .int .i64 (k : Int) ∧ W.grownBy wr (some (w.heap.size + 1)) ∧ RowAt wr (w.heap.size + 1) 57 (cnts (xs.take k))) (fun i _ => xs.length - (intOf i).toNat)
  case atStart => exact ⟨0, Nat.zero_le _, rfl, Mem.but_refl _ _, HR1.out⟩
  case round =>
    obtain ⟨k, hk, rfl, hG, hR⟩ := hrel
    have HG := Lib.hid hG
    have HR := Lib.hid hR
    have hBw : Below w.heap.size w wr := HB0.out.trans (Mem.below_of_but hG (by omega) HB0.out.size)
    have HBW := Lib.hid hBw
    clear hG hR hBw
    by_cases hlt : k < xs.length
    · obtain ⟨b0, o, hae, g0⟩ := HA.out k hlt
      obtain ⟨t, ht, ht64⟩ := okZ_cast _ (HOK.out k hlt)
      have hp7 := pc_le t
      have hcl := cnt_le (pc t) (xs.take k)
      rw [List.length_take] at hcl
      have g1 := HR.out.cell (pc t) (by rw [cnts_length]; omega)
      rw [cnts_at _ _ (by omega)] at g1
      have f1 := HR.out.frozen (pc t)
      have g : wr.cell? ⟨b0, o + k, none⟩ = some (.int .i64 (t : Int)) := by rw [HBW.out.cell (p := ⟨b0, o + k, none⟩) (World.block_lt_of_cell? w _ g0), g0, ht]
      have HC := Lib.hid (cnts_set xs k (pc t) hlt (by rw [ht]; rfl))
      have HS := HR.out.set (pc t) ((cnt (pc t) (xs.take k) : Int) + 1)
      rw [HC.out] at HS
      have HS2 := Lib.hid HS
      clear ht g0 HS HC
      subst hae
      generalize cnt (pc t) (xs.take k) = q at *
      have hq : q ≤ k := by omega
      go_wp2_with fail
      refine (implSizeOf_nat t ht64 _).mono ?_
      rintro e w' ⟨rfl, rfl⟩
      go_wp2
      go_roundw
      case rel => exact ⟨k + 1, by omega, by go_num, HG.out.trans (Mem.but_setCell _ _ _ _), HS2.out⟩
      case measure => simp [intOf]; omega
    · have E := Lib.hid (show k = xs.length by omega)
      have hrc : RowAt wr (w.heap.size + 1) 57 (cnts xs) := by have h := HR.out; rw [E.out, List.take_length] at h; exact h
      have hrr : RowAt wr w.heap.size 57 (List.replicate 7 0) := by
        unfold RowAt; rw [HG.out.block w.heap.size (by have := HR0.out.lt; exact this) (by simp)]; exact HR0.out
      have HRC := Lib.hid hrc
      have HRR := Lib.hid hrr
      clear hrc hrr
      go_wp2_with (first | (refine wpList_load_row (o := ⟨some 19, _, _, _, _, _⟩) rfl 57 (.tmp 3) rfl (w.heap.size + 1) rfl _ _ _ _ HRC.out (Tryz.underlying57) rfl (size7 _ (cnts_length _)) ?_) | (refine wpList_store_row (o := ⟨none, .store _ (.tmp 2) (.tmp 19), _, _, _, _⟩) rfl 57 (.tmp 2) (.tmp 19) rfl w.heap.size (icells (cnts xs)).toArray rfl rfl _ _ HRR.out (size7 _ (cnts_length _)) rfl (one7 _) ?_))
      have hr4 := setRow_heap wr w.heap.size _ (icells (cnts xs)).toArray _ _ HRR.out
      have hb4 := below_setRow HBW.out (g := w.heap.size) (Nat.le_refl _) (icells (cnts xs)).toArray
      refine bodyPost_ret (v := .agg (icells (cnts xs)).toArray) ?_ ?_ ?_
      · exact results_cell_row rfl _ _ w.heap.size _ _ _ _ rfl hr4 (Tryz.underlying57) rfl (size7 _ (cnts_length _))
      · rfl
      · exact ⟨rfl, hb4⟩

end Go.Proofs.YtenpcjmhlnalcaaGreat

/-! WALKS of chapter 4: FaceCounts and EulerOf by impl; EulerOf and FacesOfSize by spec. -/

namespace Go.Proofs.YtenpcjmhlnalcaaGreat
open Go.RowKit
open Sets

theorem implDim_b (n : Int) (a : Option Addr) (c : Nat) (xs : List Int) (d : Int) (hd : dimZ n xs = d) (hcap : xs.length ≤ c) (hlen : xs.length ≤ 1099511627776) (w : World) (h : Ints w a xs) :
    Calls Tryz.prog 49 #[cx n (.slice a xs.length c)] w fun e w' => e = .returned (.int .i64 d) ∧ Below w.heap.size w w' := by
  subst hd; exact implDim_any n a c xs hcap hlen w h

theorem countSizes_len (a : Option Addr) (c l : Nat) (xs : List Int) (hl : xs.length = l) (hok : allOk xs = true) (hlen : l ≤ 1099511627776) (w : World) (h : Ints w a xs) :
    Calls Tryz.prog 48 #[.slice a l c] w fun e w' => e = .returned (.agg (icells (cnts xs)).toArray) ∧ Below w.heap.size w w' := by
  subst hl; exact countSizes_any a c xs hok hlen w h

theorem faces_ok (n : Int) (xs : List Int) : allOk (faces n xs) = true := by
  unfold allOk
  rw [List.all_eq_true]
  intro x hx
  obtain ⟨j, hj, rfl⟩ := List.mem_iff_getElem.1 hx
  obtain ⟨s, hs, hs64⟩ := faces_at n xs j hj
  rw [List.getD, List.getElem?_eq_getElem hj] at hs
  have hs : (faces n xs)[j] = (s : Int) := hs
  rw [hs]; exact (okZ_nat s).2 hs64

theorem intSize (w : World) : (sizeOf 3).run Tryz.prog w = .ok 1 w := by
  have hi : (Tryz.prog.info? 3).map (·.size) = some 1 := by kernel_rfl
  cases hq : Tryz.prog.info? 3 with
  | none => rw [hq] at hi; cases hi
  | some i =>
    rw [hq] at hi
    have : i.size = 1 := by simpa using hi
    simp [sizeOf, typeInfo, hq, this]

theorem slice7 (B T : Nat) (hT : T ≤ 7) (w : World) : (Instr.sliceAt 57 (.pointer (some ⟨B, 0, none⟩)) none (some (.int .i64 (T : Int))) none).run Tryz.prog w = .ok (.slice (some ⟨B, 0, none⟩) T 7) w := by
  have hu : Tryz.prog.underlying 57 = some (.array (Tryz.prog.arrayLen 57) (Tryz.prog.elem 57)) := by kernel_rfl
  have hl : Tryz.prog.arrayLen 57 = 7 := by kernel_rfl
  have he : Tryz.prog.elem 57 = 3 := by kernel_rfl
  rw [run_sliceAt_array_h w _ _ hu _ _ (by omega) (by rw [hl]; omega), he, intSize, hl]
  simp [slicedAt, Result.andThen, Addr.add]

set_option maxRecDepth 100000 in
set_option maxHeartbeats 4000000 in
theorem implCounts_any (n : Int) (a : Option Addr) (c : Nat) (xs : List Int) (hcap : xs.length ≤ c) (hlen : xs.length ≤ 1099511627776) (w : World) (h : Ints w a xs) :
    Calls Tryz.prog 29 #[cx n (.slice a xs.length c)] w fun e w' => ∃ v, e = .returned v ∧ HasInts w' w.heap.size v (counts (faces n xs)) ∧ Below w.heap.size w w' := by
  have hb0 : Below w.heap.size w (w.alloc (Obj.cells #[Value.int IntKind.i64 n, Value.slice a xs.length c] 26)) := (Below.refl _ _).alloc (Nat.le_refl _) _
  have htwo : Two (w.alloc (Obj.cells #[Value.int IntKind.i64 n, Value.slice a xs.length c] 26)) w.heap.size (.int .i64 n) (.slice a xs.length c) := Two.new _ _ _ _
  have H := Lib.hid (h.keeps hb0)
  have HB0 := Lib.hid hb0
  have HT := Lib.hid htwo
  have hle := faces_le n xs
  have hfok := Lib.hid (faces_ok n xs)
  clear h hb0 htwo
  obtain ⟨L, hL⟩ : ∃ L, faces n xs = L := ⟨_, rfl⟩
  by_cases h0 : L.length = 0
  · have HF : Hid (counts (faces n xs) = []) := by
      have : counts (faces n xs) = [] := by rw [hL, List.eq_nil_of_length_eq_zero h0]; rfl
      exact this
    have HLL := Lib.hid hL
    rw [hL] at hle
    clear hL
    have hz : ((L.length : Int) == 0) = true := by simp [h0]
    have hz2 : ((L.length : Int) = 0) := by omega
    go_enter Tryz.func29, Tryz.ntmps29
    go_wp2_with fail
    refine (implFaces_any n _ _ xs hcap hlen _ H.out).mono ?_
    rw [HLL.out]
    rintro e w1 ⟨v1, rfl, hO1, hb1⟩
    obtain ⟨a1, c1, g1, rfl, hg1, hr1⟩ := hO1.at
    have HB1 : Hid (Below w.heap.size w w1) := HB0.out.trans (hb1.mono (by simp))
    clear hO1 hr1 hb1
    go_wp2
    go_ret
    exact ⟨_, rfl, by rw [HF.out]; exact HasInts.nil _ _ HB1.out.size, HB1.out⟩
  · have hC : isC n xs = true := by
      cases e : isC n xs with
      | true => rfl
      | false =>
      exfalso
      apply h0
      rw [← hL]
      unfold faces; rw [if_neg (by rw [e]; simp)]; rfl
    have hx0 : 0 < xs.length := by
      rcases Nat.eq_zero_or_pos xs.length with e | e
      · exfalso; apply h0; rw [← hL, List.eq_nil_of_length_eq_zero e, faces_nil]; rfl
      · exact e
    have ht := faces_top hC hx0
    have ht7 := top_le (faces n xs)
    rw [hL] at ht ht7 hle
    have hok : allOk L = true := by rw [← hL]; exact hfok.out
    obtain ⟨T, hT⟩ : ∃ T, top L = T := ⟨_, rfl⟩
    rw [hT] at ht ht7
    obtain ⟨d, hd⟩ : ∃ d, dimZ n xs = d := ⟨_, rfl⟩
    rw [hd] at ht
    have HD := Lib.hid hd
    have HLL := Lib.hid hL
    have HTT := Lib.hid hT
    have HOK := Lib.hid hok
    have hz : ((L.length : Int) == 0) = false := by simp; exact fun e => h0 (by rw [e]; rfl)
    have hs : d + 2 = (T : Int) := ht.symm
    clear hd hL hT hok ht hC hfok
    go_enter Tryz.func29, Tryz.ntmps29
    go_wp2_with fail
    refine (implFaces_any n _ _ xs hcap hlen _ H.out).mono ?_
    rw [HLL.out]
    rintro e w1 ⟨v1, rfl, hO1, hb1⟩
    obtain ⟨a1, c1, g1, rfl, hg1, hr1⟩ := hO1.at
    have HB1 : Hid (Below w.heap.size w w1) := HB0.out.trans (hb1.mono (by simp))
    have HR1 := Lib.hid hr1
    have HT1 := Lib.hid (HT.out.keeps hb1)
    have H1 := Lib.hid (H.out.keeps hb1)
    clear hO1 hr1 hb1
    go_wp2_with fail
    refine (countSizes_any _ _ L HOK.out (by omega) _ HR1.out.ints).mono ?_
    rintro e w2 ⟨rfl, hb2⟩
    have HB2 : Hid (Below w.heap.size w w2) := HB1.out.trans (hb2.mono HB1.out.size)
    have HT2 := Lib.hid (HT1.out.keeps hb2)
    have H2 := Lib.hid (H1.out.keeps hb2)
    clear hb2
    have hnew := RowAt.new w2
    have HN := Lib.hid hnew
    have hb3 := below_setRow (HB2.out.alloc HB2.out.size (.cells z7 57)) (g := w2.heap.size) HB2.out.size (icells (cnts L)).toArray
    have hb3' := below_setRow ((Below.refl w2.heap.size w2).alloc (Nat.le_refl _) (.cells z7 57)) (g := w2.heap.size) (Nat.le_refl _) (icells (cnts L)).toArray
    have hr3 : RowAt ((w2.alloc (.cells z7 57)).setRow w2.heap.size (icells (cnts L)).toArray) w2.heap.size 57 (cnts L) := setRow_heap _ _ _ _ _ _ hnew
    have ht3 := HT2.out.keeps hb3'
    have h3 := H2.out.keeps hb3'
    obtain ⟨W3, hW3⟩ : ∃ W3, (w2.alloc (.cells z7 57)).setRow w2.heap.size (icells (cnts L)).toArray = W3 := ⟨_, rfl⟩
    rw [hW3] at hb3 hb3' hr3 ht3 h3
    have HB3 := Lib.hid hb3
    have HR3 := Lib.hid hr3
    have HT3 := Lib.hid ht3
    have H3 := Lib.hid h3
    have HW3 := Lib.hid hW3
    have hsz2 := HB2.out.size
    clear hb3 hb3' hr3 ht3 h3 hW3 hnew
    go_wp2_with (refine wpList_store_row (o := ⟨none, .store _ (.tmp 4) (.tmp 11), _, _, _, _⟩) rfl 57 (.tmp 4) (.tmp 11) rfl w2.heap.size (icells (cnts L)).toArray rfl rfl _ _ HN.out (size7 _ (cnts_length _)) rfl (one7 _) ?_; rw [HW3.out]; obtain ⟨t0, t1, t2, _, _⟩ := HT3.out)
    refine (implDim_b n _ _ xs d HD.out hcap hlen _ H3.out).mono ?_
    rintro e w4 ⟨rfl, hb4⟩
    have HB4 : Hid (Below w.heap.size w w4) := HB3.out.trans (hb4.mono HB3.out.size)
    have HR4 := Lib.hid (HR3.out.keeps hb4)
    clear hb4
    have hsl := slice7 w2.heap.size T ht7
    go_wp2
    go_ret
    have hi := HR4.out.ints T (by rw [cnts_length]; omega)
    have e4 : (cnts L).take T = counts L := by unfold counts; rw [HTT.out]
    rw [e4] at hi
    refine ⟨_, rfl, ⟨_, 7, w2.heap.size, ?_, by rw [HLL.out, counts_length, HTT.out]; exact ht7, hsz2, by rw [HLL.out]; exact hi, Or.inl HR4.out.lt⟩, HB4.out⟩
    rw [HLL.out, counts_length, HTT.out]; rfl

end Go.Proofs.YtenpcjmhlnalcaaGreat

/-! WALKS of chapter 4: EulerOf by impl and by spec. -/

namespace Go.Proofs.YtenpcjmhlnalcaaGreat
open Go.RowKit
open Sets

theorem countSizes_lit (a : Option Addr) (c : Nat) (xs : List Int) (hok : allOk xs = true) (hlen : xs.length ≤ 1099511627776) (c0 c1 c2 c3 c4 c5 c6 : Nat) (h0 : cnt 0 xs = c0) (h1 : cnt 1 xs = c1) (h2 : cnt 2 xs = c2) (h3 : cnt 3 xs = c3) (h4 : cnt 4 xs = c4) (h5 : cnt 5 xs = c5) (h6 : cnt 6 xs = c6) (w : World) (h : Ints w a xs) :
    Calls Tryz.prog 48 #[.slice a xs.length c] w fun e w' => e = .returned (.agg #[.int .i64 (c0 : Int), .int .i64 (c1 : Int), .int .i64 (c2 : Int), .int .i64 (c3 : Int), .int .i64 (c4 : Int), .int .i64 (c5 : Int), .int .i64 (c6 : Int)]) ∧ Below w.heap.size w w' := by
  subst h0 h1 h2 h3 h4 h5 h6
  exact countSizes_any a c xs hok hlen w h

theorem index7 (L : List Int) (hL : L.length = 7) (k : Nat) (hk : k < 7) (w : World) :
    (Instr.index 57 (.agg (icells L).toArray) (.int .i64 (k : Int))).run Tryz.prog w = .ok (.int .i64 (L.getD k 0)) w := by
  have hu : Tryz.prog.underlying 57 = some (.array 7 3) := by kernel_rfl
  have hi : Tryz.prog.underlying 3 = some (.int .i64) := by kernel_rfl
  have h1 : (0 : Int) ≤ (k : Int) ∧ (k : Int) < (7 : Nat) := by omega
  have hc : (icells L)[k]? = some (.int .i64 (L.getD k 0)) := icells_at L k (by omega)
  simp [Instr.index, asIntOf, run_underlying hu, run_underlying hi, part, isAgg, hc, hk, Result.andThen]

end Go.Proofs.YtenpcjmhlnalcaaGreat
