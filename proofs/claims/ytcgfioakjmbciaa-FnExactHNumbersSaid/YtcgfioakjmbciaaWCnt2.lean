/-
  WALKS of chapter 4: countSizes; impl's FaceCounts and EulerOf.
-/
import Derived.Test.YtcgfioakjmbciaaWCnt1
import Derived.Test.YtcgfioakjmbciaaHas
import Derived.Test.YtcgfioakjmbciaaArrEq
import Derived.Laws.CopyOwn
import Derived.Deep.WholeRow
import Derived.Laws.Rows
namespace Go.Proofs.Ytcgfioakjmbciaa
open Go.RowKit
open Sets

/-! ### an array of numbers in a block -/

def RowAt (w : World) (B : Nat) (t : TypeId) (L : List Int) : Prop := w.heap[B]? = some (.cells (icells L).toArray t (0, 0))
theorem RowAt.lt {w : World} {B : Nat} {t : TypeId} {L : List Int} (h : RowAt w B t L) : B < w.heap.size := (Array.getElem?_eq_some_iff.1 h).1
theorem RowAt.cell {w : World} {B : Nat} {t : TypeId} {L : List Int} (h : RowAt w B t L) (j : Nat) (hj : j < L.length) : w.cell? ⟨B, j, none⟩ = some (.int .i64 (L.getD j 0)) := by
  unfold RowAt at h
  simp only [World.cell?, h]
  simpa using icells_at L j hj
theorem RowAt.frozen {w : World} {B : Nat} {t : TypeId} {L : List Int} (h : RowAt w B t L) (j : Nat) : w.frozen? ⟨B, j, none⟩ = false := by
  unfold RowAt at h
  simp [World.frozen?, h]
theorem RowAt.keeps {w w' : World} {B : Nat} {t : TypeId} {L : List Int} (h : RowAt w B t L) (hb : Below w.heap.size w w') : RowAt w' B t L := by
  unfold RowAt; rw [hb.block B h.lt]; exact h
theorem RowAt.set {w : World} {B : Nat} {t : TypeId} {L : List Int} (h : RowAt w B t L) (j : Nat) (x : Int) : RowAt (w.setCell ⟨B, j, none⟩ (.int .i64 x)) B t (L.set j x) := by
  have hlt := h.lt
  unfold RowAt at h ⊢
  have hv := (Array.getElem?_eq_some_iff.1 h).2
  unfold World.setCell
  rw [Array.getElem?_eq_getElem (by simpa using hlt), Array.getElem_modify]
  simp only [if_pos, hv]
  simp [icells, List.map_set]
theorem RowAt.ints {w : World} {B : Nat} {t : TypeId} {L : List Int} (h : RowAt w B t L) (k : Nat) (hk : k ≤ L.length) : IntsAt w B (some ⟨B, 0, none⟩) (L.take k) := fun j hj => by
  rw [List.length_take] at hj
  refine ⟨rfl, h.lt, ?_, h.frozen j⟩
  rw [List.getD, List.getElem?_take_of_lt (by omega)]
  exact h.cell j (by omega)

abbrev z7 : Array Value := #[.int .i64 0, .int .i64 0, .int .i64 0, .int .i64 0, .int .i64 0, .int .i64 0, .int .i64 0]
theorem zero7 : z7 = (icells (List.replicate 7 0)).toArray := rfl
theorem size7 (L : List Int) (h : L.length = 7) : (Try.prog.info? 63).map (·.size) = some (icells L).toArray.size := by
  rw [List.size_toArray, icells_length, h]; kernel_rfl
theorem one7 (L : List Int) : (icells L).toArray.all (·.oneCell') = true := by
  rw [← Array.all_toList, List.all_eq_true]
  intro v hv
  obtain ⟨x, _, rfl⟩ := List.mem_map.1 hv
  rfl
theorem RowAt.new (w : World) : RowAt (w.alloc (.cells z7 63)) w.heap.size 63 (List.replicate 7 0) := by
  unfold RowAt; rw [← zero7]; exact heap_alloc_last _ _

theorem cnts_nil : cnts [] = List.replicate 7 0 := rfl
theorem cnts_lit (L : List Int) : cnts L = [(cnt 0 L : Int), (cnt 1 L : Int), (cnt 2 L : Int), (cnt 3 L : Int), (cnt 4 L : Int), (cnt 5 L : Int), (cnt 6 L : Int)] := rfl

theorem cnts_set (L : List Int) (k p : Nat) (h : k < L.length) (hp : pc (L.getD k 0).toNat = p) : (cnts (L.take k)).set p ((cnt p (L.take k) : Int) + 1) = cnts (L.take (k + 1)) := by
  have h7 := pc_le (L.getD k 0).toNat
  rw [hp] at h7
  rw [cnts_lit, cnts_lit]
  simp only [cnt_take _ L k h, hp]
  rcases (by omega : p = 0 ∨ p = 1 ∨ p = 2 ∨ p = 3 ∨ p = 4 ∨ p = 5 ∨ p = 6) with rfl | rfl | rfl | rfl | rfl | rfl | rfl <;> simp

set_option maxRecDepth 100000 in
set_option maxHeartbeats 4000000 in
theorem countSizes_any (a : Option Addr) (c : Nat) (xs : List Int) (hok : allOk xs = true) (hlen : xs.length ≤ 1099511627776) (w : World) (h : Ints w a xs) :
    Calls Try.prog 58 #[.slice a xs.length c] w fun e w' => e = .returned (.agg (icells (cnts xs)).toArray) ∧ Below w.heap.size w w' := by
  have hb0 : Below w.heap.size w ((w.alloc (Obj.cells z7 63)).alloc (Obj.cells z7 63)) := ((Below.refl _ _).alloc (Nat.le_refl _) _).alloc (by simp) _
  have hr0 := (RowAt.new w).keeps ((Below.refl _ _).alloc (Nat.le_refl _) (.cells z7 63))
  have hr1 := RowAt.new (w.alloc (.cells z7 63))
  rw [World.size_alloc] at hr1
  have HA := Lib.hid h
  have HB0 := Lib.hid hb0
  have HR0 := Lib.hid hr0
  have HR1 := Lib.hid hr1
  have HOK := Lib.hid (allOk_at xs hok)
  clear h hb0 hr0 hr1 hok
  go_enter Try.func58, Try.ntmps58
  go_wp2
  generalize hW : ((w.alloc (Obj.cells z7 63)).alloc (Obj.cells z7 63)) = W at *
  clear hW
  go_loopw [8] (fun i wr => ∃ k : Nat, k ≤ xs.length ∧ i = .int .i64 (k : Int) ∧ W.grownBy wr (some (w.heap.size + 1)) ∧ RowAt wr (w.heap.size + 1) 63 (cnts (xs.take k))) (fun i _ => xs.length - (intOf i).toNat)
  case atStart => exact ⟨0, Nat.zero_le _, rfl, Mem.but_refl _ _, HR1.out⟩
  case round =>
    obtain ⟨k, hk, rfl, hG, hR⟩ := hrel
    have HG := Lib.hid hG
    have HR := Lib.hid hR
    have hBw : Below w.heap.size w wr := HB0.out.trans (Mem.below_of_but hG (by omega) HB0.out.size)
    have HBW := Lib.hid hBw
    clear hG hR hBw
    by_cases hlt : k < xs.length
    · obtain ⟨b0, o, hae, g0⟩ := HA.out k hlt
      obtain ⟨t, ht, ht64⟩ := okZ_cast _ (HOK.out k hlt)
      have hp7 := pc_le t
      have hcl := cnt_le (pc t) (xs.take k)
      rw [List.length_take] at hcl
      have g1 := HR.out.cell (pc t) (by rw [cnts_length]; omega)
      rw [cnts_at _ _ (by omega)] at g1
      have f1 := HR.out.frozen (pc t)
      have g : wr.cell? ⟨b0, o + k, none⟩ = some (.int .i64 (t : Int)) := by rw [HBW.out.cell (p := ⟨b0, o + k, none⟩) (World.block_lt_of_cell? w _ g0), g0, ht]
      have HC := Lib.hid (cnts_set xs k (pc t) hlt (by rw [ht]; rfl))
      have HS := HR.out.set (pc t) ((cnt (pc t) (xs.take k) : Int) + 1)
      rw [HC.out] at HS
      have HS2 := Lib.hid HS
      clear ht g0 HS HC
      subst hae
      generalize cnt (pc t) (xs.take k) = q at *
      have hq : q ≤ k := by omega
      go_wp2_with fail
      refine (implSizeOf_nat t ht64 _).mono ?_
      rintro e w' ⟨rfl, rfl⟩
      go_wp2
      go_roundw
      case rel => exact ⟨k + 1, by omega, by go_num, HG.out.trans (Mem.but_setCell _ _ _ _), HS2.out⟩
      case measure => simp [intOf]; omega
    · have E := Lib.hid (show k = xs.length by omega)
      have hrc : RowAt wr (w.heap.size + 1) 63 (cnts xs) := by have h := HR.out; rw [E.out, List.take_length] at h; exact h
      have hrr : RowAt wr w.heap.size 63 (List.replicate 7 0) := by
        unfold RowAt; rw [HG.out.block w.heap.size (by have := HR0.out.lt; exact this) (by simp)]; exact HR0.out
      have HRC := Lib.hid hrc
      have HRR := Lib.hid hrr
      clear hrc hrr
      go_wp2_with (first | (refine wpList_load_row (o := ⟨some 19, _, _, _, _, _⟩) rfl 63 (.tmp 3) rfl (w.heap.size + 1) rfl _ _ _ _ HRC.out (Try.underlying63) rfl (size7 _ (cnts_length _)) ?_) | (refine wpList_store_row (o := ⟨none, .store _ (.tmp 2) (.tmp 19), _, _, _, _⟩) rfl 63 (.tmp 2) (.tmp 19) rfl w.heap.size (icells (cnts xs)).toArray rfl rfl _ _ HRR.out (size7 _ (cnts_length _)) rfl (one7 _) ?_))
      have hr4 := setRow_heap wr w.heap.size _ (icells (cnts xs)).toArray _ _ HRR.out
      have hb4 := below_setRow HBW.out (g := w.heap.size) (Nat.le_refl _) (icells (cnts xs)).toArray
      refine bodyPost_ret (v := .agg (icells (cnts xs)).toArray) ?_ ?_ ?_
      · exact results_cell_row rfl _ _ w.heap.size _ _ _ _ rfl hr4 (Try.underlying63) rfl (size7 _ (cnts_length _))
      · rfl
      · exact ⟨rfl, hb4⟩

end Go.Proofs.Ytcgfioakjmbciaa
