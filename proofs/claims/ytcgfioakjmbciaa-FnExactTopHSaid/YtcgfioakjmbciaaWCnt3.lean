/-
  WALKS of chapter 4: FaceCounts and EulerOf by impl; EulerOf and FacesOfSize by spec.
-/
import Derived.Test.YtcgfioakjmbciaaWCnt2
namespace Go.Proofs.Ytcgfioakjmbciaa
open Go.RowKit
open Sets

theorem implDim_b (n : Int) (a : Option Addr) (c : Nat) (xs : List Int) (d : Int) (hd : dimZ n xs = d) (hcap : xs.length ≤ c) (hlen : xs.length ≤ 1099511627776) (w : World) (h : Ints w a xs) :
    Calls Try.prog 59 #[cx n (.slice a xs.length c)] w fun e w' => e = .returned (.int .i64 d) ∧ Below w.heap.size w w' := by
  subst hd; exact implDim_any n a c xs hcap hlen w h

theorem countSizes_len (a : Option Addr) (c l : Nat) (xs : List Int) (hl : xs.length = l) (hok : allOk xs = true) (hlen : l ≤ 1099511627776) (w : World) (h : Ints w a xs) :
    Calls Try.prog 58 #[.slice a l c] w fun e w' => e = .returned (.agg (icells (cnts xs)).toArray) ∧ Below w.heap.size w w' := by
  subst hl; exact countSizes_any a c xs hok hlen w h

theorem faces_ok (n : Int) (xs : List Int) : allOk (faces n xs) = true := by
  unfold allOk
  rw [List.all_eq_true]
  intro x hx
  obtain ⟨j, hj, rfl⟩ := List.mem_iff_getElem.1 hx
  obtain ⟨s, hs, hs64⟩ := faces_at n xs j hj
  rw [List.getD, List.getElem?_eq_getElem hj] at hs
  have hs : (faces n xs)[j] = (s : Int) := hs
  rw [hs]; exact (okZ_nat s).2 hs64

theorem intSize (w : World) : (sizeOf 3).run Try.prog w = .ok 1 w := by
  have hi : (Try.prog.info? 3).map (·.size) = some 1 := by kernel_rfl
  cases hq : Try.prog.info? 3 with
  | none => rw [hq] at hi; cases hi
  | some i =>
    rw [hq] at hi
    have : i.size = 1 := by simpa using hi
    simp [sizeOf, typeInfo, hq, this]

theorem slice7 (B T : Nat) (hT : T ≤ 7) (w : World) : (Instr.sliceAt 63 (.pointer (some ⟨B, 0, none⟩)) none (some (.int .i64 (T : Int))) none).run Try.prog w = .ok (.slice (some ⟨B, 0, none⟩) T 7) w := by
  have hu : Try.prog.underlying 63 = some (.array (Try.prog.arrayLen 63) (Try.prog.elem 63)) := by kernel_rfl
  have hl : Try.prog.arrayLen 63 = 7 := by kernel_rfl
  have he : Try.prog.elem 63 = 3 := by kernel_rfl
  rw [run_sliceAt_array_h w _ _ hu _ _ (by omega) (by rw [hl]; omega), he, intSize, hl]
  simp [slicedAt, Result.andThen, Addr.add]

set_option maxRecDepth 100000 in
set_option maxHeartbeats 4000000 in
theorem implCounts_any (n : Int) (a : Option Addr) (c : Nat) (xs : List Int) (hcap : xs.length ≤ c) (hlen : xs.length ≤ 1099511627776) (w : World) (h : Ints w a xs) :
    Calls Try.prog 39 #[cx n (.slice a xs.length c)] w fun e w' => ∃ v, e = .returned v ∧ HasInts w' w.heap.size v (counts (faces n xs)) ∧ Below w.heap.size w w' := by
  have hb0 : Below w.heap.size w (w.alloc (Obj.cells #[Value.int IntKind.i64 n, Value.slice a xs.length c] 26)) := (Below.refl _ _).alloc (Nat.le_refl _) _
  have htwo : Two (w.alloc (Obj.cells #[Value.int IntKind.i64 n, Value.slice a xs.length c] 26)) w.heap.size (.int .i64 n) (.slice a xs.length c) := Two.new _ _ _ _
  have H := Lib.hid (h.keeps hb0)
  have HB0 := Lib.hid hb0
  have HT := Lib.hid htwo
  have hle := faces_le n xs
  have hfok := Lib.hid (faces_ok n xs)
  clear h hb0 htwo
  obtain ⟨L, hL⟩ : ∃ L, faces n xs = L := ⟨_, rfl⟩
  by_cases h0 : L.length = 0
  · have HF : Hid (counts (faces n xs) = []) := by
      have : counts (faces n xs) = [] := by rw [hL, List.eq_nil_of_length_eq_zero h0]; rfl
      exact this
    have HLL := Lib.hid hL
    rw [hL] at hle
    clear hL
    have hz : ((L.length : Int) == 0) = true := by simp [h0]
    have hz2 : ((L.length : Int) = 0) := by omega
    go_enter Try.func39, Try.ntmps39
    go_wp2_with fail
    refine (implFaces_any n _ _ xs hcap hlen _ H.out).mono ?_
    rw [HLL.out]
    rintro e w1 ⟨v1, rfl, hO1, hb1⟩
    obtain ⟨a1, c1, g1, rfl, hg1, hr1⟩ := hO1.at
    have HB1 : Hid (Below w.heap.size w w1) := HB0.out.trans (hb1.mono (by simp))
    clear hO1 hr1 hb1
    go_wp2
    go_ret
    exact ⟨_, rfl, by rw [HF.out]; exact HasInts.nil _ _ HB1.out.size, HB1.out⟩
  · have hC : isC n xs = true := by
      cases e : isC n xs with
      | true => rfl
      | false =>
      exfalso
      apply h0
      rw [← hL]
      unfold faces; rw [if_neg (by rw [e]; simp)]; rfl
    have hx0 : 0 < xs.length := by
      rcases Nat.eq_zero_or_pos xs.length with e | e
      · exfalso; apply h0; rw [← hL, List.eq_nil_of_length_eq_zero e, faces_nil]; rfl
      · exact e
    have ht := faces_top hC hx0
    have ht7 := top_le (faces n xs)
    rw [hL] at ht ht7 hle
    have hok : allOk L = true := by rw [← hL]; exact hfok.out
    obtain ⟨T, hT⟩ : ∃ T, top L = T := ⟨_, rfl⟩
    rw [hT] at ht ht7
    obtain ⟨d, hd⟩ : ∃ d, dimZ n xs = d := ⟨_, rfl⟩
    rw [hd] at ht
    have HD := Lib.hid hd
    have HLL := Lib.hid hL
    have HTT := Lib.hid hT
    have HOK := Lib.hid hok
    have hz : ((L.length : Int) == 0) = false := by simp; exact fun e => h0 (by rw [e]; rfl)
    have hs : d + 2 = (T : Int) := ht.symm
    clear hd hL hT hok ht hC hfok
    go_enter Try.func39, Try.ntmps39
    go_wp2_with fail
    refine (implFaces_any n _ _ xs hcap hlen _ H.out).mono ?_
    rw [HLL.out]
    rintro e w1 ⟨v1, rfl, hO1, hb1⟩
    obtain ⟨a1, c1, g1, rfl, hg1, hr1⟩ := hO1.at
    have HB1 : Hid (Below w.heap.size w w1) := HB0.out.trans (hb1.mono (by simp))
    have HR1 := Lib.hid hr1
    have HT1 := Lib.hid (HT.out.keeps hb1)
    have H1 := Lib.hid (H.out.keeps hb1)
    clear hO1 hr1 hb1
    go_wp2_with fail
    refine (countSizes_any _ _ L HOK.out (by omega) _ HR1.out.ints).mono ?_
    rintro e w2 ⟨rfl, hb2⟩
    have HB2 : Hid (Below w.heap.size w w2) := HB1.out.trans (hb2.mono HB1.out.size)
    have HT2 := Lib.hid (HT1.out.keeps hb2)
    have H2 := Lib.hid (H1.out.keeps hb2)
    clear hb2
    have hnew := RowAt.new w2
    have HN := Lib.hid hnew
    have hb3 := below_setRow (HB2.out.alloc HB2.out.size (.cells z7 63)) (g := w2.heap.size) HB2.out.size (icells (cnts L)).toArray
    have hb3' := below_setRow ((Below.refl w2.heap.size w2).alloc (Nat.le_refl _) (.cells z7 63)) (g := w2.heap.size) (Nat.le_refl _) (icells (cnts L)).toArray
    have hr3 : RowAt ((w2.alloc (.cells z7 63)).setRow w2.heap.size (icells (cnts L)).toArray) w2.heap.size 63 (cnts L) := setRow_heap _ _ _ _ _ _ hnew
    have ht3 := HT2.out.keeps hb3'
    have h3 := H2.out.keeps hb3'
    obtain ⟨W3, hW3⟩ : ∃ W3, (w2.alloc (.cells z7 63)).setRow w2.heap.size (icells (cnts L)).toArray = W3 := ⟨_, rfl⟩
    rw [hW3] at hb3 hb3' hr3 ht3 h3
    have HB3 := Lib.hid hb3
    have HR3 := Lib.hid hr3
    have HT3 := Lib.hid ht3
    have H3 := Lib.hid h3
    have HW3 := Lib.hid hW3
    have hsz2 := HB2.out.size
    clear hb3 hb3' hr3 ht3 h3 hW3 hnew
    go_wp2_with (refine wpList_store_row (o := ⟨none, .store _ (.tmp 4) (.tmp 11), _, _, _, _⟩) rfl 63 (.tmp 4) (.tmp 11) rfl w2.heap.size (icells (cnts L)).toArray rfl rfl _ _ HN.out (size7 _ (cnts_length _)) rfl (one7 _) ?_; rw [HW3.out]; obtain ⟨t0, t1, t2, _, _⟩ := HT3.out)
    refine (implDim_b n _ _ xs d HD.out hcap hlen _ H3.out).mono ?_
    rintro e w4 ⟨rfl, hb4⟩
    have HB4 : Hid (Below w.heap.size w w4) := HB3.out.trans (hb4.mono HB3.out.size)
    have HR4 := Lib.hid (HR3.out.keeps hb4)
    clear hb4
    have hsl := slice7 w2.heap.size T ht7
    go_wp2
    go_ret
    have hi := HR4.out.ints T (by rw [cnts_length]; omega)
    have e4 : (cnts L).take T = counts L := by unfold counts; rw [HTT.out]
    rw [e4] at hi
    refine ⟨_, rfl, ⟨_, 7, w2.heap.size, ?_, by rw [HLL.out, counts_length, HTT.out]; exact ht7, hsz2, by rw [HLL.out]; exact hi, Or.inl HR4.out.lt⟩, HB4.out⟩
    rw [HLL.out, counts_length, HTT.out]; rfl

end Go.Proofs.Ytcgfioakjmbciaa
