/-
  TEXTS of one claim, put together: Mx2, WJoinS4, WJoinS5.
-/
import Derived.Test.YthobncbggaggjaaJg12
import Derived.Laws.OwnMore
import Derived.Deep.AppendLies
import Derived.Maps.AppendAt
/-! MEMORY: a matrix that the call builds row by row. -/

namespace Go.Proofs.Ythobncbggaggjaa
open Go.RowKit

def vals (R : List (Nat × Nat)) (M : Lin.Mat) : List Value := (List.range M.length).map fun i => .slice (some ⟨blk R i, 0, none⟩) (Lin.row M i).length (room R i)
theorem vals_length (R : List (Nat × Nat)) (M : Lin.Mat) : (vals R M).length = M.length := by simp [vals]
theorem vals_at (R : List (Nat × Nat)) (M : Lin.Mat) (i : Nat) (h : i < M.length) : (vals R M)[i]? = some (.slice (some ⟨blk R i, 0, none⟩) (Lin.row M i).length (room R i)) := by
  unfold vals; rw [List.getElem?_map, List.getElem?_range h]; rfl
theorem blk_left {R : List (Nat × Nat)} {i : Nat} (x : Nat × Nat) (h : i < R.length) : (R ++ [x]).getD i (0, 0) = R.getD i (0, 0) := by
  simp [List.getD, List.getElem?_append_left h]
theorem blk_last {R : List (Nat × Nat)} (x : Nat × Nat) : (R ++ [x]).getD R.length (0, 0) = x := by simp [List.getD]
theorem row_left {M : Lin.Mat} {i : Nat} (r : List Int) (h : i < M.length) : Lin.row (M ++ [r]) i = Lin.row M i := by
  unfold Lin.row; simp [List.getD, List.getElem?_append_left h]
theorem row_last {M : Lin.Mat} (r : List Int) : Lin.row (M ++ [r]) M.length = r := by unfold Lin.row; simp [List.getD]
theorem vals_snoc (R : List (Nat × Nat)) (M : Lin.Mat) (h : R.length = M.length) (g c : Nat) (r : List Int) : vals (R ++ [(g, c)]) (M ++ [r]) = vals R M ++ [.slice (some ⟨g, 0, none⟩) r.length c] := by
  unfold vals
  rw [List.length_append, List.length_singleton, List.range_succ, List.map_append]
  congr 1
  · refine List.map_congr_left fun i hi => ?_
    have hi := List.mem_range.1 hi
    simp only [blk, room]
    rw [blk_left _ (by omega), row_left _ hi]
  · simp only [List.map_cons, List.map_nil, blk, room]
    rw [← h, blk_last, h, row_last]

structure OwnMx (w : World) (base : Nat) (v : Value) (R : List (Nat × Nat)) (M : Lin.Mat) : Prop where
  own : w.ownsRow base 24 1 v M.length (vals R M)
  len : R.length = M.length
  nodup : (blks R).Nodup
  rows : ∀ i, i < M.length → base ≤ blk R i ∧ blk R i < w.heap.size ∧ IntsAt w (blk R i) (some ⟨blk R i, 0, none⟩) (Lin.row M i)
  apart : ∀ g, v.ownBlock = some g → g ∉ blks R

theorem OwnMx.lit (w : World) (base : Nat) (h : base ≤ w.heap.size) : OwnMx (w.alloc (.cells #[] 24)) base (.slice (some ⟨w.heap.size, 0, none⟩) 0 0) [] [] := by
  refine ⟨?_, rfl, by simp, fun i hi => absurd hi (Nat.not_lt_zero _), fun _ _ => by simp⟩
  have h1 := World.ownsRow_lit (base := base) (e := 24) (size := 1) w #[] 0 h (by unfold maxLen; omega) (by simp)
  simpa [vals] using h1
theorem OwnMx.keeps {w w' : World} {base : Nat} {v : Value} {R : List (Nat × Nat)} {M : Lin.Mat} (h : OwnMx w base v R M) (hb : Below w.heap.size w w') : OwnMx w' base v R M := by
  refine ⟨World.ownsRow.kept (row := none) h.own ⟨hb.os, hb.tape, hb.output, hb.size, fun k hk _ => hb.block k hk⟩ ?_, h.len, h.nodup, fun i hi => ?_, h.apart⟩
  · cases v.ownBlock <;> simp
  · obtain ⟨h1, h2, h3⟩ := h.rows i hi
    exact ⟨h1, Nat.lt_of_lt_of_le h2 hb.size, h3.keeps hb⟩
theorem OwnMx.lower {w : World} {base b : Nat} {v : Value} {R : List (Nat × Nat)} {M : Lin.Mat} (h : OwnMx w base v R M) (hb : b ≤ base) : OwnMx w b v R M := by
  refine ⟨⟨h.own.1, ?_⟩, h.len, h.nodup, fun i hi => ⟨Nat.le_trans hb (h.rows i hi).1, (h.rows i hi).2⟩, h.apart⟩
  rcases h.own.2 with h0 | ⟨g, cap, cur, hv, h1, hr⟩
  · exact .inl h0
  · exact .inr ⟨g, cap, cur, hv, by omega, hr⟩
/-- Out of what is owned: the matrix. -/
theorem OwnMx.mx {w : World} {base : Nat} {v : Value} {R : List (Nat × Nat)} {M : Lin.Mat} (h : OwnMx w base v R M) : ∃ go ao co, v = .slice ao M.length co ∧ (0 < M.length → base ≤ go ∧ go < w.heap.size) ∧ Mx w go ao R M := by
  rcases h.own.2 with ⟨hv, h0⟩ | ⟨g, cap, cur, hv, hb, _⟩
  · have hM : M = [] := List.eq_nil_of_length_eq_zero h0
    subst hM
    have hR : R = [] := List.eq_nil_of_length_eq_zero h.len
    subst hR
    exact ⟨0, none, 0, by rw [hv]; rfl, fun h => absurd h (Nat.lt_irrefl 0), ⟨rfl, by simp, fun i hi => absurd hi (Nat.not_lt_zero _), fun i hi => absurd hi (Nat.not_lt_zero _), by simp⟩⟩
  · subst hv
    obtain ⟨h1, h2⟩ := World.ownsRow.lt h.own g rfl
    refine ⟨g, some ⟨g, 0, none⟩, cap, rfl, fun _ => ⟨h1, h2⟩, ⟨h.len, h.nodup, fun i hi => ⟨rfl, h2, ?_, World.ownsRow.frozenAt h.own i⟩, fun i hi => (h.rows i hi).2, h.apart g rfl⟩⟩
    rw [World.ownsRow.cellAt h.own i (by omega), vals_at R M i hi]
/-- A row is appended. -/
theorem OwnMx.next {w w3 : World} {base : Nat} {v v' : Value} {R : List (Nat × Nat)} {M : Lin.Mat} (h : OwnMx w base v R M) {g c : Nat} {r : List Int} (hg : base ≤ g) (hlt : g < w.heap.size) (hr : IntsAt w g (some ⟨g, 0, none⟩) r) (hn : g ∉ blks R) (hv : v.ownBlock ≠ some g)
    (ho : w3.ownsRow base 24 1 v' (M.length + 1) (vals R M ++ [.slice (some ⟨g, 0, none⟩) r.length c])) (hgr : w.grownBy w3 v.ownBlock) (hb : v'.ownBlock = v.ownBlock ∨ ∃ z, v'.ownBlock = some z ∧ w.heap.size ≤ z) : OwnMx w3 base v' (R ++ [(g, c)]) (M ++ [r]) := by
  have keep : ∀ k a xs, IntsAt w k a xs → some k ≠ v.ownBlock → IntsAt w3 k a xs := fun k a xs hk hne j hj => by
    obtain ⟨h1, h2, h3, h4⟩ := hk j hj
    have e := hgr.block k h2 hne
    exact ⟨h1, Nat.lt_of_lt_of_le h2 hgr.size, by rw [World.cell?_of_block (w := w) e]; exact h3, by rw [World.frozen?_of_block (w := w) e]; exact h4⟩
  refine ⟨?_, by rw [List.length_append, List.length_append, h.len]; rfl, ?_, fun i hi => ?_, fun z hz => ?_⟩
  · rw [List.length_append, vals_snoc R M h.len]; exact ho
  · show (blks (R ++ [(g, c)])).Nodup
    rw [show blks (R ++ [(g, c)]) = blks R ++ [g] by simp [blks], List.nodup_append]
    exact ⟨h.nodup, by simp, fun x hx y hy e => by
      rw [List.mem_singleton] at hy; subst hy; subst e; exact hn hx⟩
  · rw [List.length_append] at hi
    by_cases e : i < M.length
    · obtain ⟨h1, h2, h3⟩ := h.rows i e
      simp only [blk] at h1 h2 h3 ⊢
      rw [blk_left _ (by rw [h.len]; exact e), row_left _ e]
      refine ⟨h1, Nat.lt_of_lt_of_le h2 hgr.size, keep _ _ _ h3 fun e' => h.apart _ e'.symm (blk_mem (by rw [h.len]; exact e))⟩
    · have hi' : i = M.length := by simp at hi; omega
      subst hi'
      simp only [blk]
      rw [← h.len, blk_last, h.len, row_last]
      exact ⟨hg, Nat.lt_of_lt_of_le hlt hgr.size, keep _ _ _ hr fun e => hv e.symm⟩
  · show z ∉ blks (R ++ [(g, c)])
    rw [show blks (R ++ [(g, c)]) = blks R ++ [g] by simp [blks], List.mem_append, List.mem_singleton]
    rintro (hm | rfl)
    · rcases hb with e | ⟨y, e, hy⟩
      · exact h.apart z (by rw [← e]; exact hz) hm
      · rw [e] at hz; cases hz
        obtain ⟨⟨a, b⟩, hx, rfl⟩ := List.mem_map.1 hm
        obtain ⟨i, hi, hx2⟩ := List.getElem_of_mem hx
        have := (h.rows i (by rw [← h.len]; exact hi)).2.1
        simp [blk, List.getD, List.getElem?_eq_getElem hi, hx2] at this
        dsimp only at hy
        omega
    · rcases hb with e | ⟨y, e, hy⟩
      · exact hv (by rw [← e]; exact hz)
      · rw [e] at hz; cases hz; omega

theorem OwnMx.old {w : World} {base : Nat} {v : Value} {R : List (Nat × Nat)} {M : Lin.Mat} (h : OwnMx w base v R M) {g : Nat} (hg : g ∈ blks R) : base ≤ g ∧ g < w.heap.size := by
  obtain ⟨⟨a, b⟩, hx, rfl⟩ := List.mem_map.1 hg
  obtain ⟨i, hi, hx2⟩ := List.getElem_of_mem hx
  have := h.rows i (by rw [← h.len]; exact hi)
  simp [blk, List.getD, List.getElem?_eq_getElem hi, hx2] at this
  exact ⟨this.1, this.2.1⟩
theorem OwnInts.known {w : World} {base g n c : Nat} {xs : List Int} (h : OwnInts w base (.slice (some ⟨g, 0, none⟩) n c) xs) : base ≤ g ∧ g < w.heap.size ∧ IntsAt w g (some ⟨g, 0, none⟩) xs ∧ n = xs.length := by
  have h' := h
  unfold OwnInts at h'
  obtain ⟨h1, h2⟩ := World.ownsRow.lt h' g rfl
  obtain ⟨a, c', g', he, _, hI⟩ := h.at
  have e : (some ⟨g, 0, none⟩ : Option Addr) = a ∧ n = xs.length := by cases he; exact ⟨rfl, rfl⟩
  refine ⟨h1, h2, ?_, e.2⟩
  rw [← e.1] at hI
  intro j hj
  obtain ⟨q1, q2, q3, q4⟩ := hI j hj
  have : g' = g := by cases q1; rfl
  subst this
  exact ⟨q1, q2, q3, q4⟩

theorem info_row : (Try.prog.info? 24).map (fun i => (i.zero, i.size, i.bytes)) = some (some (.slice none 0 0), 1, 24) := by kernel_rfl

end Go.Proofs.Ythobncbggaggjaa

/-! WALKS of chapter 6 (spec): cones and suspensions, the points of all facets. -/

namespace Go.Proofs.Ythobncbggaggjaa
open Go.RowKit
open Sets Join Lin Hom

theorem and_natJ : ∀ a b : Nat, a < 64 → b < 64 → bits BinOp.and IntKind.i64 (a : Int) (b : Int) = ((a &&& b : Nat) : Int) := by
  refine fin64b ?_
  decide +kernel
theorem joinO_le (n m : Int) (xs ys : List Int) : (oL (joinO n m xs ys)).length ≤ 64 := by
  unfold joinO
  cases h : joinOk n m xs ys
  · rw [partJ_no rfl]; exact Nat.zero_le _
  · rw [partJ_yes rfl]; exact maxQ_le _

set_option maxRecDepth 100000 in
set_option maxHeartbeats 4000000 in
theorem specCone_any (n : Int) (pa : Option Addr) (ca : Nat) (xs : List Int) (hlx : xs.length ≤ 1099511627776) (w : World) (hx : Ints w pa xs) :
    Calls Try.prog 19 #[cx n (.slice pa xs.length ca)] w fun e w' => ∃ v, e = .returned (.tuple #[cx (oN (joinO n 1 xs [1])) v, .bool (joinO n 1 xs [1]).isSome]) ∧ OwnInts w' w.heap.size v (oL (joinO n 1 xs [1])) ∧ Below w.heap.size w w' := by
  have hb0 : Below w.heap.size w (((w.alloc (.cells #[.int .i64 n, .slice pa xs.length ca] 26)).alloc (.cells #[.int .i64 0, .slice none 0 0] 26)).alloc (.cells #[.int .i64 1] 3)) := (((Below.refl _ _).alloc (Nat.le_refl _) _).alloc (by simp) _).alloc (by simp; omega) _
  have hta := ((Two.new w (.int .i64 n) (.slice pa xs.length ca) 26).alloc (.cells #[.int .i64 0, .slice none 0 0] 26))
  have htr := (Two.new (w.alloc (.cells #[.int .i64 n, .slice pa xs.length ca] 26)) (.int .i64 0) (.slice none 0 0) 26).alloc (.cells #[.int .i64 1] 3)
  have hys := (OwnInts.lit ((w.alloc (.cells #[.int .i64 n, .slice pa xs.length ca] 26)).alloc (.cells #[.int .i64 0, .slice none 0 0] 26)) 0 [1] (Nat.zero_le _) (by simp)).known.2.2.1
  simp only [World.size_alloc] at htr hys
  have TA := Lib.hid hta
  have TR := Lib.hid htr
  have HX := Lib.hid (hx.keeps hb0)
  have HY := Lib.hid hys.ints
  have HBV := Lib.hid hb0
  obtain ⟨ys, hyv⟩ : ∃ ys : List Int, ys = [1] := ⟨_, rfl⟩
  obtain ⟨k0, k1, k2, k3, k4⟩ := TA.out
  clear hx htr hys hb0 hta
  have HC := Lib.hid (fun (pb : Option Addr) (cb : Nat) (W : World) (h1 : Ints W pa xs) (h2 : Ints W pb [1]) => specJoin_any n 1 pa pb ca cb xs [1] hlx (by simp) W h1 h2)
  have hjl := joinO_le n 1 xs [1]
  obtain ⟨J, hJ⟩ : ∃ J, joinO n 1 xs [1] = J := ⟨_, rfl⟩
  rw [hJ] at HC hjl
  rw [hJ]
  clear hJ hyv
  go_enter Try.func19, Try.ntmps19
  go_wp2_with fail
  refine (HC.out _ _ _ HX.out HY.out).mono ?_
  rintro e w1 ⟨v, rfl, hO1, hb1⟩
  obtain ⟨a1, c1, g1, rfl, hc1, hg1, hr1, _⟩ := OwnInts.ata hO1 hb1.size
  have HB1 : Hid (Below w.heap.size w w1) := HBV.out.trans (hb1.mono HBV.out.size)
  have TR1 := Lib.hid (TR.out.keeps hb1)
  simp only [World.size_alloc] at hO1
  have HO1 := Lib.hid hO1
  have hz1 := hb1.size
  simp only [World.size_alloc] at hz1
  clear hO1 hr1 hb1 hg1 hc1 k0 k1 k2 k3 k4
  obtain ⟨r0, r1, r2, r3, r4⟩ := TR1.out
  go_wp2
  refine ret_cx2 (w.heap.size + 1) rfl rfl rfl (x := .int .i64 (oN J)) (y := .slice a1 (oL J).length c1) (by go_simp) (by go_simp) rfl ?_
  exact ⟨_, rfl, (OwnInts.alloc (OwnInts.set (OwnInts.set HO1.out _ _ _ (by omega)) _ _ _ (by omega)) _).lower (by omega), ((HB1.out.setCell (by dsimp only; omega) _).setCell (by dsimp only; omega) _).alloc (by simp [World.setCell]; omega) _⟩

set_option maxRecDepth 100000 in
set_option maxHeartbeats 4000000 in
theorem specSusp_any (n : Int) (pa : Option Addr) (ca : Nat) (xs : List Int) (hlx : xs.length ≤ 1099511627776) (w : World) (hx : Ints w pa xs) :
    Calls Try.prog 21 #[cx n (.slice pa xs.length ca)] w fun e w' => ∃ v, e = .returned (.tuple #[cx (oN (joinO n 2 xs [1, 2])) v, .bool (joinO n 2 xs [1, 2]).isSome]) ∧ OwnInts w' w.heap.size v (oL (joinO n 2 xs [1, 2])) ∧ Below w.heap.size w w' := by
  have hb0 : Below w.heap.size w (((w.alloc (.cells #[.int .i64 n, .slice pa xs.length ca] 26)).alloc (.cells #[.int .i64 0, .slice none 0 0] 26)).alloc (.cells #[.int .i64 1, .int .i64 2] 3)) := (((Below.refl _ _).alloc (Nat.le_refl _) _).alloc (by simp) _).alloc (by simp; omega) _
  have hta := ((Two.new w (.int .i64 n) (.slice pa xs.length ca) 26).alloc (.cells #[.int .i64 0, .slice none 0 0] 26))
  have htr := (Two.new (w.alloc (.cells #[.int .i64 n, .slice pa xs.length ca] 26)) (.int .i64 0) (.slice none 0 0) 26).alloc (.cells #[.int .i64 1, .int .i64 2] 3)
  have hys := (OwnInts.lit ((w.alloc (.cells #[.int .i64 n, .slice pa xs.length ca] 26)).alloc (.cells #[.int .i64 0, .slice none 0 0] 26)) 0 [1, 2] (Nat.zero_le _) (by simp)).known.2.2.1
  simp only [World.size_alloc] at htr hys
  have TA := Lib.hid hta
  have TR := Lib.hid htr
  have HX := Lib.hid (hx.keeps hb0)
  have HY := Lib.hid hys.ints
  have HBV := Lib.hid hb0
  obtain ⟨ys, hyv⟩ : ∃ ys : List Int, ys = [1, 2] := ⟨_, rfl⟩
  obtain ⟨k0, k1, k2, k3, k4⟩ := TA.out
  clear hx htr hys hb0 hta
  have HC := Lib.hid (fun (pb : Option Addr) (cb : Nat) (W : World) (h1 : Ints W pa xs) (h2 : Ints W pb [1, 2]) => specJoin_any n 2 pa pb ca cb xs [1, 2] hlx (by simp) W h1 h2)
  have hjl := joinO_le n 2 xs [1, 2]
  obtain ⟨J, hJ⟩ : ∃ J, joinO n 2 xs [1, 2] = J := ⟨_, rfl⟩
  rw [hJ] at HC hjl
  rw [hJ]
  clear hJ hyv
  go_enter Try.func21, Try.ntmps21
  go_wp2_with fail
  refine (HC.out _ _ _ HX.out HY.out).mono ?_
  rintro e w1 ⟨v, rfl, hO1, hb1⟩
  obtain ⟨a1, c1, g1, rfl, hc1, hg1, hr1, _⟩ := OwnInts.ata hO1 hb1.size
  have HB1 : Hid (Below w.heap.size w w1) := HBV.out.trans (hb1.mono HBV.out.size)
  have TR1 := Lib.hid (TR.out.keeps hb1)
  simp only [World.size_alloc] at hO1
  have HO1 := Lib.hid hO1
  have hz1 := hb1.size
  simp only [World.size_alloc] at hz1
  clear hO1 hr1 hb1 hg1 hc1 k0 k1 k2 k3 k4
  obtain ⟨r0, r1, r2, r3, r4⟩ := TR1.out
  go_wp2
  refine ret_cx2 (w.heap.size + 1) rfl rfl rfl (x := .int .i64 (oN J)) (y := .slice a1 (oL J).length c1) (by go_simp) (by go_simp) rfl ?_
  exact ⟨_, rfl, (OwnInts.alloc (OwnInts.set (OwnInts.set HO1.out _ _ _ (by omega)) _ _ _ (by omega)) _).lower (by omega), ((HB1.out.setCell (by dsimp only; omega) _).setCell (by dsimp only; omega) _).alloc (by simp [World.setCell]; omega) _⟩

set_option maxRecDepth 100000 in
set_option maxHeartbeats 4000000 in
theorem specPts_any (n : Int) (a : Option Addr) (c : Nat) (xs : List Int) (hlen : xs.length ≤ 1099511627776) (w : World) (h : Ints w a xs) :
    Calls Try.prog 28 #[cx n (.slice a xs.length c)] w fun e w' => e = .returned (.int .i64 (conePts n xs : Nat)) ∧ Below w.heap.size w w' := by
  have hb0 : Below w.heap.size w (w.alloc (Obj.cells #[Value.int IntKind.i64 n, Value.slice a xs.length c] 26)) := (Below.refl _ _).alloc (Nat.le_refl _) _
  have htwo := Two.new w (.int .i64 n) (.slice a xs.length c) 26
  have H := Lib.hid (h.keeps hb0)
  have HB0 := Lib.hid hb0
  have HT := Lib.hid htwo
  clear h hb0 htwo
  obtain ⟨t0, t1, t2, _, _⟩ := HT.out
  cases hC : isC n xs with
  | false =>
    have HC := Lib.hid hC
    have HE : Hid (conePts n xs = 0) := by show conePts n xs = 0; unfold conePts; rw [if_neg (by rw [hC]; simp)]
    clear hC
    go_enter Try.func28, Try.ntmps28
    go_wp2_with fail
    refine (specIsC_b n _ _ xs false HC.out hlen _ H.out).mono ?_
    rintro e w1 ⟨rfl, hb1⟩
    have HB1 : Hid (Below w.heap.size w w1) := HB0.out.trans (hb1.mono HB0.out.size)
    clear hb1
    go_wp2
    go_ret
    exact ⟨ret_int (by rw [HE.out]; rfl), HB1.out⟩
  | true =>
    have HC := Lib.hid hC
    have HN := Lib.hid (isC_nat hC)
    have hn := isC_n hC
    have hxl := isC_le hC
    clear hC
    go_enter Try.func28, Try.ntmps28
    go_wp2_with fail
    refine (specIsC_b n _ _ xs true HC.out hlen _ H.out).mono ?_
    rintro e w1 ⟨rfl, hb1⟩
    have HB1 : Hid (Below w.heap.size w w1) := HB0.out.trans (hb1.mono HB0.out.size)
    have HT1 := Lib.hid (HT.out.keeps hb1)
    have H1 := Lib.hid (H.out.keeps hb1)
    clear hb1 t0 t1 t2
    obtain ⟨t0, t1, t2, _, _⟩ := HT1.out
    by_cases h0 : 0 < xs.length
    · have HNE : Hid (xs ≠ []) := List.ne_nil_of_length_pos h0
      have h0d : ((xs.length : Int) == 0) = false := beq_eq_false_iff_ne.2 (by omega)
      have h0e : ¬((xs.length : Int) = 0) := by omega
      have hat : ∀ k, k < xs.length → ∃ f : Nat, xs.getD k 0 = (f : Int) ∧ f < 2 ^ n.toNat := fun k hk => HN.out _ (by simp only [List.getD, List.getElem?_eq_getElem hk, Option.getD_some]; exact List.getElem_mem hk)
      have h64 : ∀ f : Nat, f < 2 ^ n.toNat → f < 64 := fun f hf => Nat.lt_of_lt_of_le hf (Nat.pow_le_pow_right (n := 2) (by decide) (show n.toNat ≤ 6 by omega))
      have hlt64 : ∀ k, 0 < k → k ≤ xs.length → (xs.take k).foldl (fun a x => a &&& x.toNat) 63 < 64 := fun k hk hk2 => by
        have : ∀ (l : List Int) (a : Nat), a < 64 → l.foldl (fun a x => a &&& x.toNat) a < 64 := by
          intro l
          induction l with
          | nil => intro a ha; exact ha
          | cons x l ih => intro a ha; rw [List.foldl_cons]; exact ih _ (Nat.lt_of_le_of_lt Nat.and_le_left ha)
        exact this _ _ (by decide)
      have hstep : ∀ k, k < xs.length → (xs.take (k + 1)).foldl (fun a x => a &&& x.toNat) 63 = (xs.take k).foldl (fun a x => a &&& x.toNat) 63 &&& (xs.getD k 0).toNat := fun k hk => by
        rw [List.take_add_one, List.foldl_append]; simp [List.getD, List.getElem?_eq_getElem hk]
      have HAT := Lib.hid hat
      have H64 := Lib.hid h64
      have HLT := Lib.hid hlt64
      have HST := Lib.hid hstep
      obtain ⟨f0, hf0, hf0l⟩ := hat 0 h0
      obtain ⟨b0, o0, hae, g0⟩ := H1.out 0 h0
      rw [hf0, Nat.add_zero] at g0
      have HF0 := Lib.hid hf0
      have hz64 := h64 f0 hf0l
      have HA0 : Hid (63 &&& f0 = f0) := by
        show 63 &&& f0 = f0
        rw [Nat.and_comm, show 63 = 2 ^ 6 - 1 from rfl, Nat.and_two_pow_sub_one_eq_mod]; exact Nat.mod_eq_of_lt hz64
      have hae2 := hae
      subst hae
      clear hat h64 hlt64 hstep hf0 hf0l hae2
      go_wp2
      go_loop [3, 4] (fun s i => ∃ k : Nat, 1 ≤ k ∧ k ≤ xs.length ∧ i = .int .i64 (k : Int) ∧ s = .int .i64 ((xs.take k).foldl (fun a x => a &&& x.toNat) 63 : Nat)) (fun _ i => xs.length - (intOf i).toNat)
      case atStart =>
        refine ⟨1, Nat.le_refl _, h0, rfl, ?_⟩
        rw [HST.out 0 h0, HF0.out]
        show _ = Value.int .i64 ((63 &&& f0 : Nat) : Int)
        rw [HA0.out]
      case round =>
        obtain ⟨k, hk1, hk, rfl, rfl⟩ := hrel
        by_cases hlt : k < xs.length
        · obtain ⟨f, hf, hfl⟩ := HAT.out k hlt
          obtain ⟨b1, o1, hbe, g1⟩ := H1.out k hlt
          rw [hf] at g1
          have hs64 := HLT.out k (by omega) hk
          have hst := HST.out k hlt
          rw [hf] at hst
          have hf64 := H64.out f hfl
          obtain ⟨s, hs⟩ : ∃ s, (xs.take k).foldl (fun a x => a &&& x.toNat) 63 = s := ⟨_, rfl⟩
          rw [hs] at hs64 hst
          rw [hs]
          have hand := and_natJ s f hs64 hf64
          have HS := Lib.hid hst
          cases hbe
          clear hs hst hf
          go_wp2
          go_round
          case rel => exact ⟨k + 1, by omega, by omega, by go_num, by rw [HS.out]; first | rfl | (rw [hand]; rfl)⟩
          case measure => simp [intOf]; omega
        · have E := Lib.hid (show k = xs.length by omega)
          go_wp2
          go_ret
          refine ⟨ret_int ?_, HB1.out⟩
          unfold conePts
          rw [if_pos ⟨HC.out, HNE.out⟩, E.out, List.take_length]
    · have HE : Hid (conePts n xs = 0) := by show conePts n xs = 0; unfold conePts; rw [if_neg (by rintro ⟨_, h⟩; exact h0 (List.length_pos_iff.2 h))]
      have h0d : ((xs.length : Int) == 0) = true := beq_iff_eq.2 (by omega)
      go_wp2
      go_ret
      exact ⟨ret_int (by rw [HE.out]; rfl), HB1.out⟩

end Go.Proofs.Ythobncbggaggjaa

/-! WALK of chapter 6 (spec): cross complexes. -/

namespace Go.Proofs.Ythobncbggaggjaa
open Go.RowKit
open Sets Join Lin Hom

def crossP (kk s : Nat) : Bool := decide (s < 2 ^ (2 * kk)) && crossQ kk s
/-- The sets so far. -/
def crossTo (kk m : Nat) : List Int := ((List.range m).filter (crossQ kk)).map Int.ofNat
theorem crossTo_next (kk m : Nat) : crossTo kk (m + 1) = crossTo kk m ++ if crossQ kk m = true then [(m : Int)] else [] := by
  unfold crossTo
  rw [List.range_succ, List.filter_append, List.map_append]
  congr 1
  cases h : crossQ kk m <;> simp [h]
theorem crossTo_length (kk m : Nat) : (crossTo kk m).length ≤ m := by
  unfold crossTo; rw [List.length_map]; exact Nat.le_trans (List.length_filter_le _ _) (by simp)
theorem crossTo_ok (kk : Nat) (hk : kk ≤ 3) : allOk (crossTo kk (2 ^ (2 * kk))) = true := by
  unfold allOk crossTo
  rw [List.all_eq_true]
  intro x hx
  obtain ⟨s, hs, rfl⟩ := List.mem_map.1 hx
  have h1 := List.mem_range.1 (List.mem_filter.1 hs).1
  have h2 := Nat.pow_le_pow_right (n := 2) (by decide) (show 2 * kk ≤ 6 by omega)
  show okZ (s : Int) = true
  rw [okZ_nat]; omega
theorem cross_max1 : maximal (crossTo 1 4) = maxQ (crossP 1) := by decide +kernel
theorem cross_max2 : maximal (crossTo 2 16) = maxQ (crossP 2) := by decide +kernel
theorem cross_max3 : maximal (crossTo 3 64) = maxQ (crossP 3) := by decide +kernel
theorem crossQ_succ (i s : Nat) : crossQ (i + 1) s = (crossQ i s && !(s / 2 ^ (2 * i) % 4 == 3)) := by
  unfold crossQ; rw [List.range_succ, List.all_append]; simp

theorem shr_three (s i : Nat) (hs : s < 64) (hi : i < 3) : (bits BinOp.and IntKind.i64 ((s : Int) / 2 ^ (2 * i)) 3 != 3) = !(s / 2 ^ (2 * i) % 4 == 3) := by
  revert s
  rcases (by omega : i = 0 ∨ i = 1 ∨ i = 2) with rfl | rfl | rfl
  · refine fin64 ?_
    decide +kernel
  · refine fin64 ?_
    decide +kernel
  · refine fin64 ?_
    decide +kernel

set_option maxRecDepth 100000 in
set_option maxHeartbeats 4000000 in
theorem specCross_any (k : Int) (w : World) :
    Calls Try.prog 25 #[.int .i64 k] w fun e w' => ∃ v, e = .returned (.tuple #[cx (oN (crossO k)) v, .bool (crossO k).isSome]) ∧ OwnInts w' w.heap.size v (oL (crossO k)) ∧ Below w.heap.size w w' := by
  obtain ⟨i0, hi, hz0, hz1, hz2⟩ := info_parts info_int
  have hb0 : Below w.heap.size w (w.alloc (.cells #[.int .i64 0, .slice none 0 0] 26)) := (Below.refl _ _).alloc (Nat.le_refl _) _
  have htr := Two.new w (.int .i64 0) (.slice none 0 0) 26
  have TR := Lib.hid htr
  have HBV := Lib.hid hb0
  clear hb0 htr
  cases hk : inB 1 3 k with
  | false =>
    have HK := Lib.hid hk
    rw [show crossO k = none from partJ_no hk]
    clear hk
    obtain ⟨r0, r1, r2, r3, r4⟩ := TR.out
    go_enter Try.func25, Try.ntmps25
    go_wp2_with fail
    refine (in_b k 1 3 false HK.out _).mono ?_
    rintro e w1 ⟨rfl, rfl⟩
    go_wp2
    refine ret_cx2 w.heap.size rfl rfl rfl (x := .int .i64 0) (y := .slice none 0 0) (by go_simp) (by go_simp) rfl ?_
    exact ⟨_, rfl, OwnInts.nil _ _, by first | exact (HBV.out.setCell (by dsimp only; omega) _).setCell (by dsimp only; omega) _ | exact HBV.out⟩
  | true =>
    have HK := Lib.hid hk
    rw [show crossO k = some (2 * k, maxQ fun s => decide (s < 2 ^ (2 * k.toNat)) && crossQ k.toNat s) from partJ_yes hk]
    obtain ⟨h1, h3⟩ := (inB_iff _ _ _).1 hk
    obtain ⟨kk, rfl⟩ : ∃ kk : Nat, k = (kk : Int) := ⟨k.toNat, by omega⟩
    rw [show ((kk : Int)).toNat = kk from rfl]
    clear hk
    go_enter Try.func25, Try.ntmps25
    go_wp2_with fail
    refine (in_b (kk : Int) 1 3 true HK.out _).mono ?_
    rintro e w1 ⟨rfl, rfl⟩
    obtain ⟨N, hN⟩ : ∃ N : Nat, 2 ^ (2 * kk) = N := ⟨_, rfl⟩
    have h64 : N ≤ 64 := by rw [← hN]; exact Nat.pow_le_pow_right (n := 2) (by decide) (show 2 * kk ≤ 6 by omega)
    have hsh : wrap64 ((2 : Int) ^ (2 * kk)) = (N : Int) := by
      rw [show (2 : Int) ^ (2 * kk) = (N : Int) by rw [← hN]; push_cast; rfl]; exact IntWalk.wrap64_in _ (by omega)
    have HN := Lib.hid hN
    have HO0 := Lib.hid (OwnInts.lit (w.alloc (.cells #[.int .i64 0, .slice none 0 0] 26)) (w.heap.size + 1) [] (by simp) (by simp))
    rw [World.size_alloc] at HO0
    clear hN
    go_wp2
    go_loopw [4, 5] (fun v i wr => ∃ s : Nat, s ≤ N ∧ i = .int .i64 (s : Int) ∧ OwnInts wr (w.heap.size + 1) v (crossTo kk s) ∧ Below (w.heap.size + 1) (w.alloc (.cells #[.int .i64 0, .slice none 0 0] 26)) wr) (fun _ i _ => 64 - (intOf i).toNat)
    case atStart => exact ⟨0, Nat.zero_le _, rfl, HO0.out, (Below.refl _ _).alloc (by simp) _⟩
    case round =>
      clear HO0
      obtain ⟨s, hs, rfl, hO, hB⟩ := hrel
      have HO := Lib.hid hO
      have HB := Lib.hid hB
      have hsz := hB.size
      rw [World.size_alloc] at hsz
      obtain ⟨wo, rfl⟩ : ∃ wo : World, wo = wr := ⟨_, rfl⟩
      clear hO hB
      by_cases hlt : s < N
      · go_wp2
        go_loop [6, 7] (fun b i => ∃ i1 : Nat, i1 ≤ kk ∧ i = .int .i64 (i1 : Int) ∧ b = .bool (crossQ i1 s)) (fun _ i => kk - (intOf i).toNat)
        case atStart => exact ⟨0, Nat.zero_le _, rfl, rfl⟩
        case round =>
          obtain ⟨i1, hi1, rfl, rfl⟩ := hrel
          by_cases hli : i1 < kk
          · cases hq : crossQ i1 s with
            | false =>
              have HQ := Lib.hid hq
              clear hq
              go_wp2
              go_round
              case rel => exact ⟨i1 + 1, by omega, by go_num, by rw [crossQ_succ, HQ.out]; rfl⟩
              case measure => simp [intOf]; omega
            | true =>
              have HQ := Lib.hid hq
              have HS := Lib.hid (shr_three s i1 (by omega) (by omega))
              clear hq
              go_wp2
              go_round
              case rel => exact ⟨i1 + 1, by omega, by go_num, by rw [crossQ_succ, HQ.out, Bool.true_and, ← HS.out]⟩
              case measure => simp [intOf]; omega
          · have E := Lib.hid (show i1 = kk by omega)
            cases hq : crossQ i1 s with
            | false =>
              have HQ : Hid (crossQ kk s = false) := by show crossQ kk s = false; rw [← E.out]; exact hq
              clear hq
              go_wp2
              go_roundw
              case rel =>
                refine ⟨s + 1, by omega, by go_num, ?_, HB.out⟩
                rw [crossTo_next, HQ.out]
                simpa using HO.out
              case measure => simp [intOf]; omega
            | true =>
              have HQ : Hid (crossQ kk s = true) := by show crossQ kk s = true; rw [← E.out]; exact hq
              have hl := crossTo_length kk s
              have HO3 := Lib.hid HO.out
              unfold OwnInts at HO3
              clear hq
              go_wp2_with (at_builtin; refine wpList_append_own_at _ rfl _ _ 24 rfl (w.heap.size + 1) 3 i0 (.int .i64 0) 1 8 Try.underlying24 hi hz0 hz1 hz2 rfl (by decide) _ _ _ rfl (HO3.out.alloc _) ⟨wo.heap.size, 0, none⟩ 1 1 [.int .i64 (s : Int)] rfl rfl ?c1 ?c2 ?c3 ?c4 ?c5 ?_)
              case c2 => rfl
              case c3 => unfold maxLen; omega
              case c4 => omega
              case c5 => omega
              intro v' w3 hown1 hgrow _ hob
              have hB3 := (HB.out.alloc hsz (.cells #[.int .i64 (s : Int)] 3)).grown hgrow (by simp; omega) (fun g hg => (HO3.out.lt g hg).1)
              have hO5 : OwnInts w3 (w.heap.size + 1) v' (crossTo kk (s + 1)) := by
                rw [crossTo_next, HQ.out]
                exact OwnInts.next hown1
              have HO5 := Lib.hid hO5
              have HB5 := Lib.hid hB3
              clear hown1 hgrow hob hO5 hB3
              go_wp2
              go_roundw
              case rel => exact ⟨s + 1, by omega, by go_num, HO5.out, HB5.out⟩
              case measure => simp [intOf]; omega
      · have HE : Hid (OwnInts wo (w.heap.size + 1) u4 (crossTo kk (2 ^ (2 * kk)))) := Lib.hid (by rw [HN.out, ← show s = N by omega]; exact HO.out)
        have hcl : Hid ((crossTo kk (2 ^ (2 * kk))).length ≤ 64) := Nat.le_trans (crossTo_length _ _) (by rw [HN.out]; exact h64)
        have HMX : Hid (maximal (crossTo kk (2 ^ (2 * kk))) = maxQ (crossP kk)) := by
          show maximal _ = _
          rcases (by omega : kk = 1 ∨ kk = 2 ∨ kk = 3) with rfl | rfl | rfl
          · exact cross_max1
          · exact cross_max2
          · exact cross_max3
        have HOK := Lib.hid (crossTo_ok kk (by omega))
        obtain ⟨L, hL⟩ : ∃ L, crossTo kk (2 ^ (2 * kk)) = L := ⟨_, rfl⟩
        rw [hL] at HE hcl HMX HOK
        clear hL HO
        obtain ⟨a1, c1, g1x, rfl, hg1x, hr1⟩ := OwnInts.at HE.out
        have R1 := Lib.hid hr1
        have R0 := Lib.hid (TR.out.keeps (HB.out.mono (by simp)))
        clear hr1 HE
        go_wp2_with fail
        refine (l3Make_any (2 * (kk : Int)) _ _ L HOK.out (Nat.le_trans hcl.out (by decide)) _ R1.out.ints).mono ?_
        rw [HMX.out]
        rintro e w6 ⟨v, rfl, hO2, hb6⟩
        obtain ⟨a2, c2x, g2, rfl, hc2, hg2, hr2, _⟩ := OwnInts.ata hO2 hb6.size
        obtain ⟨r0, r1, r2, r3, r4⟩ := R0.out.keeps hb6
        have HO2 := Lib.hid (OwnInts.lower hO2 hsz)
        have HB6 : Hid (Below w.heap.size w w6) := HBV.out.trans ((HB.out.trans (hb6.mono hsz)).mono (by simp))
        clear hO2 hr2 hb6
        go_wp2
        refine ret_cx2 w.heap.size rfl rfl rfl (x := .int .i64 (2 * (kk : Int))) (y := .slice a2 (maxQ (crossP kk)).length c2x) (by go_simp) (by go_simp) rfl ?_
        exact ⟨_, rfl, (OwnInts.set (OwnInts.set HO2.out _ _ _ (by omega)) _ _ _ (by omega)).lower (by omega), (HB6.out.setCell (by dsimp only; omega) _).setCell (by dsimp only; omega) _⟩

end Go.Proofs.Ythobncbggaggjaa
