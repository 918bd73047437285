/-
  TEXTS of one claim, put together: WNamS5, Mx2, Mx3, WPartS.
-/
import Derived.Test.YtbkkdgmiokdbmaaGreatJg18
import Derived.Test.YtbkkdgmiokdbmaaGreatJg2
import Derived.Laws.OwnMore
import Derived.Deep.AppendLies
import Derived.Maps.AppendAt
import Derived.Test.YtbkkdgmiokdbmaaGreatJg15
import Derived.Test.YtbkkdgmiokdbmaaGreatJg10
import Derived.Test.YtbkkdgmiokdbmaaGreatJg1
/-! WALKS: spec's chapter 9: lists by their first difference. -/

namespace Go.Proofs.YtbkkdgmiokdbmaaGreat
open Go.RowKit
open Sets Nam

theorem less_at : ∀ (xs ys : List Int) (k : Nat), k < xs.length → k < ys.length → (∀ j, j < k → xs.getD j 0 = ys.getD j 0) → xs.getD k 0 ≠ ys.getD k 0 → lessL xs ys = decide (xs.getD k 0 < ys.getD k 0)
  | [], _, k, h, _, _, _ => absurd h (Nat.not_lt_zero _)
  | _ :: _, [], k, _, h, _, _ => absurd h (Nat.not_lt_zero _)
  | x :: xs, y :: ys, 0, _, _, _, hne => by
    show (if x ≠ y then decide (x < y) else lessL xs ys) = decide (x < y)
    have hne : x ≠ y := hne
    rw [if_pos hne]
  | x :: xs, y :: ys, k + 1, h1, h2, he, hne => by
    have h0 : x = y := he 0 (Nat.succ_pos _)
    show (if x ≠ y then decide (x < y) else lessL xs ys) = _
    rw [if_neg (fun h => h h0), less_at xs ys k (by simpa using h1) (by simpa using h2) (fun j hj => he (j + 1) (by omega)) hne]
    rfl
theorem less_end : ∀ (xs ys : List Int) (k : Nat), (∀ j, j < k → xs.getD j 0 = ys.getD j 0) → k ≤ xs.length → k ≤ ys.length → (¬ k < xs.length ∨ ¬ k < ys.length) → lessL xs ys = false
  | [], _, k, _, _, _, _ => by unfold lessL; rfl
  | _ :: _, [], k, _, _, _, _ => by unfold lessL; rfl
  | x :: xs, y :: ys, 0, _, _, _, h => by simp at h
  | x :: xs, y :: ys, k + 1, he, h1, h2, h => by
    have h0 : x = y := he 0 (Nat.succ_pos _)
    show (if x ≠ y then decide (x < y) else lessL xs ys) = false
    rw [if_neg (fun h => h h0)]
    exact less_end xs ys k (fun j hj => he (j + 1) (by omega)) (by simpa using h1) (by simpa using h2) (by simpa using h)

set_option maxRecDepth 100000 in
set_option maxHeartbeats 1000000 in
theorem l9Less_any (a1 : Option Addr) (c1 : Nat) (xs : List Int) (a2 : Option Addr) (c2 : Nat) (ys : List Int) (hl1 : xs.length ≤ 1099511627776) (b : Bool) (hb : lessL xs ys = b) (w : World) (h1 : Ints w a1 xs) (h2 : Ints w a2 ys) :
    Calls Tryz.prog 52 #[.slice a1 xs.length c1, .slice a2 ys.length c2] w fun e w' => e = .returned (.bool b) ∧ ∃ n, w' = w.drewN n := by
  have HX := Lib.hid h1
  have HY := Lib.hid h2
  have HB := Lib.hid hb
  clear h1 h2 hb
  go_enter Tryz.func52, Tryz.ntmps52
  go_wp2
  go_loopw [5] (fun i wr => ∃ k nn : Nat, k ≤ xs.length ∧ k ≤ ys.length ∧ i = .int .i64 (k : Int) ∧ (∀ j, j < k → xs.getD j 0 = ys.getD j 0) ∧ wr = w.drewN nn) (fun i _ => xs.length - (intOf i).toNat)
  case atStart => exact ⟨0, 0, Nat.zero_le _, Nat.zero_le _, rfl, fun j hj => absurd hj (Nat.not_lt_zero _), rfl⟩
  case round =>
    obtain ⟨k, nn, hk1, hk2, rfl, hq, rfl⟩ := hrel
    have HQ := Lib.hid hq
    clear hq
    by_cases hx : k < xs.length
    · by_cases hy : k < ys.length
      · obtain ⟨b1, o1, rfl, g1⟩ := HX.out k hx
        obtain ⟨b2, o2, rfl, g2⟩ := HY.out k hy
        obtain ⟨x, hxe⟩ : ∃ x, xs.getD k 0 = x := ⟨_, rfl⟩
        obtain ⟨y, hye⟩ : ∃ y, ys.getD k 0 = y := ⟨_, rfl⟩
        rw [hxe] at g1
        rw [hye] at g2
        have HXE := Lib.hid hxe
        have HYE := Lib.hid hye
        clear hxe hye
        by_cases hxy : x = y
        · have hne : (x == y) = true := by rw [beq_iff_eq]; exact hxy
          have HXY := Lib.hid hxy
          clear hxy
          go_wp2
          go_quiet (fail)
          go_wp2
          go_roundw
          case rel =>
            refine ⟨k + 1, nn + nq, by omega, by omega, by go_num, fun j hj => ?_, rfl⟩
            by_cases e : j = k
            · subst e; rw [HXE.out, HYE.out, HXY.out]
            · exact HQ.out j (by omega)
          case measure => simp [intOf]; omega
        · have hne : (x == y) = false := by rw [beq_eq_false_iff_ne]; exact hxy
          have HL : Hid (decide (x < y) = b) := by
            have := less_at xs ys k hx hy HQ.out (by rw [HXE.out, HYE.out]; exact hxy)
            rw [HB.out, HXE.out, HYE.out] at this
            exact this.symm
          clear hxy
          go_wp2
          go_quiet (fail)
          go_wp2
          go_quiet (fail)
          go_wp2
          go_ret
          exact ⟨by rw [HL.out]; rfl, _, by rw [World.drewN_drewN, World.drewN_drewN]⟩
      · have HR : Hid (b = false) := by
          have : b = false := by rw [← HB.out]; exact less_end xs ys k HQ.out hk1 hk2 (.inr hy)
          exact this
        go_wp2
        go_ret
        exact ⟨by rw [HR.out]; rfl, nn, rfl⟩
    · have HR : Hid (b = false) := by
        have : b = false := by rw [← HB.out]; exact less_end xs ys k HQ.out hk1 hk2 (.inl hx)
        exact this
      go_wp2
      go_ret
      exact ⟨by rw [HR.out]; rfl, nn, rfl⟩

end Go.Proofs.YtbkkdgmiokdbmaaGreat

/-! MEMORY: a matrix that the call builds row by row. -/

namespace Go.Proofs.YtbkkdgmiokdbmaaGreat
open Go.RowKit

def vals (R : List (Nat × Nat)) (M : Lin.Mat) : List Value := (List.range M.length).map fun i => .slice (some ⟨blk R i, 0, none⟩) (Lin.row M i).length (room R i)
theorem vals_length (R : List (Nat × Nat)) (M : Lin.Mat) : (vals R M).length = M.length := by simp [vals]
theorem vals_at (R : List (Nat × Nat)) (M : Lin.Mat) (i : Nat) (h : i < M.length) : (vals R M)[i]? = some (.slice (some ⟨blk R i, 0, none⟩) (Lin.row M i).length (room R i)) := by
  unfold vals; rw [List.getElem?_map, List.getElem?_range h]; rfl
theorem blk_left {R : List (Nat × Nat)} {i : Nat} (x : Nat × Nat) (h : i < R.length) : (R ++ [x]).getD i (0, 0) = R.getD i (0, 0) := by
  simp [List.getD, List.getElem?_append_left h]
theorem blk_last {R : List (Nat × Nat)} (x : Nat × Nat) : (R ++ [x]).getD R.length (0, 0) = x := by simp [List.getD]
theorem row_left {M : Lin.Mat} {i : Nat} (r : List Int) (h : i < M.length) : Lin.row (M ++ [r]) i = Lin.row M i := by
  unfold Lin.row; simp [List.getD, List.getElem?_append_left h]
theorem row_last {M : Lin.Mat} (r : List Int) : Lin.row (M ++ [r]) M.length = r := by unfold Lin.row; simp [List.getD]
theorem vals_snoc (R : List (Nat × Nat)) (M : Lin.Mat) (h : R.length = M.length) (g c : Nat) (r : List Int) : vals (R ++ [(g, c)]) (M ++ [r]) = vals R M ++ [.slice (some ⟨g, 0, none⟩) r.length c] := by
  unfold vals
  rw [List.length_append, List.length_singleton, List.range_succ, List.map_append]
  congr 1
  · refine List.map_congr_left fun i hi => ?_
    have hi := List.mem_range.1 hi
    simp only [blk, room]
    rw [blk_left _ (by omega), row_left _ hi]
  · simp only [List.map_cons, List.map_nil, blk, room]
    rw [← h, blk_last, h, row_last]

structure OwnMx (w : World) (base : Nat) (v : Value) (R : List (Nat × Nat)) (M : Lin.Mat) : Prop where
  own : w.ownsRow base 24 1 v M.length (vals R M)
  len : R.length = M.length
  nodup : (blks R).Nodup
  rows : ∀ i, i < M.length → base ≤ blk R i ∧ blk R i < w.heap.size ∧ IntsAt w (blk R i) (some ⟨blk R i, 0, none⟩) (Lin.row M i)
  apart : ∀ g, v.ownBlock = some g → g ∉ blks R

theorem OwnMx.lit (w : World) (base : Nat) (h : base ≤ w.heap.size) : OwnMx (w.alloc (.cells #[] 24)) base (.slice (some ⟨w.heap.size, 0, none⟩) 0 0) [] [] := by
  refine ⟨?_, rfl, by simp, fun i hi => absurd hi (Nat.not_lt_zero _), fun _ _ => by simp⟩
  have h1 := World.ownsRow_lit (base := base) (e := 24) (size := 1) w #[] 0 h (by unfold maxLen; omega) (by simp)
  simpa [vals] using h1
theorem OwnMx.keeps {w w' : World} {base : Nat} {v : Value} {R : List (Nat × Nat)} {M : Lin.Mat} (h : OwnMx w base v R M) (hb : Below w.heap.size w w') : OwnMx w' base v R M := by
  refine ⟨World.ownsRow.kept (row := none) h.own ⟨hb.os, hb.tape, hb.output, hb.size, fun k hk _ => hb.block k hk⟩ ?_, h.len, h.nodup, fun i hi => ?_, h.apart⟩
  · cases v.ownBlock <;> simp
  · obtain ⟨h1, h2, h3⟩ := h.rows i hi
    exact ⟨h1, Nat.lt_of_lt_of_le h2 hb.size, h3.keeps hb⟩
theorem OwnMx.lower {w : World} {base b : Nat} {v : Value} {R : List (Nat × Nat)} {M : Lin.Mat} (h : OwnMx w base v R M) (hb : b ≤ base) : OwnMx w b v R M := by
  refine ⟨⟨h.own.1, ?_⟩, h.len, h.nodup, fun i hi => ⟨Nat.le_trans hb (h.rows i hi).1, (h.rows i hi).2⟩, h.apart⟩
  rcases h.own.2 with h0 | ⟨g, cap, cur, hv, h1, hr⟩
  · exact .inl h0
  · exact .inr ⟨g, cap, cur, hv, by omega, hr⟩
/-- Out of what is owned: the matrix. -/
theorem OwnMx.mx {w : World} {base : Nat} {v : Value} {R : List (Nat × Nat)} {M : Lin.Mat} (h : OwnMx w base v R M) : ∃ go ao co, v = .slice ao M.length co ∧ (0 < M.length → base ≤ go ∧ go < w.heap.size) ∧ Mx w go ao R M := by
  rcases h.own.2 with ⟨hv, h0⟩ | ⟨g, cap, cur, hv, hb, _⟩
  · have hM : M = [] := List.eq_nil_of_length_eq_zero h0
    subst hM
    have hR : R = [] := List.eq_nil_of_length_eq_zero h.len
    subst hR
    exact ⟨0, none, 0, by rw [hv]; rfl, fun h => absurd h (Nat.lt_irrefl 0), ⟨rfl, by simp, fun i hi => absurd hi (Nat.not_lt_zero _), fun i hi => absurd hi (Nat.not_lt_zero _), by simp⟩⟩
  · subst hv
    obtain ⟨h1, h2⟩ := World.ownsRow.lt h.own g rfl
    refine ⟨g, some ⟨g, 0, none⟩, cap, rfl, fun _ => ⟨h1, h2⟩, ⟨h.len, h.nodup, fun i hi => ⟨rfl, h2, ?_, World.ownsRow.frozenAt h.own i⟩, fun i hi => (h.rows i hi).2, h.apart g rfl⟩⟩
    rw [World.ownsRow.cellAt h.own i (by omega), vals_at R M i hi]
/-- A row is appended. -/
theorem OwnMx.next {w w3 : World} {base : Nat} {v v' : Value} {R : List (Nat × Nat)} {M : Lin.Mat} (h : OwnMx w base v R M) {g c : Nat} {r : List Int} (hg : base ≤ g) (hlt : g < w.heap.size) (hr : IntsAt w g (some ⟨g, 0, none⟩) r) (hn : g ∉ blks R) (hv : v.ownBlock ≠ some g)
    (ho : w3.ownsRow base 24 1 v' (M.length + 1) (vals R M ++ [.slice (some ⟨g, 0, none⟩) r.length c])) (hgr : w.grownBy w3 v.ownBlock) (hb : v'.ownBlock = v.ownBlock ∨ ∃ z, v'.ownBlock = some z ∧ w.heap.size ≤ z) : OwnMx w3 base v' (R ++ [(g, c)]) (M ++ [r]) := by
  have keep : ∀ k a xs, IntsAt w k a xs → some k ≠ v.ownBlock → IntsAt w3 k a xs := fun k a xs hk hne j hj => by
    obtain ⟨h1, h2, h3, h4⟩ := hk j hj
    have e := hgr.block k h2 hne
    exact ⟨h1, Nat.lt_of_lt_of_le h2 hgr.size, by rw [World.cell?_of_block (w := w) e]; exact h3, by rw [World.frozen?_of_block (w := w) e]; exact h4⟩
  refine ⟨?_, by rw [List.length_append, List.length_append, h.len]; rfl, ?_, fun i hi => ?_, fun z hz => ?_⟩
  · rw [List.length_append, vals_snoc R M h.len]; exact ho
  · show (blks (R ++ [(g, c)])).Nodup
    rw [show blks (R ++ [(g, c)]) = blks R ++ [g] by simp [blks], List.nodup_append]
    exact ⟨h.nodup, by simp, fun x hx y hy e => by
      rw [List.mem_singleton] at hy; subst hy; subst e; exact hn hx⟩
  · rw [List.length_append] at hi
    by_cases e : i < M.length
    · obtain ⟨h1, h2, h3⟩ := h.rows i e
      simp only [blk] at h1 h2 h3 ⊢
      rw [blk_left _ (by rw [h.len]; exact e), row_left _ e]
      refine ⟨h1, Nat.lt_of_lt_of_le h2 hgr.size, keep _ _ _ h3 fun e' => h.apart _ e'.symm (blk_mem (by rw [h.len]; exact e))⟩
    · have hi' : i = M.length := by simp at hi; omega
      subst hi'
      simp only [blk]
      rw [← h.len, blk_last, h.len, row_last]
      exact ⟨hg, Nat.lt_of_lt_of_le hlt hgr.size, keep _ _ _ hr fun e => hv e.symm⟩
  · show z ∉ blks (R ++ [(g, c)])
    rw [show blks (R ++ [(g, c)]) = blks R ++ [g] by simp [blks], List.mem_append, List.mem_singleton]
    rintro (hm | rfl)
    · rcases hb with e | ⟨y, e, hy⟩
      · exact h.apart z (by rw [← e]; exact hz) hm
      · rw [e] at hz; cases hz
        obtain ⟨⟨a, b⟩, hx, rfl⟩ := List.mem_map.1 hm
        obtain ⟨i, hi, hx2⟩ := List.getElem_of_mem hx
        have := (h.rows i (by rw [← h.len]; exact hi)).2.1
        simp [blk, List.getD, List.getElem?_eq_getElem hi, hx2] at this
        dsimp only at hy
        omega
    · rcases hb with e | ⟨y, e, hy⟩
      · exact hv (by rw [← e]; exact hz)
      · rw [e] at hz; cases hz; omega

theorem OwnMx.old {w : World} {base : Nat} {v : Value} {R : List (Nat × Nat)} {M : Lin.Mat} (h : OwnMx w base v R M) {g : Nat} (hg : g ∈ blks R) : base ≤ g ∧ g < w.heap.size := by
  obtain ⟨⟨a, b⟩, hx, rfl⟩ := List.mem_map.1 hg
  obtain ⟨i, hi, hx2⟩ := List.getElem_of_mem hx
  have := h.rows i (by rw [← h.len]; exact hi)
  simp [blk, List.getD, List.getElem?_eq_getElem hi, hx2] at this
  exact ⟨this.1, this.2.1⟩
theorem OwnInts.known {w : World} {base g n c : Nat} {xs : List Int} (h : OwnInts w base (.slice (some ⟨g, 0, none⟩) n c) xs) : base ≤ g ∧ g < w.heap.size ∧ IntsAt w g (some ⟨g, 0, none⟩) xs ∧ n = xs.length := by
  have h' := h
  unfold OwnInts at h'
  obtain ⟨h1, h2⟩ := World.ownsRow.lt h' g rfl
  obtain ⟨a, c', g', he, _, hI⟩ := h.at
  have e : (some ⟨g, 0, none⟩ : Option Addr) = a ∧ n = xs.length := by cases he; exact ⟨rfl, rfl⟩
  refine ⟨h1, h2, ?_, e.2⟩
  rw [← e.1] at hI
  intro j hj
  obtain ⟨q1, q2, q3, q4⟩ := hI j hj
  have : g' = g := by cases q1; rfl
  subst this
  exact ⟨q1, q2, q3, q4⟩

theorem info_row : (Tryz.prog.info? 24).map (fun i => (i.zero, i.size, i.bytes)) = some (some (.slice none 0 0), 1, 24) := by kernel_rfl

end Go.Proofs.YtbkkdgmiokdbmaaGreat

/-! MEMORY: rows of a matrix exchanged; what a matrix keeps while another row grows. -/

namespace Go.Proofs.YtbkkdgmiokdbmaaGreat
open Go.RowKit

def swapR (R : List (Nat × Nat)) (a d : Nat) : List (Nat × Nat) := (R.set a (R.getD d (0, 0))).set d (R.getD a (0, 0))
theorem swapR_length (R : List (Nat × Nat)) (a d : Nat) : (swapR R a d).length = R.length := by simp [swapR]
theorem swapR_at (R : List (Nat × Nat)) (a d j : Nat) (ha : a < R.length) (hd : d < R.length) : (swapR R a d).getD j (0, 0) = R.getD (if j = d then a else if j = a then d else j) (0, 0) := by
  unfold swapR
  by_cases e : j = d
  · subst e; simp [List.getD, ha, hd]
  · rw [if_neg e]
    by_cases e' : j = a
    · subst e'
      rw [if_pos rfl]
      simp only [List.getD, List.getElem?_set, List.length_set]
      rw [if_neg (fun h => e h.symm)]
      simp [ha]
    · rw [if_neg e']
      simp only [List.getD, List.getElem?_set, List.length_set]
      rw [if_neg (fun h => e h.symm), if_neg (fun h => e' h.symm)]
theorem blk_of_mem {R : List (Nat × Nat)} {g : Nat} (h : g ∈ blks R) : ∃ i, i < R.length ∧ blk R i = g := by
  obtain ⟨⟨a, b⟩, hx, rfl⟩ := List.mem_map.1 h
  obtain ⟨i, hi, hx2⟩ := List.getElem_of_mem hx
  exact ⟨i, hi, by simp [blk, List.getD, List.getElem?_eq_getElem hi, hx2]⟩
def flip2 (a d j : Nat) : Nat := if j = d then a else if j = a then d else j
theorem flip2_lt {a d j m : Nat} (ha : a < m) (hd : d < m) (hj : j < m) : flip2 a d j < m := by unfold flip2; split <;> (try split) <;> assumption
theorem flip2_flip (a d j : Nat) : flip2 a d (flip2 a d j) = j := by
  unfold flip2
  by_cases h1 : j = d
  · subst h1; rw [if_pos rfl]; by_cases h2 : a = j
    · rw [if_pos h2, h2]
    · rw [if_neg h2, if_pos rfl]
  · rw [if_neg h1]
    by_cases h2 : j = a
    · subst h2; rw [if_pos rfl, if_pos rfl]
    · rw [if_neg h2, if_neg h1, if_neg h2]
theorem flip2_inj {a d i j : Nat} (h : flip2 a d i = flip2 a d j) : i = j := by rw [← flip2_flip a d i, h, flip2_flip]
theorem swapR_mem {R : List (Nat × Nat)} {a d : Nat} (ha : a < R.length) (hd : d < R.length) (g : Nat) : g ∈ blks (swapR R a d) ↔ g ∈ blks R := by
  constructor
  · intro h
    obtain ⟨i, hi, rfl⟩ := blk_of_mem h
    rw [swapR_length] at hi
    have := blk_mem (R := R) (flip2_lt ha hd hi)
    rw [show blk (swapR R a d) i = blk R (flip2 a d i) from congrArg Prod.fst (swapR_at R a d i ha hd)]; exact this
  · intro h
    obtain ⟨i, hi, rfl⟩ := blk_of_mem h
    have hlt : flip2 a d i < (swapR R a d).length := by rw [swapR_length]; exact flip2_lt ha hd hi
    have := blk_mem hlt
    rw [show blk (swapR R a d) (flip2 a d i) = blk R (flip2 a d (flip2 a d i)) from congrArg Prod.fst (swapR_at R a d _ ha hd), flip2_flip] at this
    exact this
theorem swapR_nodup {R : List (Nat × Nat)} {a d : Nat} (ha : a < R.length) (hd : d < R.length) (h : (blks R).Nodup) : (blks (swapR R a d)).Nodup := by
  have e : ∀ (Q : List (Nat × Nat)) j, (hj : j < Q.length) → (blks Q)[j]'(by simpa using hj) = blk Q j := fun Q j hj => by simp [blk, blks, List.getD, List.getElem?_eq_getElem hj]
  unfold List.Nodup
  rw [List.pairwise_iff_getElem]
  intro i j hi hj hij he
  have hi' : i < (swapR R a d).length := by simpa using hi
  have hj' : j < (swapR R a d).length := by simpa using hj
  rw [e _ i hi', e _ j hj'] at he
  rw [show blk (swapR R a d) i = blk R (flip2 a d i) from congrArg Prod.fst (swapR_at R a d i ha hd), show blk (swapR R a d) j = blk R (flip2 a d j) from congrArg Prod.fst (swapR_at R a d j ha hd)] at he
  rw [swapR_length] at hi' hj'
  have := flip2_inj (blk_inj h (flip2_lt ha hd hi') (flip2_lt ha hd hj') he)
  omega

/-- Two rows are exchanged. -/
theorem Mx.swap {w : World} {go : Nat} {ao : Option Addr} {R : List (Nat × Nat)} {M : Lin.Mat} (h : Mx w go ao R M) {a d : Nat} (ha : a < M.length) (hd : d < M.length) :
    Mx ((w.setCell ⟨go, a, none⟩ (.slice (some ⟨blk R d, 0, none⟩) (Lin.row M d).length (room R d))).setCell ⟨go, d, none⟩ (.slice (some ⟨blk R a, 0, none⟩) (Lin.row M a).length (room R a))) go ao (swapR R a d) (Lin.swap M a d) := by
  have haR : a < R.length := by rw [h.len]; exact ha
  have hdR : d < R.length := by rw [h.len]; exact hd
  have hrow : ∀ j, Lin.row (Lin.swap M a d) j = Lin.row M (flip2 a d j) := fun j => Lin.swap_row M a d j ha hd
  have hR : ∀ j, (swapR R a d).getD j (0, 0) = R.getD (flip2 a d j) (0, 0) := fun j => swapR_at R a d j haR hdR
  have hsz : ((w.setCell ⟨go, a, none⟩ (.slice (some ⟨blk R d, 0, none⟩) (Lin.row M d).length (room R d))).setCell ⟨go, d, none⟩ (.slice (some ⟨blk R a, 0, none⟩) (Lin.row M a).length (room R a))).heap.size = w.heap.size := by simp [World.setCell]
  refine ⟨by rw [swapR_length, Lin.swap_length]; exact h.len, swapR_nodup haR hdR h.nodup, fun i hi => ?_, fun i hi => ?_, fun hm => h.apart ((swapR_mem haR hdR go).1 hm)⟩
  · rw [Lin.swap_length] at hi
    obtain ⟨h1, h2, h3, h4⟩ := h.out i hi
    refine ⟨h1, by rw [hsz]; exact h2, ?_, by rw [World.frozen?_setCell, World.frozen?_setCell]; exact h4⟩
    simp only [blk, room]
    rw [hrow, hR]
    unfold flip2
    by_cases e : i = d
    · rw [if_pos e, e]
      have hne := (h.out d hd).2.2.1
      by_cases e2 : a = d
      · subst e2
        exact World.cell?_setCell_same _ _ _ (World.cell?_setCell_same _ _ _ hne)
      · exact World.cell?_setCell_same _ _ _ ((World.cell?_setCell_other _ _ _ _ (by simp)).trans hne)
    · rw [if_neg e]
      rw [World.cell?_setCell_other _ _ _ _ (by simp)]
      by_cases e2 : i = a
      · subst e2
        rw [if_pos rfl]
        exact World.cell?_setCell_same _ _ _ h3
      · rw [if_neg e2, World.cell?_setCell_other _ _ _ _ (by simp)]
        exact h3
  · rw [Lin.swap_length] at hi
    obtain ⟨h1, h2⟩ := h.rows _ (flip2_lt ha hd hi)
    simp only [blk] at h1 h2 ⊢
    rw [hrow, hR]
    refine ⟨by rw [hsz]; exact h1, ?_⟩
    refine IntsAt.only (G := [go]) h2 ((Only.set [go] w a (by simp) _).trans (Only.set [go] _ d (by simp) _)) ?_
    rw [List.mem_singleton]
    intro e
    exact h.apart (by rw [← e]; exact blk_mem (R := R) (by rw [h.len]; exact flip2_lt ha hd hi))

theorem Mx.grown {w w' : World} {go : Nat} {ao : Option Addr} {R : List (Nat × Nat)} {M : Lin.Mat} (h : Mx w go ao R M) {b : Option Nat} (hg : w.grownBy w' b) (hb : ∀ g, b = some g → g ≠ go ∧ g ∉ blks R) : Mx w' go ao R M := by
  have hk : ∀ k, k < w.heap.size → (k = go ∨ k ∈ blks R) → w'.heap[k]? = w.heap[k]? := fun k hk hor => hg.block k hk fun e => by
    obtain ⟨h1, h2⟩ := hb k e.symm
    rcases hor with e | e
    · exact h1 e
    · exact h2 e
  refine ⟨h.len, h.nodup, fun i hi => ?_, fun i hi => ?_, h.apart⟩
  · obtain ⟨h1, h2, h3, h4⟩ := h.out i hi
    have e := hk go h2 (.inl rfl)
    exact ⟨h1, Nat.lt_of_lt_of_le h2 hg.size, by rw [World.cell?_of_block (w := w) e]; exact h3, by rw [World.frozen?_of_block (w := w) e]; exact h4⟩
  · obtain ⟨h1, h2⟩ := h.rows i hi
    have e := hk _ h1 (.inr (blk_mem (by rw [h.len]; exact hi)))
    refine ⟨Nat.lt_of_lt_of_le h1 hg.size, fun j hj => ?_⟩
    obtain ⟨q1, q2, q3, q4⟩ := h2 j hj
    exact ⟨q1, Nat.lt_of_lt_of_le q2 hg.size, by rw [World.cell?_of_block (w := w) e]; exact q3, by rw [World.frozen?_of_block (w := w) e]; exact q4⟩
theorem OwnInts.only {w w' : World} {G : List Nat} {base : Nat} {v : Value} {xs : List Int} (h : OwnInts w base v xs) (k : Only G w w') (hv : ∀ g, v.ownBlock = some g → g ∉ G) : OwnInts w' base v xs := by
  unfold OwnInts at *
  refine ⟨h.1, ?_⟩
  rcases h.2 with h0 | ⟨g, cap, cur, hv', h1, hh, hr⟩
  · exact .inl h0
  · refine .inr ⟨g, cap, cur, hv', h1, ?_, hr⟩
    have hlt : g < w.heap.size := by
      rcases Nat.lt_or_ge g w.heap.size with hl | hl
      · exact hl
      · rw [Array.getElem?_eq_none hl] at hh; cases hh
    rw [k.block g hlt (hv g (by rw [hv']; rfl))]; exact hh
theorem Mx.old {w : World} {go : Nat} {ao : Option Addr} {R : List (Nat × Nat)} {M : Lin.Mat} (h : Mx w go ao R M) {g : Nat} (hg : g ∈ blks R) : g < w.heap.size := by
  obtain ⟨i, hi, rfl⟩ := blk_of_mem hg
  exact (h.rows i (by rw [← h.len]; exact hi)).1

end Go.Proofs.YtbkkdgmiokdbmaaGreat

/-! WALKS: spec's chapter 5 (written by genpart.py). -/

namespace Go.Proofs.YtbkkdgmiokdbmaaGreat
open Go.RowKit
open Sets

theorem and_meet (f s : Nat) (hf : f < 64) (hs : s < 64) : bits BinOp.and IntKind.i64 (f : Int) (s : Int) = meetZ s (f : Int) := by
  have H : ∀ a b : Nat, a < 64 → b < 64 → bits BinOp.and IntKind.i64 (a : Int) (b : Int) = ((a &&& b : Nat) : Int) := by
    refine fin64b ?_
    decide +kernel
  exact H f s hf hs
theorem isC_at2 {xs : List Int} (h : allOk xs = true) (j : Nat) (hj : j < xs.length) : ∃ s : Nat, xs.getD j 0 = (s : Int) ∧ s < 64 :=
  okZ_cast _ (by unfold allOk at h; exact List.all_eq_true.1 h _ (by rw [List.getD, List.getElem?_eq_getElem hj]; exact List.getElem_mem hj))
/-- What writes into another row leave. -/
theorem IntsAt.off {w w' : World} {g : Nat} {row : Option Nat} {a : Option Addr} {xs : List Int} (h : IntsAt w g a xs) (hg : w.grownBy w' row) (hne : row ≠ some g) : IntsAt w' g a xs := fun j hj => by
  obtain ⟨e, hl, hc, hf⟩ := h j hj
  have hb := hg.block g hl (Ne.symm hne)
  have := hg.size
  exact ⟨e, by omega, by rw [World.cell?_of_block (w := w) (w' := w') (a := ⟨g, j, none⟩) hb]; exact hc, by rw [World.frozen?_of_block (w := w) (w' := w') (a := ⟨g, j, none⟩) hb]; exact hf⟩
theorem size_ok (n : Int) (xs : List Int) : allOk (faces n xs) = true := by
  unfold faces; split
  · exact ord_ok _
  · rfl
theorem l2Size_v (s p : Nat) (hp : pc s = p) (hs : s < 64) (w : World) : Calls Tryz.prog 59 #[.int .i64 (s : Int)] w fun e w' => e = .returned (.int .i64 (p : Int)) ∧ w = w' := by
  subst hp; exact l2Size_any s hs w

theorem partO_no {ok : Bool} {n : Int} {q : Nat → Bool} (h : ok = false) : partO ok n q = none := by unfold partO; rw [if_neg (by rw [h]; simp)]
theorem partO_yes {ok : Bool} {n : Int} {q : Nat → Bool} (h : ok = true) : partO ok n q = some (n, maxQ q) := by unfold partO; rw [if_pos h]


end Go.Proofs.YtbkkdgmiokdbmaaGreat
