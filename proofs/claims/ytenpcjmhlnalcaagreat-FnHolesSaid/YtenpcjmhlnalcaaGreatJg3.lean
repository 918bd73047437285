/-
  TEXTS of one claim, put together: Mx2, Mx3, MatP, Part.
-/
import Derived.Test.YtenpcjmhlnalcaaGreatJg2
import Derived.Laws.OwnMore
import Derived.Deep.AppendLies
import Derived.Maps.AppendAt
import Derived.Laws.MakeOwn
import Derived.Test.YtenpcjmhlnalcaaGreatJg1
/-! MEMORY: a matrix that the call builds row by row. -/

namespace Go.Proofs.YtenpcjmhlnalcaaGreat
open Go.RowKit

def vals (R : List (Nat × Nat)) (M : Lin.Mat) : List Value := (List.range M.length).map fun i => .slice (some ⟨blk R i, 0, none⟩) (Lin.row M i).length (room R i)
theorem vals_length (R : List (Nat × Nat)) (M : Lin.Mat) : (vals R M).length = M.length := by simp [vals]
theorem vals_at (R : List (Nat × Nat)) (M : Lin.Mat) (i : Nat) (h : i < M.length) : (vals R M)[i]? = some (.slice (some ⟨blk R i, 0, none⟩) (Lin.row M i).length (room R i)) := by
  unfold vals; rw [List.getElem?_map, List.getElem?_range h]; rfl
theorem blk_left {R : List (Nat × Nat)} {i : Nat} (x : Nat × Nat) (h : i < R.length) : (R ++ [x]).getD i (0, 0) = R.getD i (0, 0) := by
  simp [List.getD, List.getElem?_append_left h]
theorem blk_last {R : List (Nat × Nat)} (x : Nat × Nat) : (R ++ [x]).getD R.length (0, 0) = x := by simp [List.getD]
theorem row_left {M : Lin.Mat} {i : Nat} (r : List Int) (h : i < M.length) : Lin.row (M ++ [r]) i = Lin.row M i := by
  unfold Lin.row; simp [List.getD, List.getElem?_append_left h]
theorem row_last {M : Lin.Mat} (r : List Int) : Lin.row (M ++ [r]) M.length = r := by unfold Lin.row; simp [List.getD]
theorem vals_snoc (R : List (Nat × Nat)) (M : Lin.Mat) (h : R.length = M.length) (g c : Nat) (r : List Int) : vals (R ++ [(g, c)]) (M ++ [r]) = vals R M ++ [.slice (some ⟨g, 0, none⟩) r.length c] := by
  unfold vals
  rw [List.length_append, List.length_singleton, List.range_succ, List.map_append]
  congr 1
  · refine List.map_congr_left fun i hi => ?_
    have hi := List.mem_range.1 hi
    simp only [blk, room]
    rw [blk_left _ (by omega), row_left _ hi]
  · simp only [List.map_cons, List.map_nil, blk, room]
    rw [← h, blk_last, h, row_last]

structure OwnMx (w : World) (base : Nat) (v : Value) (R : List (Nat × Nat)) (M : Lin.Mat) : Prop where
  own : w.ownsRow base 24 1 v M.length (vals R M)
  len : R.length = M.length
  nodup : (blks R).Nodup
  rows : ∀ i, i < M.length → base ≤ blk R i ∧ blk R i < w.heap.size ∧ IntsAt w (blk R i) (some ⟨blk R i, 0, none⟩) (Lin.row M i)
  apart : ∀ g, v.ownBlock = some g → g ∉ blks R

theorem OwnMx.lit (w : World) (base : Nat) (h : base ≤ w.heap.size) : OwnMx (w.alloc (.cells #[] 24)) base (.slice (some ⟨w.heap.size, 0, none⟩) 0 0) [] [] := by
  refine ⟨?_, rfl, by simp, fun i hi => absurd hi (Nat.not_lt_zero _), fun _ _ => by simp⟩
  have h1 := World.ownsRow_lit (base := base) (e := 24) (size := 1) w #[] 0 h (by unfold maxLen; omega) (by simp)
  simpa [vals] using h1
theorem OwnMx.keeps {w w' : World} {base : Nat} {v : Value} {R : List (Nat × Nat)} {M : Lin.Mat} (h : OwnMx w base v R M) (hb : Below w.heap.size w w') : OwnMx w' base v R M := by
  refine ⟨World.ownsRow.kept (row := none) h.own ⟨hb.os, hb.tape, hb.output, hb.size, fun k hk _ => hb.block k hk⟩ ?_, h.len, h.nodup, fun i hi => ?_, h.apart⟩
  · cases v.ownBlock <;> simp
  · obtain ⟨h1, h2, h3⟩ := h.rows i hi
    exact ⟨h1, Nat.lt_of_lt_of_le h2 hb.size, h3.keeps hb⟩
theorem OwnMx.lower {w : World} {base b : Nat} {v : Value} {R : List (Nat × Nat)} {M : Lin.Mat} (h : OwnMx w base v R M) (hb : b ≤ base) : OwnMx w b v R M := by
  refine ⟨⟨h.own.1, ?_⟩, h.len, h.nodup, fun i hi => ⟨Nat.le_trans hb (h.rows i hi).1, (h.rows i hi).2⟩, h.apart⟩
  rcases h.own.2 with h0 | ⟨g, cap, cur, hv, h1, hr⟩
  · exact .inl h0
  · exact .inr ⟨g, cap, cur, hv, by omega, hr⟩
/-- Out of what is owned: the matrix. -/
theorem OwnMx.mx {w : World} {base : Nat} {v : Value} {R : List (Nat × Nat)} {M : Lin.Mat} (h : OwnMx w base v R M) : ∃ go ao co, v = .slice ao M.length co ∧ (0 < M.length → base ≤ go ∧ go < w.heap.size) ∧ Mx w go ao R M := by
  rcases h.own.2 with ⟨hv, h0⟩ | ⟨g, cap, cur, hv, hb, _⟩
  · have hM : M = [] := List.eq_nil_of_length_eq_zero h0
    subst hM
    have hR : R = [] := List.eq_nil_of_length_eq_zero h.len
    subst hR
    exact ⟨0, none, 0, by rw [hv]; rfl, fun h => absurd h (Nat.lt_irrefl 0), ⟨rfl, by simp, fun i hi => absurd hi (Nat.not_lt_zero _), fun i hi => absurd hi (Nat.not_lt_zero _), by simp⟩⟩
  · subst hv
    obtain ⟨h1, h2⟩ := World.ownsRow.lt h.own g rfl
    refine ⟨g, some ⟨g, 0, none⟩, cap, rfl, fun _ => ⟨h1, h2⟩, ⟨h.len, h.nodup, fun i hi => ⟨rfl, h2, ?_, World.ownsRow.frozenAt h.own i⟩, fun i hi => (h.rows i hi).2, h.apart g rfl⟩⟩
    rw [World.ownsRow.cellAt h.own i (by omega), vals_at R M i hi]
/-- A row is appended. -/
theorem OwnMx.next {w w3 : World} {base : Nat} {v v' : Value} {R : List (Nat × Nat)} {M : Lin.Mat} (h : OwnMx w base v R M) {g c : Nat} {r : List Int} (hg : base ≤ g) (hlt : g < w.heap.size) (hr : IntsAt w g (some ⟨g, 0, none⟩) r) (hn : g ∉ blks R) (hv : v.ownBlock ≠ some g)
    (ho : w3.ownsRow base 24 1 v' (M.length + 1) (vals R M ++ [.slice (some ⟨g, 0, none⟩) r.length c])) (hgr : w.grownBy w3 v.ownBlock) (hb : v'.ownBlock = v.ownBlock ∨ ∃ z, v'.ownBlock = some z ∧ w.heap.size ≤ z) : OwnMx w3 base v' (R ++ [(g, c)]) (M ++ [r]) := by
  have keep : ∀ k a xs, IntsAt w k a xs → some k ≠ v.ownBlock → IntsAt w3 k a xs := fun k a xs hk hne j hj => by
    obtain ⟨h1, h2, h3, h4⟩ := hk j hj
    have e := hgr.block k h2 hne
    exact ⟨h1, Nat.lt_of_lt_of_le h2 hgr.size, by rw [World.cell?_of_block (w := w) e]; exact h3, by rw [World.frozen?_of_block (w := w) e]; exact h4⟩
  refine ⟨?_, by rw [List.length_append, List.length_append, h.len]; rfl, ?_, fun i hi => ?_, fun z hz => ?_⟩
  · rw [List.length_append, vals_snoc R M h.len]; exact ho
  · show (blks (R ++ [(g, c)])).Nodup
    rw [show blks (R ++ [(g, c)]) = blks R ++ [g] by simp [blks], List.nodup_append]
    exact ⟨h.nodup, by simp, fun x hx y hy e => by
      rw [List.mem_singleton] at hy; subst hy; subst e; exact hn hx⟩
  · rw [List.length_append] at hi
    by_cases e : i < M.length
    · obtain ⟨h1, h2, h3⟩ := h.rows i e
      simp only [blk] at h1 h2 h3 ⊢
      rw [blk_left _ (by rw [h.len]; exact e), row_left _ e]
      refine ⟨h1, Nat.lt_of_lt_of_le h2 hgr.size, keep _ _ _ h3 fun e' => h.apart _ e'.symm (blk_mem (by rw [h.len]; exact e))⟩
    · have hi' : i = M.length := by simp at hi; omega
      subst hi'
      simp only [blk]
      rw [← h.len, blk_last, h.len, row_last]
      exact ⟨hg, Nat.lt_of_lt_of_le hlt hgr.size, keep _ _ _ hr fun e => hv e.symm⟩
  · show z ∉ blks (R ++ [(g, c)])
    rw [show blks (R ++ [(g, c)]) = blks R ++ [g] by simp [blks], List.mem_append, List.mem_singleton]
    rintro (hm | rfl)
    · rcases hb with e | ⟨y, e, hy⟩
      · exact h.apart z (by rw [← e]; exact hz) hm
      · rw [e] at hz; cases hz
        obtain ⟨⟨a, b⟩, hx, rfl⟩ := List.mem_map.1 hm
        obtain ⟨i, hi, hx2⟩ := List.getElem_of_mem hx
        have := (h.rows i (by rw [← h.len]; exact hi)).2.1
        simp [blk, List.getD, List.getElem?_eq_getElem hi, hx2] at this
        dsimp only at hy
        omega
    · rcases hb with e | ⟨y, e, hy⟩
      · exact hv (by rw [← e]; exact hz)
      · rw [e] at hz; cases hz; omega

theorem OwnMx.old {w : World} {base : Nat} {v : Value} {R : List (Nat × Nat)} {M : Lin.Mat} (h : OwnMx w base v R M) {g : Nat} (hg : g ∈ blks R) : base ≤ g ∧ g < w.heap.size := by
  obtain ⟨⟨a, b⟩, hx, rfl⟩ := List.mem_map.1 hg
  obtain ⟨i, hi, hx2⟩ := List.getElem_of_mem hx
  have := h.rows i (by rw [← h.len]; exact hi)
  simp [blk, List.getD, List.getElem?_eq_getElem hi, hx2] at this
  exact ⟨this.1, this.2.1⟩
theorem OwnInts.known {w : World} {base g n c : Nat} {xs : List Int} (h : OwnInts w base (.slice (some ⟨g, 0, none⟩) n c) xs) : base ≤ g ∧ g < w.heap.size ∧ IntsAt w g (some ⟨g, 0, none⟩) xs ∧ n = xs.length := by
  have h' := h
  unfold OwnInts at h'
  obtain ⟨h1, h2⟩ := World.ownsRow.lt h' g rfl
  obtain ⟨a, c', g', he, _, hI⟩ := h.at
  have e : (some ⟨g, 0, none⟩ : Option Addr) = a ∧ n = xs.length := by cases he; exact ⟨rfl, rfl⟩
  refine ⟨h1, h2, ?_, e.2⟩
  rw [← e.1] at hI
  intro j hj
  obtain ⟨q1, q2, q3, q4⟩ := hI j hj
  have : g' = g := by cases q1; rfl
  subst this
  exact ⟨q1, q2, q3, q4⟩

theorem info_row : (Tryz.prog.info? 24).map (fun i => (i.zero, i.size, i.bytes)) = some (some (.slice none 0 0), 1, 24) := by kernel_rfl

end Go.Proofs.YtenpcjmhlnalcaaGreat

/-! MEMORY: rows of a matrix exchanged; what a matrix keeps while another row grows. -/

namespace Go.Proofs.YtenpcjmhlnalcaaGreat
open Go.RowKit

def swapR (R : List (Nat × Nat)) (a d : Nat) : List (Nat × Nat) := (R.set a (R.getD d (0, 0))).set d (R.getD a (0, 0))
theorem swapR_length (R : List (Nat × Nat)) (a d : Nat) : (swapR R a d).length = R.length := by simp [swapR]
theorem swapR_at (R : List (Nat × Nat)) (a d j : Nat) (ha : a < R.length) (hd : d < R.length) : (swapR R a d).getD j (0, 0) = R.getD (if j = d then a else if j = a then d else j) (0, 0) := by
  unfold swapR
  by_cases e : j = d
  · subst e; simp [List.getD, ha, hd]
  · rw [if_neg e]
    by_cases e' : j = a
    · subst e'
      rw [if_pos rfl]
      simp only [List.getD, List.getElem?_set, List.length_set]
      rw [if_neg (fun h => e h.symm)]
      simp [ha]
    · rw [if_neg e']
      simp only [List.getD, List.getElem?_set, List.length_set]
      rw [if_neg (fun h => e h.symm), if_neg (fun h => e' h.symm)]
theorem blk_of_mem {R : List (Nat × Nat)} {g : Nat} (h : g ∈ blks R) : ∃ i, i < R.length ∧ blk R i = g := by
  obtain ⟨⟨a, b⟩, hx, rfl⟩ := List.mem_map.1 h
  obtain ⟨i, hi, hx2⟩ := List.getElem_of_mem hx
  exact ⟨i, hi, by simp [blk, List.getD, List.getElem?_eq_getElem hi, hx2]⟩
def flip2 (a d j : Nat) : Nat := if j = d then a else if j = a then d else j
theorem flip2_lt {a d j m : Nat} (ha : a < m) (hd : d < m) (hj : j < m) : flip2 a d j < m := by unfold flip2; split <;> (try split) <;> assumption
theorem flip2_flip (a d j : Nat) : flip2 a d (flip2 a d j) = j := by
  unfold flip2
  by_cases h1 : j = d
  · subst h1; rw [if_pos rfl]; by_cases h2 : a = j
    · rw [if_pos h2, h2]
    · rw [if_neg h2, if_pos rfl]
  · rw [if_neg h1]
    by_cases h2 : j = a
    · subst h2; rw [if_pos rfl, if_pos rfl]
    · rw [if_neg h2, if_neg h1, if_neg h2]
theorem flip2_inj {a d i j : Nat} (h : flip2 a d i = flip2 a d j) : i = j := by rw [← flip2_flip a d i, h, flip2_flip]
theorem swapR_mem {R : List (Nat × Nat)} {a d : Nat} (ha : a < R.length) (hd : d < R.length) (g : Nat) : g ∈ blks (swapR R a d) ↔ g ∈ blks R := by
  constructor
  · intro h
    obtain ⟨i, hi, rfl⟩ := blk_of_mem h
    rw [swapR_length] at hi
    have := blk_mem (R := R) (flip2_lt ha hd hi)
    rw [show blk (swapR R a d) i = blk R (flip2 a d i) from congrArg Prod.fst (swapR_at R a d i ha hd)]; exact this
  · intro h
    obtain ⟨i, hi, rfl⟩ := blk_of_mem h
    have hlt : flip2 a d i < (swapR R a d).length := by rw [swapR_length]; exact flip2_lt ha hd hi
    have := blk_mem hlt
    rw [show blk (swapR R a d) (flip2 a d i) = blk R (flip2 a d (flip2 a d i)) from congrArg Prod.fst (swapR_at R a d _ ha hd), flip2_flip] at this
    exact this
theorem swapR_nodup {R : List (Nat × Nat)} {a d : Nat} (ha : a < R.length) (hd : d < R.length) (h : (blks R).Nodup) : (blks (swapR R a d)).Nodup := by
  have e : ∀ (Q : List (Nat × Nat)) j, (hj : j < Q.length) → (blks Q)[j]'(by simpa using hj) = blk Q j := fun Q j hj => by simp [blk, blks, List.getD, List.getElem?_eq_getElem hj]
  unfold List.Nodup
  rw [List.pairwise_iff_getElem]
  intro i j hi hj hij he
  have hi' : i < (swapR R a d).length := by simpa using hi
  have hj' : j < (swapR R a d).length := by simpa using hj
  rw [e _ i hi', e _ j hj'] at he
  rw [show blk (swapR R a d) i = blk R (flip2 a d i) from congrArg Prod.fst (swapR_at R a d i ha hd), show blk (swapR R a d) j = blk R (flip2 a d j) from congrArg Prod.fst (swapR_at R a d j ha hd)] at he
  rw [swapR_length] at hi' hj'
  have := flip2_inj (blk_inj h (flip2_lt ha hd hi') (flip2_lt ha hd hj') he)
  omega

/-- Two rows are exchanged. -/
theorem Mx.swap {w : World} {go : Nat} {ao : Option Addr} {R : List (Nat × Nat)} {M : Lin.Mat} (h : Mx w go ao R M) {a d : Nat} (ha : a < M.length) (hd : d < M.length) :
    Mx ((w.setCell ⟨go, a, none⟩ (.slice (some ⟨blk R d, 0, none⟩) (Lin.row M d).length (room R d))).setCell ⟨go, d, none⟩ (.slice (some ⟨blk R a, 0, none⟩) (Lin.row M a).length (room R a))) go ao (swapR R a d) (Lin.swap M a d) := by
  have haR : a < R.length := by rw [h.len]; exact ha
  have hdR : d < R.length := by rw [h.len]; exact hd
  have hrow : ∀ j, Lin.row (Lin.swap M a d) j = Lin.row M (flip2 a d j) := fun j => Lin.swap_row M a d j ha hd
  have hR : ∀ j, (swapR R a d).getD j (0, 0) = R.getD (flip2 a d j) (0, 0) := fun j => swapR_at R a d j haR hdR
  have hsz : ((w.setCell ⟨go, a, none⟩ (.slice (some ⟨blk R d, 0, none⟩) (Lin.row M d).length (room R d))).setCell ⟨go, d, none⟩ (.slice (some ⟨blk R a, 0, none⟩) (Lin.row M a).length (room R a))).heap.size = w.heap.size := by simp [World.setCell]
  refine ⟨by rw [swapR_length, Lin.swap_length]; exact h.len, swapR_nodup haR hdR h.nodup, fun i hi => ?_, fun i hi => ?_, fun hm => h.apart ((swapR_mem haR hdR go).1 hm)⟩
  · rw [Lin.swap_length] at hi
    obtain ⟨h1, h2, h3, h4⟩ := h.out i hi
    refine ⟨h1, by rw [hsz]; exact h2, ?_, by rw [World.frozen?_setCell, World.frozen?_setCell]; exact h4⟩
    simp only [blk, room]
    rw [hrow, hR]
    unfold flip2
    by_cases e : i = d
    · rw [if_pos e, e]
      have hne := (h.out d hd).2.2.1
      by_cases e2 : a = d
      · subst e2
        exact World.cell?_setCell_same _ _ _ (World.cell?_setCell_same _ _ _ hne)
      · exact World.cell?_setCell_same _ _ _ ((World.cell?_setCell_other _ _ _ _ (by simp)).trans hne)
    · rw [if_neg e]
      rw [World.cell?_setCell_other _ _ _ _ (by simp)]
      by_cases e2 : i = a
      · subst e2
        rw [if_pos rfl]
        exact World.cell?_setCell_same _ _ _ h3
      · rw [if_neg e2, World.cell?_setCell_other _ _ _ _ (by simp)]
        exact h3
  · rw [Lin.swap_length] at hi
    obtain ⟨h1, h2⟩ := h.rows _ (flip2_lt ha hd hi)
    simp only [blk] at h1 h2 ⊢
    rw [hrow, hR]
    refine ⟨by rw [hsz]; exact h1, ?_⟩
    refine IntsAt.only (G := [go]) h2 ((Only.set [go] w a (by simp) _).trans (Only.set [go] _ d (by simp) _)) ?_
    rw [List.mem_singleton]
    intro e
    exact h.apart (by rw [← e]; exact blk_mem (R := R) (by rw [h.len]; exact flip2_lt ha hd hi))

theorem Mx.grown {w w' : World} {go : Nat} {ao : Option Addr} {R : List (Nat × Nat)} {M : Lin.Mat} (h : Mx w go ao R M) {b : Option Nat} (hg : w.grownBy w' b) (hb : ∀ g, b = some g → g ≠ go ∧ g ∉ blks R) : Mx w' go ao R M := by
  have hk : ∀ k, k < w.heap.size → (k = go ∨ k ∈ blks R) → w'.heap[k]? = w.heap[k]? := fun k hk hor => hg.block k hk fun e => by
    obtain ⟨h1, h2⟩ := hb k e.symm
    rcases hor with e | e
    · exact h1 e
    · exact h2 e
  refine ⟨h.len, h.nodup, fun i hi => ?_, fun i hi => ?_, h.apart⟩
  · obtain ⟨h1, h2, h3, h4⟩ := h.out i hi
    have e := hk go h2 (.inl rfl)
    exact ⟨h1, Nat.lt_of_lt_of_le h2 hg.size, by rw [World.cell?_of_block (w := w) e]; exact h3, by rw [World.frozen?_of_block (w := w) e]; exact h4⟩
  · obtain ⟨h1, h2⟩ := h.rows i hi
    have e := hk _ h1 (.inr (blk_mem (by rw [h.len]; exact hi)))
    refine ⟨Nat.lt_of_lt_of_le h1 hg.size, fun j hj => ?_⟩
    obtain ⟨q1, q2, q3, q4⟩ := h2 j hj
    exact ⟨q1, Nat.lt_of_lt_of_le q2 hg.size, by rw [World.cell?_of_block (w := w) e]; exact q3, by rw [World.frozen?_of_block (w := w) e]; exact q4⟩
theorem OwnInts.only {w w' : World} {G : List Nat} {base : Nat} {v : Value} {xs : List Int} (h : OwnInts w base v xs) (k : Only G w w') (hv : ∀ g, v.ownBlock = some g → g ∉ G) : OwnInts w' base v xs := by
  unfold OwnInts at *
  refine ⟨h.1, ?_⟩
  rcases h.2 with h0 | ⟨g, cap, cur, hv', h1, hh, hr⟩
  · exact .inl h0
  · refine .inr ⟨g, cap, cur, hv', h1, ?_, hr⟩
    have hlt : g < w.heap.size := by
      rcases Nat.lt_or_ge g w.heap.size with hl | hl
      · exact hl
      · rw [Array.getElem?_eq_none hl] at hh; cases hh
    rw [k.block g hlt (hv g (by rw [hv']; rfl))]; exact hh
theorem Mx.old {w : World} {go : Nat} {ao : Option Addr} {R : List (Nat × Nat)} {M : Lin.Mat} (h : Mx w go ao R M) {g : Nat} (hg : g ∈ blks R) : g < w.heap.size := by
  obtain ⟨i, hi, rfl⟩ := blk_of_mem hg
  exact (h.rows i (by rw [← h.len]; exact hi)).1

end Go.Proofs.YtenpcjmhlnalcaaGreat

/-! MEMORY: a matrix behind a pointer (a box that holds a slice of rows of its own). -/

namespace Go.Proofs.YtenpcjmhlnalcaaGreat
open Go.RowKit

/-- The box P holds the matrix M, whose rows lie in the blocks R. -/
structure MP (w : World) (base P : Nat) (v : Value) (R : List (Nat × Nat)) (M : Lin.Mat) : Prop where
  cell : w.cell? ⟨P, 0, none⟩ = some v
  soft : w.frozen? ⟨P, 0, none⟩ = false
  low : base ≤ P
  lt : P < w.heap.size
  own : OwnMx w base v R M
  off : v.ownBlock ≠ some P
  offR : P ∉ blks R

theorem MP.keeps {w w' : World} {base P : Nat} {v : Value} {R : List (Nat × Nat)} {M : Lin.Mat} (h : MP w base P v R M) (hb : Below w.heap.size w w') : MP w' base P v R M :=
  ⟨by rw [hb.cell (p := ⟨P, 0, none⟩) h.lt]; exact h.cell, by rw [hb.frozen (p := ⟨P, 0, none⟩) h.lt]; exact h.soft, h.low, Nat.lt_of_lt_of_le h.lt hb.size, h.own.keeps hb, h.off, h.offR⟩
theorem MP.lower {w : World} {base b P : Nat} {v : Value} {R : List (Nat × Nat)} {M : Lin.Mat} (h : MP w base P v R M) (hb : b ≤ base) : MP w b P v R M :=
  ⟨h.cell, h.soft, Nat.le_trans hb h.low, h.lt, h.own.lower hb, h.off, h.offR⟩
theorem OwnMx.nil (w : World) (base : Nat) : OwnMx w base (.slice none 0 0) [] [] :=
  ⟨World.ownsRow_nil _ _ _ _, rfl, by simp, fun i hi => absurd hi (Nat.not_lt_zero _), fun _ _ => by simp⟩
theorem MP.new (w : World) (base : Nat) (hb : base ≤ w.heap.size) (t : TypeId) : MP (w.alloc (.cells #[.slice none 0 0] t)) base w.heap.size (.slice none 0 0) [] [] := by
  refine ⟨?_, ?_, hb, by simp, OwnMx.nil _ _, by simp [Value.ownBlock], by simp⟩
  · rw [World.cell?_alloc_new w _ t 0]; rfl
  · exact World.frozen?_alloc_new w _ _ _

/-- A row is appended and the box is written: what the box then holds. -/
theorem MP.next {w w3 : World} {base P : Nat} {v : Value} {R : List (Nat × Nat)} {M : Lin.Mat} (h : MP w base P v R M) {g c g2 cap : Nat} {r : List Int} (hg : base ≤ g) (hlt : g < w.heap.size) (hr : IntsAt w g (some ⟨g, 0, none⟩) r) (hn : g ∉ blks R) (hv : v.ownBlock ≠ some g) (hP : g ≠ P)
    (ho : w3.ownsRow base 24 1 (.slice (some ⟨g2, 0, none⟩) (M.length + 1) cap) (M.length + 1) (vals R M ++ [.slice (some ⟨g, 0, none⟩) r.length c])) (hgr : w.grownBy w3 v.ownBlock) (hb : v.ownBlock = some g2 ∨ g2 = w.heap.size) :
    MP (w3.setCell ⟨P, 0, none⟩ (.slice (some ⟨g2, 0, none⟩) (M.length + 1) cap)) base P (.slice (some ⟨g2, 0, none⟩) (M.length + 1) cap) (R ++ [(g, c)]) (M ++ [r]) := by
  have hO := OwnMx.next (v' := .slice (some ⟨g2, 0, none⟩) (M.length + 1) cap) h.own hg hlt hr hn hv ho hgr (by
    rcases hb with e | e
    · exact .inl (by rw [e]; rfl)
    · exact .inr ⟨g2, rfl, by omega⟩)
  have hne : v.ownBlock ≠ some P := h.off
  have hblk := hgr.block P h.lt (fun e => hne e.symm)
  have hc3 : w3.cell? ⟨P, 0, none⟩ = some v := by rw [World.cell?_of_block (w := w) hblk]; exact h.cell
  have hg2 : g2 ≠ P := by
    rcases hb with e | e
    · intro e2; exact hne (by rw [e, e2])
    · have := h.lt; omega
  have hPR : P ∉ blks (R ++ [(g, c)]) := by
    rw [show blks (R ++ [(g, c)]) = blks R ++ [g] by simp [blks], List.mem_append, List.mem_singleton]
    rintro (hm | e)
    · exact h.offR hm
    · exact hP e.symm
  have hon : Only [P] w3 (w3.setCell ⟨P, 0, none⟩ (.slice (some ⟨g2, 0, none⟩) (M.length + 1) cap)) := Only.set _ _ _ (by simp) _
  refine ⟨World.cell?_setCell_same _ _ _ hc3, by rw [World.frozen?_setCell, World.frozen?_of_block (w := w) hblk]; exact h.soft, h.low, by have := hgr.size; have := h.lt; simp [World.setCell]; omega, ?_, by simp only [Value.ownBlock, ne_eq, Option.some.injEq]; exact hg2, hPR⟩
  refine ⟨?_, hO.len, hO.nodup, fun i hi => ?_, hO.apart⟩
  · refine World.ownsRow.kept (row := some P) hO.own ⟨hon.os, hon.tape, hon.output, hon.size, fun k hk hne => hon.block k hk (fun hm => hne (by simp at hm; rw [hm]))⟩ (.inr fun e => ?_)
    simp only [Value.ownBlock, Option.some.injEq] at e
    omega
  · obtain ⟨q1, q2, q3⟩ := hO.rows i hi
    refine ⟨q1, by simpa [World.setCell] using q2, q3.only hon ?_⟩
    rw [List.mem_singleton]
    intro e
    exact hPR (by rw [← e]; exact blk_mem (by rw [hO.len]; exact hi))

theorem box_after {w wo w1 : World} {P : Nat} {v : Value} (hc : w.cell? ⟨P, 0, none⟩ = some v) (hf : w.frozen? ⟨P, 0, none⟩ = false) (hlt : P < w.heap.size) (hb : Below w.heap.size w wo) (hg : wo.grownBy w1 v.ownBlock) (hoff : v.ownBlock ≠ some P) : w1.cell? ⟨P, 0, none⟩ = some v ∧ w1.frozen? ⟨P, 0, none⟩ = false := by
  have e1 := hb.block P hlt
  have e2 := hg.block P (Nat.lt_of_lt_of_le hlt hb.size) (fun e => hoff e.symm)
  exact ⟨by rw [World.cell?_of_block (w := w) (e2.trans e1)]; exact hc, by rw [World.frozen?_of_block (w := w) (e2.trans e1)]; exact hf⟩
theorem below_two {w : World} (o o2 : Obj) : Below w.heap.size w ((w.alloc o).alloc o2).drew := by
  have h : Below w.heap.size w ((w.alloc o).alloc o2) := ((Below.refl _ _).alloc (Nat.le_refl _) _).alloc (by simp) _
  exact ⟨h.os, h.tape, h.output, h.size, h.block⟩

/-- make([]int, n). -/
theorem make_ints (n : Nat) (hn : n ≤ 1099511627776) (W : World) : (Instr.makeSlice 24 (.int .i64 (n : Int)) (.int .i64 (n : Int))).run Tryz.prog W = .ok (.slice (some ⟨W.heap.size, 0, none⟩) n n) (W.alloc (.cells ((List.replicate n (0 : Int)).map (Value.int .i64)).toArray 3)) := by
  obtain ⟨i0, hi, hz0, hz1, hz2⟩ := info_parts info_int
  have h := run_make W 24 3 i0 (.int .i64 0) Tryz.underlying24 hi hz0 .i64 .i64 n n (by omega) (Int.le_refl _) (by rw [hz2]; omega) (by omega)
  have e : madeCells (Value.int IntKind.i64 0).cells (n * 1) = ((List.replicate n (0 : Int)).map (Value.int .i64)).toArray := by
    apply Array.ext'
    rw [List.map_replicate, ← toList_madeCells_one, Nat.mul_one]
    rfl
  rw [h, hz1, Int.toNat_natCast, e]

theorem made_row (W : World) (n : Nat) (hn : n ≤ 1099511627776) : IntsAt (W.alloc (.cells ((List.replicate n (0 : Int)).map (Value.int .i64)).toArray 3)) W.heap.size (some ⟨W.heap.size, 0, none⟩) (List.replicate n 0) := by
  have h := OwnInts.lit W W.heap.size (List.replicate n 0) (Nat.le_refl _) (by rw [List.length_replicate]; omega)
  exact (OwnInts.known h).2.2.1

end Go.Proofs.YtenpcjmhlnalcaaGreat

/-! PARTS OF COMPLEXES, of no program: families of sets by predicates, their greatest sets. -/

namespace Go.Proofs.YtenpcjmhlnalcaaGreat
open Sets

/-! ### subsets by bits -/

theorem sub_iff (a b : Nat) : sub a b = true ↔ ∀ i, a.testBit i = true → b.testBit i = true := by
  unfold sub
  rw [beq_iff_eq]
  constructor
  · intro h i hi
    have := congrArg (fun x => x.testBit i) h
    simp only [Nat.testBit_and] at this
    rw [hi] at this
    simpa using this
  · intro h
    apply Nat.eq_of_testBit_eq
    intro i
    rw [Nat.testBit_and]
    cases ha : a.testBit i with
    | false => rfl
    | true => rw [h i ha]; rfl
theorem sub_refl (a : Nat) : sub a a = true := by unfold sub; simp
theorem sub_trans {a b c : Nat} (h : sub a b = true) (k : sub b c = true) : sub a c = true := by
  rw [sub_iff] at *; exact fun i hi => k i (h i hi)
theorem sub_anti {a b : Nat} (h : sub a b = true) (k : sub b a = true) : a = b := by
  rw [sub_iff] at *
  apply Nat.eq_of_testBit_eq
  intro i
  rw [Bool.eq_iff_iff]
  exact ⟨h i, k i⟩
theorem sub_le {a b : Nat} (h : sub a b = true) : a ≤ b := by
  unfold sub at h
  rw [beq_iff_eq] at h
  rw [← h]; exact Nat.and_le_right
theorem sub_and (t f s : Nat) : sub t (f &&& s) = (sub t f && sub t s) := by
  rw [Bool.eq_iff_iff, Bool.and_eq_true, sub_iff, sub_iff, sub_iff]
  constructor
  · intro h
    refine ⟨fun i hi => ?_, fun i hi => ?_⟩ <;>
    · have := h i hi
      rw [Nat.testBit_and, Bool.and_eq_true] at this
      first | exact this.1 | exact this.2
  · intro h i hi
    rw [Nat.testBit_and, h.1 i hi, h.2 i hi]; rfl
theorem sub_or (t s f : Nat) : sub (t ||| s) f = (sub t f && sub s f) := by
  rw [Bool.eq_iff_iff, Bool.and_eq_true, sub_iff, sub_iff, sub_iff]
  constructor
  · intro h
    refine ⟨fun i hi => h i ?_, fun i hi => h i ?_⟩ <;> (rw [Nat.testBit_or, hi]; simp)
  · intro h i hi
    rw [Nat.testBit_or, Bool.or_eq_true] at hi
    rcases hi with e | e
    · exact h.1 i e
    · exact h.2 i e
/-- No point in common. -/
def apart (t s : Nat) : Bool := t &&& s == 0
theorem apart_iff (t s : Nat) : apart t s = true ↔ ∀ i, ¬(t.testBit i = true ∧ s.testBit i = true) := by
  unfold apart
  rw [beq_iff_eq]
  constructor
  · intro h i ⟨h1, h2⟩
    have := congrArg (fun x => x.testBit i) h
    simp only [Nat.testBit_and, Nat.zero_testBit, h1, h2] at this
    cases this
  · intro h
    apply Nat.eq_of_testBit_eq
    intro i
    rw [Nat.testBit_and, Nat.zero_testBit]
    cases h1 : t.testBit i with
    | false => rfl
    | true =>
      cases h2 : s.testBit i with
      | false => rfl
      | true => exact absurd ⟨h1, h2⟩ (h i)
theorem take_away (f s : Nat) (hf : f < 64) (hs : s < 64) (h : sub s f = true) : f - s = f ^^^ s := by
  have H : ∀ f s : Fin 64, sub s.val f.val = true → f.val - s.val = f.val ^^^ s.val := by decide +kernel
  exact H ⟨f, hf⟩ ⟨s, hs⟩ h
theorem sub_xor (t f s : Nat) (h : sub s f = true) : sub t (f ^^^ s) = (apart t s && sub t f) := by
  rw [sub_iff] at h
  rw [Bool.eq_iff_iff, Bool.and_eq_true, sub_iff, sub_iff, apart_iff]
  constructor
  · intro k
    refine ⟨fun i ⟨h1, h2⟩ => ?_, fun i hi => ?_⟩
    · have := k i h1
      rw [Nat.testBit_xor, h2, h i h2] at this
      cases this
    · have := k i hi
      rw [Nat.testBit_xor] at this
      cases h2 : s.testBit i with
      | true => exact h i h2
      | false => rw [h2] at this; simpa using this
  · rintro ⟨k1, k2⟩ i hi
    rw [Nat.testBit_xor, k2 i hi]
    cases h2 : s.testBit i with
    | true => exact absurd ⟨hi, h2⟩ (k1 i)
    | false => rfl
theorem apart_mono {t u s : Nat} (h : sub t u = true) (k : apart u s = true) : apart t s = true := by
  rw [sub_iff] at h; rw [apart_iff] at *
  exact fun i ⟨h1, h2⟩ => k i ⟨h i h1, h2⟩

/-! ### families closed downwards -/

def Down (q : Nat → Bool) : Prop := ∀ s t, s < 64 → t < 64 → sub s t = true → q t = true → q s = true
theorem inF_iff (xs : List Int) (s : Nat) : inF xs s = true ↔ ∃ f, f ∈ xs ∧ sub s f.toNat = true := by unfold inF; rw [List.any_eq_true]
theorem inF_down (xs : List Int) : Down (inF xs) := fun s t _ _ h k => by
  rw [inF_iff] at *
  obtain ⟨f, hf, e⟩ := k
  exact ⟨f, hf, sub_trans h e⟩
/-- The greatest sets of a family, in order. -/
def maxQ (q : Nat → Bool) : List Int := ord fun s => q s && (List.range 64).all fun t => !(q t && sub s t && t != s)
theorem mem_maxQ (q : Nat → Bool) (x : Int) : x ∈ maxQ q ↔ ∃ s : Nat, x = (s : Int) ∧ s < 64 ∧ q s = true ∧ ∀ t, t < 64 → q t = true → sub s t = true → t = s := by
  unfold maxQ
  rw [mem_ord]
  constructor
  · rintro ⟨s, rfl, hs, h⟩
    rw [Bool.and_eq_true, List.all_eq_true] at h
    refine ⟨s, rfl, hs, h.1, fun t ht h1 h2 => ?_⟩
    have := h.2 t (List.mem_range.2 ht)
    rw [h1, h2] at this
    simpa using this
  · rintro ⟨s, rfl, hs, h1, h2⟩
    refine ⟨s, rfl, hs, ?_⟩
    rw [Bool.and_eq_true, List.all_eq_true]
    refine ⟨h1, fun t ht => ?_⟩
    rw [Bool.not_eq_true', Bool.and_eq_false_iff]
    cases e1 : q t with
    | false => left; rfl
    | true =>
      cases e2 : sub s t with
      | false => left; rfl
      | true => right; rw [h2 t (List.mem_range.1 ht) e1 e2]; simp
theorem maxQ_congr {p q : Nat → Bool} (h : ∀ s, s < 64 → p s = q s) : maxQ p = maxQ q := by
  refine rises_eq _ _ (ord_rises _) (ord_rises _) fun x => ?_
  rw [mem_maxQ, mem_maxQ]
  constructor
  · rintro ⟨s, e, hs, h1, h2⟩
    exact ⟨s, e, hs, by rw [← h s hs]; exact h1, fun t ht k1 k2 => h2 t ht (by rw [h t ht]; exact k1) k2⟩
  · rintro ⟨s, e, hs, h1, h2⟩
    exact ⟨s, e, hs, by rw [h s hs]; exact h1, fun t ht k1 k2 => h2 t ht (by rw [← h t ht]; exact k1) k2⟩
theorem ok_nat {x : Int} {A : List Int} (h : allOk A = true) (hx : x ∈ A) : ∃ s : Nat, x = (s : Int) ∧ s < 64 := by
  unfold allOk at h
  exact okZ_cast x (List.all_eq_true.1 h x hx)
/-- The maximal sets of a list are told by what lies in it. -/
theorem maximal_maxQ (A : List Int) (h : allOk A = true) : maximal A = maxQ (inF A) := by
  refine rises_eq _ _ ?_ (ord_rises _) fun x => ?_
  · unfold maximal best
    exact List.Pairwise.filter _ (order_rises A)
  rw [mem_maxQ]
  unfold maximal best
  rw [List.mem_filter, order_iff A h]
  constructor
  · rintro ⟨hx, hu⟩
    obtain ⟨s, rfl, hs⟩ := ok_nat h hx
    refine ⟨s, rfl, hs, (inF_iff A s).2 ⟨_, hx, sub_refl s⟩, fun t ht h1 h2 => ?_⟩
    obtain ⟨f, hf, e⟩ := (inF_iff A t).1 h1
    obtain ⟨u, rfl, hu64⟩ := ok_nat h hf
    have e : sub t u = true := e
    by_cases hne : u = s
    · subst hne; exact sub_anti e h2
    · unfold unbeaten at hu
      have := List.all_eq_true.1 hu (u : Int) ((order_iff A h _).2 hf)
      rw [Bool.not_eq_true', Bool.and_eq_false_iff] at this
      rcases this with k | k
      · have : (u : Int) = (s : Int) := by simpa using k
        omega
      · have k : sub s u = false := k
        rw [sub_trans h2 e] at k; cases k
  · rintro ⟨s, rfl, hs, h1, h2⟩
    obtain ⟨f, hf, e⟩ := (inF_iff A s).1 h1
    obtain ⟨u, rfl, hu64⟩ := ok_nat h hf
    have e : sub s u = true := e
    have : u = s := h2 u hu64 ((inF_iff A u).2 ⟨_, hf, sub_refl u⟩) e
    subst this
    refine ⟨hf, ?_⟩
    unfold unbeaten
    rw [List.all_eq_true]
    intro y hy
    have hy := (order_iff A h y).1 hy
    obtain ⟨v, rfl, hv⟩ := ok_nat h hy
    rw [Bool.not_eq_true', Bool.and_eq_false_iff]
    by_cases hne : v = u
    · left; subst hne; simp
    · right
      rw [Bool.eq_false_iff]
      intro k
      exact hne (h2 v hv ((inF_iff A v).2 ⟨_, hy, sub_refl v⟩) k)
theorem inF_ord (q : Nat → Bool) (hd : Down q) (t : Nat) (ht : t < 64) : inF (ord q) t = q t := by
  rw [Bool.eq_iff_iff, inF_iff]
  constructor
  · rintro ⟨f, hf, e⟩
    obtain ⟨u, rfl, hu, hq⟩ := (mem_ord q f).1 hf
    exact hd t u ht hu e hq
  · intro h
    exact ⟨(t : Int), (mem_ord q _).2 ⟨t, rfl, ht, h⟩, sub_refl t⟩
theorem ord_ok (q : Nat → Bool) : allOk (ord q) = true := by
  unfold allOk
  rw [List.all_eq_true]
  intro x hx
  obtain ⟨s, rfl, hs, _⟩ := (mem_ord q x).1 hx
  exact (okZ_nat s).2 hs
theorem maximal_ord (q : Nat → Bool) (hd : Down q) : maximal (ord q) = maxQ q := by
  rw [maximal_maxQ _ (ord_ok q)]
  exact maxQ_congr fun s hs => inF_ord q hd s hs
/-- Each set of a family lies in a greatest one. -/
theorem maxQ_above (q : Nat → Bool) : ∀ (m t : Nat), t < 64 → 64 - t ≤ m → q t = true → ∃ u : Nat, u < 64 ∧ (u : Int) ∈ maxQ q ∧ sub t u = true
  | 0, t, ht, hm, _ => by omega
  | m + 1, t, ht, hm, hq => by
    by_cases h : ∀ v, v < 64 → q v = true → sub t v = true → v = t
    · exact ⟨t, ht, (mem_maxQ q _).2 ⟨t, rfl, ht, hq, h⟩, sub_refl t⟩
    · have : ∃ v, v < 64 ∧ q v = true ∧ sub t v = true ∧ v ≠ t := by
        refine Classical.byContradiction fun k => h fun v h1 h2 h3 => Classical.byContradiction fun h4 => k ⟨v, h1, h2, h3, h4⟩
      obtain ⟨v, h1, h2, h3, h4⟩ := this
      have := sub_le h3
      obtain ⟨u, k1, k2, k3⟩ := maxQ_above q m v h1 (by omega) h2
      exact ⟨u, k1, k2, sub_trans h3 k3⟩
theorem inF_maxQ (q : Nat → Bool) (hd : Down q) (t : Nat) (ht : t < 64) : inF (maxQ q) t = q t := by
  rw [Bool.eq_iff_iff, inF_iff]
  constructor
  · rintro ⟨f, hf, e⟩
    obtain ⟨u, rfl, hu, hq, _⟩ := (mem_maxQ q f).1 hf
    exact hd t u ht hu e hq
  · intro h
    obtain ⟨u, _, h2, h3⟩ := maxQ_above q 64 t ht (by omega) h
    exact ⟨_, h2, h3⟩
theorem maxQ_le (q : Nat → Bool) : (maxQ q).length ≤ 64 := ord_le _
theorem maxQ_ok (q : Nat → Bool) : allOk (maxQ q) = true := ord_ok _
/-- A complex is told by its faces. -/
theorem isC_maxQ {n : Int} {xs : List Int} (h : isC n xs = true) : maxQ (inF xs) = xs := by
  rw [← maximal_maxQ xs (isC_ok h), maximal_self h]
theorem maxQ_isC (n : Int) (q : Nat → Bool) (h1 : 1 ≤ n) (h2 : n ≤ 6) (hd : Down q) (h : ∀ s, s < 64 → q s = true → setB n (s : Int) = true) : isC n (maxQ q) = true := by
  rw [← maximal_ord q hd]
  refine isC_maximal n _ h1 h2 fun x hx => ?_
  obtain ⟨s, rfl, hs, hq⟩ := (mem_ord q x).1 hx
  exact h s hs hq
theorem maxQ_faces (n : Int) (q : Nat → Bool) (hd : Down q) (hc : isC n (maxQ q) = true) : faces n (maxQ q) = ord q := by
  unfold faces
  rw [if_pos hc]
  exact ord_congr fun t ht => inF_maxQ q hd t ht
/-- Faces of a complex are sets of its points. -/
theorem setB_sub {n : Int} {s t : Nat} (h : setB n (t : Int) = true) (k : sub s t = true) : setB n (s : Int) = true := by
  rw [setB_iff] at *
  have := sub_le k
  exact ⟨h.1, h.2.1, by omega, by have := h.2.2.2; omega⟩
theorem inF_set {n : Int} {xs : List Int} (h : isC n xs = true) (s : Nat) (k : inF xs s = true) : setB n (s : Int) = true := by
  obtain ⟨f, hf, e⟩ := (inF_iff xs s).1 k
  obtain ⟨t, rfl, _⟩ := ok_nat (isC_ok h) hf
  exact setB_sub (isC_set h _ hf) e

/-! ### the parts -/

def linkQ (xs : List Int) (s t : Nat) : Bool := apart t s && inF xs (t ||| s)
def starQ (xs : List Int) (s t : Nat) : Bool := inF xs (t ||| s)
def delQ (xs : List Int) (s t : Nat) : Bool := inF xs t && !sub s t
def skelQ (xs : List Int) (k : Int) (t : Nat) : Bool := inF xs t && decide ((pc t : Int) ≤ k)
def indQ (xs : List Int) (s t : Nat) : Bool := inF xs t && sub t s
def orQ (xs ys : List Int) (t : Nat) : Bool := inF xs t || inF ys t
def andQ (xs ys : List Int) (t : Nat) : Bool := inF xs t && inF ys t

theorem or_sub {s t : Nat} (h : sub s t = true) (u : Nat) : sub (s ||| u) (t ||| u) = true := by
  rw [sub_or, Bool.and_eq_true, sub_iff, sub_iff]
  rw [sub_iff] at h
  exact ⟨fun i hi => by rw [Nat.testBit_or, h i hi]; rfl, fun i hi => by rw [Nat.testBit_or, hi]; simp⟩
theorem inF_sub {xs : List Int} {s t : Nat} (h : sub s t = true) (k : inF xs t = true) : inF xs s = true := by
  rw [inF_iff] at *
  obtain ⟨f, hf, e⟩ := k
  exact ⟨f, hf, sub_trans h e⟩
theorem starQ_down (xs : List Int) (u : Nat) : Down (starQ xs u) := fun s t _ _ h k => by
  unfold starQ at *
  exact inF_sub (or_sub h u) k
theorem linkQ_down (xs : List Int) (u : Nat) : Down (linkQ xs u) := fun s t hs ht h k => by
  unfold linkQ at *
  rw [Bool.and_eq_true] at *
  exact ⟨apart_mono h k.1, starQ_down xs u s t hs ht h k.2⟩
theorem delQ_down (xs : List Int) (u : Nat) : Down (delQ xs u) := fun s t _ _ h k => by
  unfold delQ at *
  rw [Bool.and_eq_true, Bool.not_eq_true'] at *
  refine ⟨inF_sub h k.1, ?_⟩
  rw [Bool.eq_false_iff]; intro e
  rw [sub_trans e h] at k; cases k.2
theorem pc_sub {s t : Nat} (hs : s < 64) (ht : t < 64) (h : sub s t = true) : pc s ≤ pc t := by
  rcases sub_pc s t hs ht h with e | e
  · omega
  · rw [e]; exact Nat.le_refl _
theorem skelQ_down (xs : List Int) (k : Int) : Down (skelQ xs k) := fun s t hs ht h e => by
  unfold skelQ at *
  rw [Bool.and_eq_true, decide_eq_true_iff] at *
  have := pc_sub hs ht h
  exact ⟨inF_sub h e.1, by omega⟩
theorem indQ_down (xs : List Int) (u : Nat) : Down (indQ xs u) := fun s t _ _ h k => by
  unfold indQ at *
  rw [Bool.and_eq_true] at *
  exact ⟨inF_sub h k.1, sub_trans h k.2⟩
theorem orQ_down (xs ys : List Int) : Down (orQ xs ys) := fun s t _ _ h k => by
  unfold orQ at *
  rw [Bool.or_eq_true] at *
  exact k.imp (inF_sub h) (inF_sub h)
theorem andQ_down (xs ys : List Int) : Down (andQ xs ys) := fun s t _ _ h k => by
  unfold andQ at *
  rw [Bool.and_eq_true] at *
  exact ⟨inF_sub h k.1, inF_sub h k.2⟩

/-- A part: a complex of n points, or none. -/
def partO (ok : Bool) (n : Int) (q : Nat → Bool) : Option (Int × List Int) := if ok = true then some (n, maxQ q) else none
def linkO (n : Int) (xs : List Int) (s : Int) := partO (isC n xs && setB n s) n (linkQ xs s.toNat)
def starO (n : Int) (xs : List Int) (s : Int) := partO (isC n xs && setB n s) n (starQ xs s.toNat)
def delO (n : Int) (xs : List Int) (s : Int) := partO (isC n xs && setB n s) n (delQ xs s.toNat)
def skelO (n : Int) (xs : List Int) (k : Int) := partO (isC n xs && inB 0 6 k) n (skelQ xs k)
def indO (n : Int) (xs : List Int) (s : Int) := partO (isC n xs && setB n s) n (indQ xs s.toNat)
def bothOk (n m : Int) (xs ys : List Int) : Bool := isC n xs && isC m ys && n == m
def unionO (n m : Int) (xs ys : List Int) := partO (bothOk n m xs ys) n (orQ xs ys)
def meetO (n m : Int) (xs ys : List Int) := partO (bothOk n m xs ys) n (andQ xs ys)

end Go.Proofs.YtenpcjmhlnalcaaGreat
