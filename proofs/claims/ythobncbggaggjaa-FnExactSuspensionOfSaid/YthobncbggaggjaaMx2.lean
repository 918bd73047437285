/-
  MEMORY: a matrix that the call builds row by row.
-/
import Derived.Test.YthobncbggaggjaaMx
import Derived.Laws.OwnMore
import Derived.Deep.AppendLies
import Derived.Maps.AppendAt
namespace Go.Proofs.Ythobncbggaggjaa
open Go.RowKit

def vals (R : List (Nat × Nat)) (M : Lin.Mat) : List Value := (List.range M.length).map fun i => .slice (some ⟨blk R i, 0, none⟩) (Lin.row M i).length (room R i)
theorem vals_length (R : List (Nat × Nat)) (M : Lin.Mat) : (vals R M).length = M.length := by simp [vals]
theorem vals_at (R : List (Nat × Nat)) (M : Lin.Mat) (i : Nat) (h : i < M.length) : (vals R M)[i]? = some (.slice (some ⟨blk R i, 0, none⟩) (Lin.row M i).length (room R i)) := by
  unfold vals; rw [List.getElem?_map, List.getElem?_range h]; rfl
theorem blk_left {R : List (Nat × Nat)} {i : Nat} (x : Nat × Nat) (h : i < R.length) : (R ++ [x]).getD i (0, 0) = R.getD i (0, 0) := by
  simp [List.getD, List.getElem?_append_left h]
theorem blk_last {R : List (Nat × Nat)} (x : Nat × Nat) : (R ++ [x]).getD R.length (0, 0) = x := by simp [List.getD]
theorem row_left {M : Lin.Mat} {i : Nat} (r : List Int) (h : i < M.length) : Lin.row (M ++ [r]) i = Lin.row M i := by
  unfold Lin.row; simp [List.getD, List.getElem?_append_left h]
theorem row_last {M : Lin.Mat} (r : List Int) : Lin.row (M ++ [r]) M.length = r := by unfold Lin.row; simp [List.getD]
theorem vals_snoc (R : List (Nat × Nat)) (M : Lin.Mat) (h : R.length = M.length) (g c : Nat) (r : List Int) : vals (R ++ [(g, c)]) (M ++ [r]) = vals R M ++ [.slice (some ⟨g, 0, none⟩) r.length c] := by
  unfold vals
  rw [List.length_append, List.length_singleton, List.range_succ, List.map_append]
  congr 1
  · refine List.map_congr_left fun i hi => ?_
    have hi := List.mem_range.1 hi
    simp only [blk, room]
    rw [blk_left _ (by omega), row_left _ hi]
  · simp only [List.map_cons, List.map_nil, blk, room]
    rw [← h, blk_last, h, row_last]

structure OwnMx (w : World) (base : Nat) (v : Value) (R : List (Nat × Nat)) (M : Lin.Mat) : Prop where
  own : w.ownsRow base 24 1 v M.length (vals R M)
  len : R.length = M.length
  nodup : (blks R).Nodup
  rows : ∀ i, i < M.length → base ≤ blk R i ∧ blk R i < w.heap.size ∧ IntsAt w (blk R i) (some ⟨blk R i, 0, none⟩) (Lin.row M i)
  apart : ∀ g, v.ownBlock = some g → g ∉ blks R

theorem OwnMx.lit (w : World) (base : Nat) (h : base ≤ w.heap.size) : OwnMx (w.alloc (.cells #[] 24)) base (.slice (some ⟨w.heap.size, 0, none⟩) 0 0) [] [] := by
  refine ⟨?_, rfl, by simp, fun i hi => absurd hi (Nat.not_lt_zero _), fun _ _ => by simp⟩
  have h1 := World.ownsRow_lit (base := base) (e := 24) (size := 1) w #[] 0 h (by unfold maxLen; omega) (by simp)
  simpa [vals] using h1
theorem OwnMx.keeps {w w' : World} {base : Nat} {v : Value} {R : List (Nat × Nat)} {M : Lin.Mat} (h : OwnMx w base v R M) (hb : Below w.heap.size w w') : OwnMx w' base v R M := by
  refine ⟨World.ownsRow.kept (row := none) h.own ⟨hb.os, hb.tape, hb.output, hb.size, fun k hk _ => hb.block k hk⟩ ?_, h.len, h.nodup, fun i hi => ?_, h.apart⟩
  · cases v.ownBlock <;> simp
  · obtain ⟨h1, h2, h3⟩ := h.rows i hi
    exact ⟨h1, Nat.lt_of_lt_of_le h2 hb.size, h3.keeps hb⟩
theorem OwnMx.lower {w : World} {base b : Nat} {v : Value} {R : List (Nat × Nat)} {M : Lin.Mat} (h : OwnMx w base v R M) (hb : b ≤ base) : OwnMx w b v R M := by
  refine ⟨⟨h.own.1, ?_⟩, h.len, h.nodup, fun i hi => ⟨Nat.le_trans hb (h.rows i hi).1, (h.rows i hi).2⟩, h.apart⟩
  rcases h.own.2 with h0 | ⟨g, cap, cur, hv, h1, hr⟩
  · exact .inl h0
  · exact .inr ⟨g, cap, cur, hv, by omega, hr⟩
/-- Out of what is owned: the matrix. -/
theorem OwnMx.mx {w : World} {base : Nat} {v : Value} {R : List (Nat × Nat)} {M : Lin.Mat} (h : OwnMx w base v R M) : ∃ go ao co, v = .slice ao M.length co ∧ (0 < M.length → base ≤ go ∧ go < w.heap.size) ∧ Mx w go ao R M := by
  rcases h.own.2 with ⟨hv, h0⟩ | ⟨g, cap, cur, hv, hb, _⟩
  · have hM : M = [] := List.eq_nil_of_length_eq_zero h0
    subst hM
    have hR : R = [] := List.eq_nil_of_length_eq_zero h.len
    subst hR
    exact ⟨0, none, 0, by rw [hv]; rfl, fun h => absurd h (Nat.lt_irrefl 0), ⟨rfl, by simp, fun i hi => absurd hi (Nat.not_lt_zero _), fun i hi => absurd hi (Nat.not_lt_zero _), by simp⟩⟩
  · subst hv
    obtain ⟨h1, h2⟩ := World.ownsRow.lt h.own g rfl
    refine ⟨g, some ⟨g, 0, none⟩, cap, rfl, fun _ => ⟨h1, h2⟩, ⟨h.len, h.nodup, fun i hi => ⟨rfl, h2, ?_, World.ownsRow.frozenAt h.own i⟩, fun i hi => (h.rows i hi).2, h.apart g rfl⟩⟩
    rw [World.ownsRow.cellAt h.own i (by omega), vals_at R M i hi]
/-- A row is appended. -/
theorem OwnMx.next {w w3 : World} {base : Nat} {v v' : Value} {R : List (Nat × Nat)} {M : Lin.Mat} (h : OwnMx w base v R M) {g c : Nat} {r : List Int} (hg : base ≤ g) (hlt : g < w.heap.size) (hr : IntsAt w g (some ⟨g, 0, none⟩) r) (hn : g ∉ blks R) (hv : v.ownBlock ≠ some g)
    (ho : w3.ownsRow base 24 1 v' (M.length + 1) (vals R M ++ [.slice (some ⟨g, 0, none⟩) r.length c])) (hgr : w.grownBy w3 v.ownBlock) (hb : v'.ownBlock = v.ownBlock ∨ ∃ z, v'.ownBlock = some z ∧ w.heap.size ≤ z) : OwnMx w3 base v' (R ++ [(g, c)]) (M ++ [r]) := by
  have keep : ∀ k a xs, IntsAt w k a xs → some k ≠ v.ownBlock → IntsAt w3 k a xs := fun k a xs hk hne j hj => by
    obtain ⟨h1, h2, h3, h4⟩ := hk j hj
    have e := hgr.block k h2 hne
    exact ⟨h1, Nat.lt_of_lt_of_le h2 hgr.size, by rw [World.cell?_of_block (w := w) e]; exact h3, by rw [World.frozen?_of_block (w := w) e]; exact h4⟩
  refine ⟨?_, by rw [List.length_append, List.length_append, h.len]; rfl, ?_, fun i hi => ?_, fun z hz => ?_⟩
  · rw [List.length_append, vals_snoc R M h.len]; exact ho
  · show (blks (R ++ [(g, c)])).Nodup
    rw [show blks (R ++ [(g, c)]) = blks R ++ [g] by simp [blks], List.nodup_append]
    exact ⟨h.nodup, by simp, fun x hx y hy e => by
      rw [List.mem_singleton] at hy; subst hy; subst e; exact hn hx⟩
  · rw [List.length_append] at hi
    by_cases e : i < M.length
    · obtain ⟨h1, h2, h3⟩ := h.rows i e
      simp only [blk] at h1 h2 h3 ⊢
      rw [blk_left _ (by rw [h.len]; exact e), row_left _ e]
      refine ⟨h1, Nat.lt_of_lt_of_le h2 hgr.size, keep _ _ _ h3 fun e' => h.apart _ e'.symm (blk_mem (by rw [h.len]; exact e))⟩
    · have hi' : i = M.length := by simp at hi; omega
      subst hi'
      simp only [blk]
      rw [← h.len, blk_last, h.len, row_last]
      exact ⟨hg, Nat.lt_of_lt_of_le hlt hgr.size, keep _ _ _ hr fun e => hv e.symm⟩
  · show z ∉ blks (R ++ [(g, c)])
    rw [show blks (R ++ [(g, c)]) = blks R ++ [g] by simp [blks], List.mem_append, List.mem_singleton]
    rintro (hm | rfl)
    · rcases hb with e | ⟨y, e, hy⟩
      · exact h.apart z (by rw [← e]; exact hz) hm
      · rw [e] at hz; cases hz
        obtain ⟨⟨a, b⟩, hx, rfl⟩ := List.mem_map.1 hm
        obtain ⟨i, hi, hx2⟩ := List.getElem_of_mem hx
        have := (h.rows i (by rw [← h.len]; exact hi)).2.1
        simp [blk, List.getD, List.getElem?_eq_getElem hi, hx2] at this
        dsimp only at hy
        omega
    · rcases hb with e | ⟨y, e, hy⟩
      · exact hv (by rw [← e]; exact hz)
      · rw [e] at hz; cases hz; omega

theorem OwnMx.old {w : World} {base : Nat} {v : Value} {R : List (Nat × Nat)} {M : Lin.Mat} (h : OwnMx w base v R M) {g : Nat} (hg : g ∈ blks R) : base ≤ g ∧ g < w.heap.size := by
  obtain ⟨⟨a, b⟩, hx, rfl⟩ := List.mem_map.1 hg
  obtain ⟨i, hi, hx2⟩ := List.getElem_of_mem hx
  have := h.rows i (by rw [← h.len]; exact hi)
  simp [blk, List.getD, List.getElem?_eq_getElem hi, hx2] at this
  exact ⟨this.1, this.2.1⟩
theorem OwnInts.known {w : World} {base g n c : Nat} {xs : List Int} (h : OwnInts w base (.slice (some ⟨g, 0, none⟩) n c) xs) : base ≤ g ∧ g < w.heap.size ∧ IntsAt w g (some ⟨g, 0, none⟩) xs ∧ n = xs.length := by
  have h' := h
  unfold OwnInts at h'
  obtain ⟨h1, h2⟩ := World.ownsRow.lt h' g rfl
  obtain ⟨a, c', g', he, _, hI⟩ := h.at
  have e : (some ⟨g, 0, none⟩ : Option Addr) = a ∧ n = xs.length := by cases he; exact ⟨rfl, rfl⟩
  refine ⟨h1, h2, ?_, e.2⟩
  rw [← e.1] at hI
  intro j hj
  obtain ⟨q1, q2, q3, q4⟩ := hI j hj
  have : g' = g := by cases q1; rfl
  subst this
  exact ⟨q1, q2, q3, q4⟩

theorem info_row : (Try.prog.info? 24).map (fun i => (i.zero, i.size, i.bytes)) = some (some (.slice none 0 0), 1, 24) := by kernel_rfl

end Go.Proofs.Ythobncbggaggjaa
