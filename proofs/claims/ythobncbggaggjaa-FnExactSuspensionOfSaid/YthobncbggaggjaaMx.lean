/-
  MEMORY: a matrix of numbers: a slice of slices, each row in a block of its own; a call that writes into some blocks alone.
-/
import Derived.Test.YthobncbggaggjaaHas
import Derived.Test.YthobncbggaggjaaLin2
namespace Go.Proofs.Ythobncbggaggjaa
open Go.RowKit

/-- Only the blocks G are written; new ones may come. -/
structure Only (G : List Nat) (w w' : World) : Prop where
  os : w'.os = w.os
  tape : w'.tape = w.tape
  output : w'.output = w.output
  size : w.heap.size ≤ w'.heap.size
  block : ∀ k, k < w.heap.size → k ∉ G → w'.heap[k]? = w.heap[k]?
theorem Only.refl (G : List Nat) (w : World) : Only G w w := ⟨rfl, rfl, rfl, Nat.le_refl _, fun _ _ _ => rfl⟩
theorem Only.trans {G : List Nat} {a b c : World} (h : Only G a b) (k : Only G b c) : Only G a c :=
  ⟨k.os.trans h.os, k.tape.trans h.tape, k.output.trans h.output, Nat.le_trans h.size k.size, fun i hi hn => (k.block i (Nat.lt_of_lt_of_le hi h.size) hn).trans (h.block i hi hn)⟩
theorem Only.set (G : List Nat) (w : World) {b : Nat} (o : Nat) (hb : b ∈ G) (v : Value) : Only G w (w.setCell ⟨b, o, none⟩ v) := by
  refine ⟨rfl, rfl, rfl, by simp [World.setCell], fun k _ hk => ?_⟩
  simp only [World.setCell, Array.getElem?_modify]
  rw [if_neg (fun e => hk (by rw [← e]; exact hb))]
theorem Only.of_below {w w' : World} (G : List Nat) (h : Below w.heap.size w w') : Only G w w' := ⟨h.os, h.tape, h.output, h.size, fun k hk _ => h.block k hk⟩
theorem Only.below {B : Nat} {G : List Nat} {w w' : World} (h : Only G w w') (hG : ∀ g, g ∈ G → B ≤ g) (hB : B ≤ w.heap.size) : Below B w w' :=
  ⟨h.os, h.tape, h.output, h.size, fun k hk => h.block k (by omega) fun hm => by have := hG k hm; omega⟩
theorem Only.drew {G : List Nat} {w w' : World} (h : Only G w w') : Only G w w'.drew := ⟨h.os, h.tape, h.output, h.size, h.block⟩
theorem IntsAt.only {w w' : World} {G : List Nat} {g : Nat} {a : Option Addr} {xs : List Int} (h : IntsAt w g a xs) (k : Only G w w') (hg : g ∉ G) : IntsAt w' g a xs := fun j hj => by
  obtain ⟨h1, h2, h3, h4⟩ := h j hj
  have hb := k.block g h2 hg
  exact ⟨h1, Nat.lt_of_lt_of_le h2 k.size, by rw [World.cell?_of_block (w := w) hb]; exact h3, by rw [World.frozen?_of_block (w := w) hb]; exact h4⟩

abbrev blk (R : List (Nat × Nat)) (i : Nat) : Nat := (R.getD i (0, 0)).1
abbrev room (R : List (Nat × Nat)) (i : Nat) : Nat := (R.getD i (0, 0)).2
abbrev blks (R : List (Nat × Nat)) : List Nat := R.map (·.1)
theorem blk_mem {R : List (Nat × Nat)} {i : Nat} (h : i < R.length) : blk R i ∈ blks R := by
  refine List.mem_map.2 ⟨R[i], List.getElem_mem h, ?_⟩
  simp [blk, List.getD, List.getElem?_eq_getElem h]
theorem blk_inj {R : List (Nat × Nat)} (hn : (blks R).Nodup) {i k : Nat} (hi : i < R.length) (hk : k < R.length) (h : blk R i = blk R k) : i = k := by
  have e : ∀ j, (hj : j < R.length) → blk R j = (blks R)[j]'(by simpa using hj) := fun j hj => by simp [blk, blks, List.getD, List.getElem?_eq_getElem hj]
  rw [e i hi, e k hk] at h
  exact (List.getElem_inj hn).1 h

/-- A matrix: the outer slice in the block go, its rows in the blocks of R. -/
structure Mx (w : World) (go : Nat) (ao : Option Addr) (R : List (Nat × Nat)) (M : Lin.Mat) : Prop where
  len : R.length = M.length
  nodup : (blks R).Nodup
  out : ∀ i, i < M.length → ao = some ⟨go, 0, none⟩ ∧ go < w.heap.size ∧ w.cell? ⟨go, i, none⟩ = some (.slice (some ⟨blk R i, 0, none⟩) (Lin.row M i).length (room R i)) ∧ w.frozen? ⟨go, i, none⟩ = false
  rows : ∀ i, i < M.length → blk R i < w.heap.size ∧ IntsAt w (blk R i) (some ⟨blk R i, 0, none⟩) (Lin.row M i)
  apart : go ∉ blks R

theorem Mx.keeps {w w' : World} {go : Nat} {ao : Option Addr} {R : List (Nat × Nat)} {M : Lin.Mat} (h : Mx w go ao R M) (hb : Below w.heap.size w w') : Mx w' go ao R M := by
  refine ⟨h.len, h.nodup, fun i hi => ?_, fun i hi => ?_, h.apart⟩
  · obtain ⟨h1, h2, h3, h4⟩ := h.out i hi
    exact ⟨h1, Nat.lt_of_lt_of_le h2 hb.size, by rw [hb.cell (p := ⟨go, i, none⟩) h2]; exact h3, by rw [hb.frozen (p := ⟨go, i, none⟩) h2]; exact h4⟩
  · obtain ⟨h1, h2⟩ := h.rows i hi
    exact ⟨Nat.lt_of_lt_of_le h1 hb.size, h2.keeps hb⟩
theorem Mx.drew {w : World} {go : Nat} {ao : Option Addr} {R : List (Nat × Nat)} {M : Lin.Mat} (h : Mx w go ao R M) : Mx w.drew go ao R M := ⟨h.len, h.nodup, h.out, h.rows, h.apart⟩
theorem Mx.cell {w : World} {go : Nat} {ao : Option Addr} {R : List (Nat × Nat)} {M : Lin.Mat} (h : Mx w go ao R M) {i : Nat} (hi : i < M.length) : w.cell? ⟨go, i, none⟩ = some (.slice (some ⟨blk R i, 0, none⟩) (Lin.row M i).length (room R i)) := (h.out i hi).2.2.1
theorem Mx.ent {w : World} {go : Nat} {ao : Option Addr} {R : List (Nat × Nat)} {M : Lin.Mat} (h : Mx w go ao R M) {i j : Nat} (hi : i < M.length) (hj : j < (Lin.row M i).length) : w.cell? ⟨blk R i, j, none⟩ = some (.int .i64 (Lin.ent M i j)) := ((h.rows i hi).2 j hj).2.2.1
theorem Mx.soft {w : World} {go : Nat} {ao : Option Addr} {R : List (Nat × Nat)} {M : Lin.Mat} (h : Mx w go ao R M) {i j : Nat} (hi : i < M.length) (hj : j < (Lin.row M i).length) : w.frozen? ⟨blk R i, j, none⟩ = false := ((h.rows i hi).2 j hj).2.2.2

theorem row_set (M : Lin.Mat) (i k : Nat) (r : List Int) (hi : i < M.length) : Lin.row (M.set i r) k = if k = i then r else Lin.row M k := by
  unfold Lin.row
  simp only [List.getD, List.getElem?_set]
  by_cases e : k = i
  · subst e; simp [hi]
  · rw [if_neg (fun h => e h.symm), if_neg e]

theorem IntsAt.setOwn {w : World} {g : Nat} {a : Option Addr} {xs : List Int} (h : IntsAt w g a xs) (j : Nat) (x : Int) : IntsAt (w.setCell ⟨g, j, none⟩ (.int .i64 x)) g a (xs.set j x) := fun k hk => by
  rw [List.length_set] at hk
  obtain ⟨h1, h2, h3, h4⟩ := h k hk
  refine ⟨h1, by simpa [World.setCell] using h2, ?_, by rw [World.frozen?_setCell]; exact h4⟩
  by_cases e : k = j
  · subst e
    rw [World.cell?_setCell_same _ _ _ h3]
    simp [List.getD, hk]
  · rw [World.cell?_setCell_other _ _ _ _ (by simp), h3]
    simp [List.getD, Ne.symm e]

/-- One number of one row is written. -/
theorem Mx.set {w : World} {go : Nat} {ao : Option Addr} {R : List (Nat × Nat)} {M : Lin.Mat} (h : Mx w go ao R M) {i : Nat} (hi : i < M.length) (j : Nat) (x : Int) : Mx (w.setCell ⟨blk R i, j, none⟩ (.int .i64 x)) go ao R (M.set i ((Lin.row M i).set j x)) := by
  have hiR : i < R.length := by rw [h.len]; exact hi
  have hne : go ≠ blk R i := fun e => h.apart (e ▸ blk_mem hiR)
  have hlen : ∀ k, (Lin.row (M.set i ((Lin.row M i).set j x)) k).length = (Lin.row M k).length := fun k => by
    rw [row_set M i k _ hi]
    by_cases e : k = i
    · rw [if_pos e, List.length_set, e]
    · rw [if_neg e]
  refine ⟨by rw [List.length_set]; exact h.len, h.nodup, fun k hk => ?_, fun k hk => ?_, h.apart⟩
  · rw [List.length_set] at hk
    obtain ⟨h1, h2, h3, h4⟩ := h.out k hk
    refine ⟨h1, by simpa [World.setCell] using h2, ?_, by rw [World.frozen?_setCell]; exact h4⟩
    rw [World.cell?_setCell_other _ _ _ _ (fun e => hne (congrArg Addr.block e).symm), hlen]; exact h3
  · rw [List.length_set] at hk
    obtain ⟨h1, h2⟩ := h.rows k hk
    refine ⟨by simpa [World.setCell] using h1, ?_⟩
    rw [row_set M i k _ hi]
    by_cases e : k = i
    · rw [if_pos e]; subst e; exact h2.setOwn j x
    · rw [if_neg e]
      exact h2.only (G := [blk R i]) (Only.set _ w j (by simp) _) (by
        rw [List.mem_singleton]; intro e'; exact e (blk_inj h.nodup (by rw [h.len]; exact hk) hiR e'))

/-- A row that is written number by number, j of them so far. -/
def mix (new old : List Int) (j : Nat) : List Int := new.take j ++ old.drop j
theorem mix_zero (new old : List Int) : mix new old 0 = old := rfl
theorem mix_length {new old : List Int} (h : new.length = old.length) (j : Nat) : (mix new old j).length = old.length := by unfold mix; simp; omega
theorem mix_end {new old : List Int} (h : new.length = old.length) {j : Nat} (hj : old.length ≤ j) : mix new old j = new := by
  unfold mix; rw [List.take_of_length_le (by omega), List.drop_eq_nil_of_le hj, List.append_nil]
theorem mix_at {new old : List Int} (h : new.length = old.length) {j : Nat} (hj : j < old.length) : (mix new old j).getD j 0 = old.getD j 0 := by
  unfold mix
  simp only [List.getD]
  rw [List.getElem?_append_right (by simp; omega)]
  simp [List.getElem?_drop, show j - min j new.length = 0 by omega]
theorem mix_step {new old : List Int} (h : new.length = old.length) {j : Nat} (hj : j < old.length) : (mix new old j).set j (new.getD j 0) = mix new old (j + 1) := by
  unfold mix
  apply List.ext_getElem?
  intro k
  rw [List.getElem?_set]
  by_cases e : j = k
  · subst e
    rw [if_pos rfl, if_pos (by simp; omega), List.getElem?_append_left (by simp; omega), List.getElem?_take_of_lt (by omega)]
    simp [List.getD, List.getElem?_eq_getElem (h ▸ hj : j < new.length)]
  · rw [if_neg e]
    by_cases e2 : k < j
    · rw [List.getElem?_append_left (by simp; omega), List.getElem?_append_left (by simp; omega), List.getElem?_take_of_lt e2, List.getElem?_take_of_lt (by omega)]
    · rw [List.getElem?_append_right (by simp; omega), List.getElem?_append_right (by simp; omega), List.getElem?_drop, List.getElem?_drop]
      congr 1
      simp; omega

theorem set_set_mix (M : Lin.Mat) (i : Nat) (a b : List Int) : (M.set i a).set i b = M.set i b := by rw [List.set_set]

/-- The next number of a row is written. -/
theorem Mx.step {w : World} {go : Nat} {ao : Option Addr} {R : List (Nat × Nat)} {M : Lin.Mat} {i j : Nat} {new old : List Int} (h : Mx w go ao R (M.set i (mix new old j))) (hi : i < M.length) (hl : new.length = old.length) (hj : j < old.length) {x : Int} (hx : new.getD j 0 = x) :
    Mx (w.setCell ⟨blk R i, j, none⟩ (.int .i64 x)) go ao R (M.set i (mix new old (j + 1))) := by
  have := h.set (i := i) (by rw [List.length_set]; exact hi) j x
  rw [row_set M i i _ hi, if_pos rfl, ← hx, mix_step hl hj, List.set_set, hx] at this
  exact this

end Go.Proofs.Ythobncbggaggjaa
