/-
  TEXTS of one claim, put together: Mx3, Adds, Mon, Part2.
-/
import Derived.Test.YtmonaiojejbhkaaJg22
import Derived.Test.YtmonaiojejbhkaaJg6
import Derived.Test.YtmonaiojejbhkaaJg5
/-! MEMORY: rows of a matrix exchanged; what a matrix keeps while another row grows. -/

namespace Go.Proofs.Ytmonaiojejbhkaa
open Go.RowKit

def swapR (R : List (Nat × Nat)) (a d : Nat) : List (Nat × Nat) := (R.set a (R.getD d (0, 0))).set d (R.getD a (0, 0))
theorem swapR_length (R : List (Nat × Nat)) (a d : Nat) : (swapR R a d).length = R.length := by simp [swapR]
theorem swapR_at (R : List (Nat × Nat)) (a d j : Nat) (ha : a < R.length) (hd : d < R.length) : (swapR R a d).getD j (0, 0) = R.getD (if j = d then a else if j = a then d else j) (0, 0) := by
  unfold swapR
  by_cases e : j = d
  · subst e; simp [List.getD, ha, hd]
  · rw [if_neg e]
    by_cases e' : j = a
    · subst e'
      rw [if_pos rfl]
      simp only [List.getD, List.getElem?_set, List.length_set]
      rw [if_neg (fun h => e h.symm)]
      simp [ha]
    · rw [if_neg e']
      simp only [List.getD, List.getElem?_set, List.length_set]
      rw [if_neg (fun h => e h.symm), if_neg (fun h => e' h.symm)]
theorem blk_of_mem {R : List (Nat × Nat)} {g : Nat} (h : g ∈ blks R) : ∃ i, i < R.length ∧ blk R i = g := by
  obtain ⟨⟨a, b⟩, hx, rfl⟩ := List.mem_map.1 h
  obtain ⟨i, hi, hx2⟩ := List.getElem_of_mem hx
  exact ⟨i, hi, by simp [blk, List.getD, List.getElem?_eq_getElem hi, hx2]⟩
def flip2 (a d j : Nat) : Nat := if j = d then a else if j = a then d else j
theorem flip2_lt {a d j m : Nat} (ha : a < m) (hd : d < m) (hj : j < m) : flip2 a d j < m := by unfold flip2; split <;> (try split) <;> assumption
theorem flip2_flip (a d j : Nat) : flip2 a d (flip2 a d j) = j := by
  unfold flip2
  by_cases h1 : j = d
  · subst h1; rw [if_pos rfl]; by_cases h2 : a = j
    · rw [if_pos h2, h2]
    · rw [if_neg h2, if_pos rfl]
  · rw [if_neg h1]
    by_cases h2 : j = a
    · subst h2; rw [if_pos rfl, if_pos rfl]
    · rw [if_neg h2, if_neg h1, if_neg h2]
theorem flip2_inj {a d i j : Nat} (h : flip2 a d i = flip2 a d j) : i = j := by rw [← flip2_flip a d i, h, flip2_flip]
theorem swapR_mem {R : List (Nat × Nat)} {a d : Nat} (ha : a < R.length) (hd : d < R.length) (g : Nat) : g ∈ blks (swapR R a d) ↔ g ∈ blks R := by
  constructor
  · intro h
    obtain ⟨i, hi, rfl⟩ := blk_of_mem h
    rw [swapR_length] at hi
    have := blk_mem (R := R) (flip2_lt ha hd hi)
    rw [show blk (swapR R a d) i = blk R (flip2 a d i) from congrArg Prod.fst (swapR_at R a d i ha hd)]; exact this
  · intro h
    obtain ⟨i, hi, rfl⟩ := blk_of_mem h
    have hlt : flip2 a d i < (swapR R a d).length := by rw [swapR_length]; exact flip2_lt ha hd hi
    have := blk_mem hlt
    rw [show blk (swapR R a d) (flip2 a d i) = blk R (flip2 a d (flip2 a d i)) from congrArg Prod.fst (swapR_at R a d _ ha hd), flip2_flip] at this
    exact this
theorem swapR_nodup {R : List (Nat × Nat)} {a d : Nat} (ha : a < R.length) (hd : d < R.length) (h : (blks R).Nodup) : (blks (swapR R a d)).Nodup := by
  have e : ∀ (Q : List (Nat × Nat)) j, (hj : j < Q.length) → (blks Q)[j]'(by simpa using hj) = blk Q j := fun Q j hj => by simp [blk, blks, List.getD, List.getElem?_eq_getElem hj]
  unfold List.Nodup
  rw [List.pairwise_iff_getElem]
  intro i j hi hj hij he
  have hi' : i < (swapR R a d).length := by simpa using hi
  have hj' : j < (swapR R a d).length := by simpa using hj
  rw [e _ i hi', e _ j hj'] at he
  rw [show blk (swapR R a d) i = blk R (flip2 a d i) from congrArg Prod.fst (swapR_at R a d i ha hd), show blk (swapR R a d) j = blk R (flip2 a d j) from congrArg Prod.fst (swapR_at R a d j ha hd)] at he
  rw [swapR_length] at hi' hj'
  have := flip2_inj (blk_inj h (flip2_lt ha hd hi') (flip2_lt ha hd hj') he)
  omega

/-- Two rows are exchanged. -/
theorem Mx.swap {w : World} {go : Nat} {ao : Option Addr} {R : List (Nat × Nat)} {M : Lin.Mat} (h : Mx w go ao R M) {a d : Nat} (ha : a < M.length) (hd : d < M.length) :
    Mx ((w.setCell ⟨go, a, none⟩ (.slice (some ⟨blk R d, 0, none⟩) (Lin.row M d).length (room R d))).setCell ⟨go, d, none⟩ (.slice (some ⟨blk R a, 0, none⟩) (Lin.row M a).length (room R a))) go ao (swapR R a d) (Lin.swap M a d) := by
  have haR : a < R.length := by rw [h.len]; exact ha
  have hdR : d < R.length := by rw [h.len]; exact hd
  have hrow : ∀ j, Lin.row (Lin.swap M a d) j = Lin.row M (flip2 a d j) := fun j => Lin.swap_row M a d j ha hd
  have hR : ∀ j, (swapR R a d).getD j (0, 0) = R.getD (flip2 a d j) (0, 0) := fun j => swapR_at R a d j haR hdR
  have hsz : ((w.setCell ⟨go, a, none⟩ (.slice (some ⟨blk R d, 0, none⟩) (Lin.row M d).length (room R d))).setCell ⟨go, d, none⟩ (.slice (some ⟨blk R a, 0, none⟩) (Lin.row M a).length (room R a))).heap.size = w.heap.size := by simp [World.setCell]
  refine ⟨by rw [swapR_length, Lin.swap_length]; exact h.len, swapR_nodup haR hdR h.nodup, fun i hi => ?_, fun i hi => ?_, fun hm => h.apart ((swapR_mem haR hdR go).1 hm)⟩
  · rw [Lin.swap_length] at hi
    obtain ⟨h1, h2, h3, h4⟩ := h.out i hi
    refine ⟨h1, by rw [hsz]; exact h2, ?_, by rw [World.frozen?_setCell, World.frozen?_setCell]; exact h4⟩
    simp only [blk, room]
    rw [hrow, hR]
    unfold flip2
    by_cases e : i = d
    · rw [if_pos e, e]
      have hne := (h.out d hd).2.2.1
      by_cases e2 : a = d
      · subst e2
        exact World.cell?_setCell_same _ _ _ (World.cell?_setCell_same _ _ _ hne)
      · exact World.cell?_setCell_same _ _ _ ((World.cell?_setCell_other _ _ _ _ (by simp)).trans hne)
    · rw [if_neg e]
      rw [World.cell?_setCell_other _ _ _ _ (by simp)]
      by_cases e2 : i = a
      · subst e2
        rw [if_pos rfl]
        exact World.cell?_setCell_same _ _ _ h3
      · rw [if_neg e2, World.cell?_setCell_other _ _ _ _ (by simp)]
        exact h3
  · rw [Lin.swap_length] at hi
    obtain ⟨h1, h2⟩ := h.rows _ (flip2_lt ha hd hi)
    simp only [blk] at h1 h2 ⊢
    rw [hrow, hR]
    refine ⟨by rw [hsz]; exact h1, ?_⟩
    refine IntsAt.only (G := [go]) h2 ((Only.set [go] w a (by simp) _).trans (Only.set [go] _ d (by simp) _)) ?_
    rw [List.mem_singleton]
    intro e
    exact h.apart (by rw [← e]; exact blk_mem (R := R) (by rw [h.len]; exact flip2_lt ha hd hi))

theorem Mx.grown {w w' : World} {go : Nat} {ao : Option Addr} {R : List (Nat × Nat)} {M : Lin.Mat} (h : Mx w go ao R M) {b : Option Nat} (hg : w.grownBy w' b) (hb : ∀ g, b = some g → g ≠ go ∧ g ∉ blks R) : Mx w' go ao R M := by
  have hk : ∀ k, k < w.heap.size → (k = go ∨ k ∈ blks R) → w'.heap[k]? = w.heap[k]? := fun k hk hor => hg.block k hk fun e => by
    obtain ⟨h1, h2⟩ := hb k e.symm
    rcases hor with e | e
    · exact h1 e
    · exact h2 e
  refine ⟨h.len, h.nodup, fun i hi => ?_, fun i hi => ?_, h.apart⟩
  · obtain ⟨h1, h2, h3, h4⟩ := h.out i hi
    have e := hk go h2 (.inl rfl)
    exact ⟨h1, Nat.lt_of_lt_of_le h2 hg.size, by rw [World.cell?_of_block (w := w) e]; exact h3, by rw [World.frozen?_of_block (w := w) e]; exact h4⟩
  · obtain ⟨h1, h2⟩ := h.rows i hi
    have e := hk _ h1 (.inr (blk_mem (by rw [h.len]; exact hi)))
    refine ⟨Nat.lt_of_lt_of_le h1 hg.size, fun j hj => ?_⟩
    obtain ⟨q1, q2, q3, q4⟩ := h2 j hj
    exact ⟨q1, Nat.lt_of_lt_of_le q2 hg.size, by rw [World.cell?_of_block (w := w) e]; exact q3, by rw [World.frozen?_of_block (w := w) e]; exact q4⟩
theorem OwnInts.only {w w' : World} {G : List Nat} {base : Nat} {v : Value} {xs : List Int} (h : OwnInts w base v xs) (k : Only G w w') (hv : ∀ g, v.ownBlock = some g → g ∉ G) : OwnInts w' base v xs := by
  unfold OwnInts at *
  refine ⟨h.1, ?_⟩
  rcases h.2 with h0 | ⟨g, cap, cur, hv', h1, hh, hr⟩
  · exact .inl h0
  · refine .inr ⟨g, cap, cur, hv', h1, ?_, hr⟩
    have hlt : g < w.heap.size := by
      rcases Nat.lt_or_ge g w.heap.size with hl | hl
      · exact hl
      · rw [Array.getElem?_eq_none hl] at hh; cases hh
    rw [k.block g hlt (hv g (by rw [hv']; rfl))]; exact hh
theorem Mx.old {w : World} {go : Nat} {ao : Option Addr} {R : List (Nat × Nat)} {M : Lin.Mat} (h : Mx w go ao R M) {g : Nat} (hg : g ∈ blks R) : g < w.heap.size := by
  obtain ⟨i, hi, rfl⟩ := blk_of_mem hg
  exact (h.rows i (by rw [← h.len]; exact hi)).1

end Go.Proofs.Ytmonaiojejbhkaa

/-! MEMORY: a call that adds rows to a matrix that it is given. -/

namespace Go.Proofs.Ytmonaiojejbhkaa
open Go.RowKit

theorem only_grown {w w' : World} {o : Option Nat} (h : w.grownBy w' o) : Only o.toList w w' :=
  ⟨h.os, h.tape, h.output, h.size, fun k hk hn => h.block k hk (fun e => hn (by rw [← e]; simp))⟩
theorem not_toList {o : Option Nat} {g : Nat} (h : o ≠ some g) : g ∉ o.toList := by
  intro hm; cases o with
  | none => simp at hm
  | some x => simp at hm; exact h (by rw [hm])
theorem only_step {w wr w4 w5 : World} {o o2 : Option Nat} (h1 : Only o.toList w wr) (h2 : Below wr.heap.size wr w4) (h3 : Only o2.toList w4 w5) (ho : o2 = o ∨ ∃ z, o2 = some z ∧ w.heap.size ≤ z) : Only o.toList w w5 := by
  have hs1 := h1.size
  have hs2 := h2.size
  refine ⟨h3.os.trans (h2.os.trans h1.os), h3.tape.trans (h2.tape.trans h1.tape), h3.output.trans (h2.output.trans h1.output), Nat.le_trans hs1 (Nat.le_trans hs2 h3.size), fun k hk hn => ?_⟩
  rw [h3.block k (by omega) ?_, h2.block k (by omega), h1.block k hk hn]
  rcases ho with rfl | ⟨z, rfl, hz⟩
  · exact hn
  · intro hm; simp at hm; omega

/-- What a call that adds rows leaves. -/
structure Adds (v : Value) (w : World) (R : List (Nat × Nat)) (v' : Value) (w' : World) (R' : List (Nat × Nat)) (hg : Option Nat) : Prop where
  only : Only v.ownBlock.toList w w'
  own : v'.ownBlock = v.ownBlock ∨ ∃ z, v'.ownBlock = some z ∧ w.heap.size ≤ z
  rows : ∀ g, g ∈ blks R' → g ∈ blks R ∨ hg = some g ∨ w.heap.size ≤ g

end Go.Proofs.Ytmonaiojejbhkaa

/-! MONOMIALS, of no program: lists of exponents in descending order, how many there are. -/

namespace Go.Proofs.Ytmonaiojejbhkaa.Mon
open Sets Hn Kk

/-- All lists of r + 1 exponents that add up to left, in descending order. -/
def fillR : Nat → Nat → List (List Int)
  | 0, left => [[(left : Int)]]
  | r + 1, left => (List.range (left + 1)).flatMap fun j => (fillR r j).map fun L => ((left - j : Nat) : Int) :: L
/-- The same behind a head. -/
def fillH (head : List Int) (r left : Nat) : List (List Int) := (fillR r left).map fun L => head ++ L
/-- Those whose first number behind the head is one of the k greatest. -/
def fillTo (head : List Int) (r left k : Nat) : List (List Int) := (List.range k).flatMap fun j => fillH (head ++ [((left - j : Nat) : Int)]) r j
theorem fillTo_zero (head : List Int) (r left : Nat) : fillTo head r left 0 = [] := rfl
theorem fillTo_next (head : List Int) (r left j x : Nat) (h : x + j = left) : fillTo head r left (j + 1) = fillTo head r left j ++ fillH (head ++ [(x : Int)]) r j := by
  unfold fillTo
  rw [List.range_succ, List.flatMap_append, List.flatMap_singleton, show left - j = x by omega]
theorem fillTo_all (head : List Int) (r left : Nat) : fillTo head r left (left + 1) = fillH head (r + 1) left := by
  unfold fillTo fillH
  rw [fillR, List.map_flatMap]
  congr 1
  funext j
  rw [List.map_map]
  apply List.map_congr_left
  intro L _
  simp
theorem fillH_zero (head : List Int) (left : Nat) : fillH head 0 left = [head ++ [(left : Int)]] := rfl
theorem fillH_length (head : List Int) (r left : Nat) : (fillH head r left).length = (fillR r left).length := List.length_map ..
theorem fillH_nil (r left : Nat) : fillH [] r left = fillR r left := by unfold fillH; simp
theorem fillTo_mono (head : List Int) (r left : Nat) : ∀ k, k ≤ left → (fillTo head r left k).length + (fillR r k).length ≤ (fillR (r + 1) left).length := by
  intro k hk
  have h1 : (fillTo head r left (k + 1)).length = (fillTo head r left k).length + (fillR r k).length := by
    rw [fillTo_next head r left k (left - k) (by omega), List.length_append, fillH_length]
  have h2 : ∀ d, k + 1 + d ≤ left + 1 → (fillTo head r left (k + 1)).length ≤ (fillTo head r left (k + 1 + d)).length := by
    intro d
    induction d with
    | zero => intro _; exact Nat.le_refl _
    | succ d ih =>
      intro h
      rw [show k + 1 + (d + 1) = (k + 1 + d) + 1 by omega, fillTo_next head r left (k + 1 + d) (left - (k + 1 + d)) (by omega), List.length_append]
      have := ih (by omega)
      omega
  have h3 := h2 (left - k) (by omega)
  rw [show k + 1 + (left - k) = left + 1 by omega, fillTo_all, fillH_length] at h3
  omega

/-- Sums of rows. -/
def sumI : List Int → Int
  | [] => 0
  | x :: L => x + sumI L
theorem fillR_row : ∀ (r left : Nat) (L : List Int), L ∈ fillR r left → L.length = r + 1 ∧ sumI L = (left : Int) ∧ ∀ x ∈ L, 0 ≤ x ∧ x ≤ (left : Int)
  | 0, left, L, h => by
    rw [fillR, List.mem_singleton] at h
    subst h
    refine ⟨rfl, by simp [sumI], fun x hx => ?_⟩
    rw [List.mem_singleton] at hx
    omega
  | r + 1, left, L, h => by
    rw [fillR, List.mem_flatMap] at h
    obtain ⟨j, hj, h⟩ := h
    rw [List.mem_range] at hj
    obtain ⟨K, hK, rfl⟩ := List.mem_map.1 h
    obtain ⟨h1, h2, h3⟩ := fillR_row r j K hK
    refine ⟨by rw [List.length_cons, h1], by rw [sumI, h2]; omega, fun x hx => ?_⟩
    rcases List.mem_cons.1 hx with rfl | hx
    · omega
    · have := h3 x hx; omega
theorem fillR_count : ∀ r : Fin 6, ∀ d : Fin 6, (fillR r.val d.val).length = ch (r.val + d.val) d.val := by decide +kernel
theorem fillR_few : ∀ r : Fin 6, ∀ d : Fin 6, (fillR r.val d.val).length ≤ 252 ∧ 1 ≤ (fillR r.val d.val).length := by decide +kernel

/-- CountMonomials. -/
def countZ (n d : Int) : Int := if 1 ≤ n ∧ n ≤ 6 ∧ 0 ≤ d ∧ d ≤ 20 then (ch (n.toNat - 1 + d.toNat) d.toNat : Int) else -1
/-- MonomialsOf. -/
def monB (n d : Int) : Bool := decide (1 ≤ n ∧ n ≤ 6) && decide (0 ≤ d ∧ d ≤ 5)
def monsZ (n d : Int) : List (List Int) := if monB n d = true then fillR (n.toNat - 1) d.toNat else []
theorem monB_iff (n d : Int) : monB n d = true ↔ (1 ≤ n ∧ n ≤ 6) ∧ 0 ≤ d ∧ d ≤ 5 := by
  unfold monB; rw [Bool.and_eq_true, decide_eq_true_eq, decide_eq_true_eq]
/-- FirstMonomials. -/
def firstM (n d m : Int) : List (List Int) := if (monsZ n d).length ≠ 0 ∧ 0 ≤ m ∧ m ≤ ((monsZ n d).length : Int) then (monsZ n d).take m.toNat else []
theorem monsZ_le (n d : Int) : (monsZ n d).length ≤ 252 := by
  unfold monsZ
  split
  · rename_i h
    have h := (monB_iff n d).1 h
    exact (fillR_few ⟨n.toNat - 1, by omega⟩ ⟨d.toNat, by omega⟩).1
  · simp
theorem monsZ_row (n d : Int) (L : List Int) (h : L ∈ monsZ n d) : (L.length : Int) = n ∧ sumI L = d ∧ ∀ x ∈ L, 0 ≤ x ∧ x ≤ 5 := by
  unfold monsZ at h
  split at h
  · rename_i hB
    have hB := (monB_iff n d).1 hB
    obtain ⟨h1, h2, h3⟩ := fillR_row _ _ L h
    refine ⟨by omega, by rw [h2]; omega, fun x hx => ?_⟩
    have := h3 x hx
    omega
  · simp at h
theorem mons_count (n d : Int) (h : 0 < (monsZ n d).length) : ((monsZ n d).length : Int) = countZ n d := by
  unfold monsZ at h ⊢
  by_cases hB : monB n d = true
  · rw [if_pos hB]
    have hb := (monB_iff n d).1 hB
    have := fillR_count ⟨n.toNat - 1, by omega⟩ ⟨d.toNat, by omega⟩
    unfold countZ
    rw [if_pos (by omega)]
    exact congrArg Int.ofNat this
  · rw [if_neg hB] at h
    exact absurd h (by decide)
theorem firstM_le (n d m : Int) : (firstM n d m).length ≤ 252 := by
  unfold firstM
  split
  · exact Nat.le_trans (by rw [List.length_take]; exact Nat.min_le_right _ _) (monsZ_le n d)
  · simp
theorem firstM_row (n d m : Int) (L : List Int) (h : L ∈ firstM n d m) : L ∈ monsZ n d := by
  unfold firstM at h
  split at h
  · exact List.mem_of_mem_take h
  · simp at h
/-- What the law asks of bounds. -/
theorem power_counts : ∀ n : Fin 6, ∀ d : Fin 4, sh 1 (d.val + 1) (ch (n.val + (d.val + 1)) (d.val + 1)) = ch (n.val + (d.val + 2)) (d.val + 2) ∧ ch (n.val + (d.val + 1)) (d.val + 1) ≤ 1000 := by decide +kernel
theorem power_next (n d : Int) (h1 : 1 ≤ d) (h2 : d ≤ 4) (h3 : 1 ≤ n) (h4 : n ≤ 6) : boundZ 1 (countZ n d) d = countZ n (d + 1) := by
  have h := power_counts ⟨n.toNat - 1, by omega⟩ ⟨d.toNat - 1, by omega⟩
  dsimp only at h
  have e1 : d.toNat - 1 + 1 = d.toNat := by omega
  have e2 : d.toNat - 1 + 2 = d.toNat + 1 := by omega
  rw [e1, e2] at h
  have c1 : countZ n d = (ch (n.toNat - 1 + d.toNat) d.toNat : Nat) := by unfold countZ; rw [if_pos (by omega)]
  have c2 : countZ n (d + 1) = (ch (n.toNat - 1 + (d.toNat + 1)) (d.toNat + 1) : Nat) := by
    unfold countZ; rw [if_pos (by omega), show (d + 1).toNat = d.toNat + 1 by omega]
  have c3 : boundZ 1 (countZ n d) d = boundZ 1 ((ch (n.toNat - 1 + d.toNat) d.toNat : Nat) : Int) ((d.toNat : Nat) : Int) := by
    rw [c1, show ((d.toNat : Nat) : Int) = d by omega]
  rw [c3, c2, boundZ_in h.2 (by omega) (by omega), h.1]
theorem countZ_le (n d : Int) : countZ n d ≤ 118264581564861424 ∧ -1 ≤ countZ n d := by
  unfold countZ
  split
  · have := ch_big (n.toNat - 1 + d.toNat) d.toNat (by omega)
    omega
  · omega

end Go.Proofs.Ytmonaiojejbhkaa.Mon

/-! PARTS OF COMPLEXES, of no program: the lists out of which the model makes them. -/

namespace Go.Proofs.Ytmonaiojejbhkaa
open Sets

theorem tk_next (L : List Int) (k : Nat) (h : k < L.length) : L.take (k + 1) = L.take k ++ [L.getD k 0] := by
  rw [List.take_add_one, List.getD, List.getElem?_eq_getElem h]; rfl
/-- Those of the first k that meet p. -/
def keepL (p : Int → Bool) (L : List Int) (k : Nat) : List Int := (L.take k).filter p
theorem keepL_hit (p : Int → Bool) (L : List Int) (k : Nat) (h : k < L.length) (e : p (L.getD k 0) = true) : keepL p L (k + 1) = keepL p L k ++ [L.getD k 0] := by
  unfold keepL; rw [tk_next L k h, List.filter_append]; generalize L.getD k 0 = x at e ⊢; simp [e]
theorem keepL_miss (p : Int → Bool) (L : List Int) (k : Nat) (h : k < L.length) (e : p (L.getD k 0) = false) : keepL p L (k + 1) = keepL p L k := by
  unfold keepL; rw [tk_next L k h, List.filter_append]; generalize L.getD k 0 = x at e ⊢; simp [e]
theorem keepL_le (p : Int → Bool) (L : List Int) (k : Nat) : (keepL p L k).length ≤ k := by
  unfold keepL
  refine Nat.le_trans (List.length_filter_le _ _) ?_
  rw [List.length_take]; omega
theorem keepL_all (p : Int → Bool) (L : List Int) : keepL p L L.length = L.filter p := by unfold keepL; rw [List.take_length]
theorem filter_ok {L : List Int} (p : Int → Bool) (h : allOk L = true) : allOk (L.filter p) = true := by
  unfold allOk at *
  rw [List.all_eq_true] at *
  exact fun x hx => h x (List.mem_filter.1 hx).1

/-- The first k, each turned by f. -/
def mapL (f : Int → Int) (L : List Int) (k : Nat) : List Int := (L.take k).map f
theorem mapL_next (f : Int → Int) (L : List Int) (k : Nat) (h : k < L.length) : mapL f L (k + 1) = mapL f L k ++ [f (L.getD k 0)] := by
  unfold mapL; rw [tk_next L k h, List.map_append]; rfl
theorem mapL_le (f : Int → Int) (L : List Int) (k : Nat) : (mapL f L k).length ≤ k := by
  unfold mapL; rw [List.length_map, List.length_take]; omega
theorem mapL_all (f : Int → Int) (L : List Int) : mapL f L L.length = L.map f := by unfold mapL; rw [List.take_length]

/-! ### link -/

def linkL (s : Nat) (L : List Int) (k : Nat) : List Int := (keepL (fun f => sub s f.toNat) L k).map fun f => f - (s : Int)
theorem linkL_hit (s : Nat) (L : List Int) (k : Nat) (h : k < L.length) (e : sub s (L.getD k 0).toNat = true) : linkL s L (k + 1) = linkL s L k ++ [L.getD k 0 - (s : Int)] := by
  unfold linkL; rw [keepL_hit _ L k h e, List.map_append]; rfl
theorem linkL_miss (s : Nat) (L : List Int) (k : Nat) (h : k < L.length) (e : sub s (L.getD k 0).toNat = false) : linkL s L (k + 1) = linkL s L k := by
  unfold linkL; rw [keepL_miss _ L k h e]
theorem linkL_le (s : Nat) (L : List Int) (k : Nat) : (linkL s L k).length ≤ k := by
  unfold linkL; rw [List.length_map]; exact keepL_le _ _ _
theorem mem_linkL (s : Nat) (hs : s < 64) (L : List Int) (h : allOk L = true) (x : Int) : x ∈ linkL s L L.length ↔ ∃ f : Nat, (f : Int) ∈ L ∧ f < 64 ∧ sub s f = true ∧ x = ((f ^^^ s : Nat) : Int) := by
  unfold linkL
  rw [keepL_all, List.mem_map]
  constructor
  · rintro ⟨y, hy, rfl⟩
    rw [List.mem_filter] at hy
    obtain ⟨f, rfl, hf⟩ := ok_nat h hy.1
    have e : sub s f = true := hy.2
    have := sub_le e
    exact ⟨f, hy.1, hf, e, by rw [← take_away f s hf hs e]; omega⟩
  · rintro ⟨f, hf, hf64, e, rfl⟩
    have := sub_le e
    exact ⟨(f : Int), List.mem_filter.2 ⟨hf, e⟩, by rw [← take_away f s hf64 hs e]; omega⟩
theorem linkL_ok (s : Nat) (hs : s < 64) (L : List Int) (h : allOk L = true) : allOk (linkL s L L.length) = true := by
  unfold allOk
  rw [List.all_eq_true]
  intro x hx
  obtain ⟨f, _, hf, e, rfl⟩ := (mem_linkL s hs L h x).1 hx
  rw [← take_away f s hf hs e]
  exact (okZ_nat _).2 (by omega)
theorem linkL_inF (s : Nat) (hs : s < 64) (L : List Int) (h : allOk L = true) (t : Nat) : inF (linkL s L L.length) t = linkQ L s t := by
  unfold linkQ
  rw [Bool.eq_iff_iff, Bool.and_eq_true, inF_iff, inF_iff]
  constructor
  · rintro ⟨x, hx, e⟩
    obtain ⟨f, hf, hf64, k, rfl⟩ := (mem_linkL s hs L h x).1 hx
    have e : sub t (f ^^^ s) = true := e
    rw [sub_xor t f s k, Bool.and_eq_true] at e
    exact ⟨e.1, (f : Int), hf, by show sub (t ||| s) f = true; rw [sub_or, e.2, k]; rfl⟩
  · rintro ⟨ha, x, hx, e⟩
    obtain ⟨f, rfl, hf⟩ := ok_nat h hx
    have e : sub (t ||| s) f = true := e
    rw [sub_or, Bool.and_eq_true] at e
    exact ⟨_, (mem_linkL s hs L h _).2 ⟨f, hx, hf, e.2, rfl⟩, by show sub t (f ^^^ s) = true; rw [sub_xor t f s e.2, ha, e.1]; rfl⟩
theorem link_spec (s : Nat) (hs : s < 64) (L : List Int) (h : allOk L = true) : maximal (linkL s L L.length) = maxQ (linkQ L s) := by
  rw [maximal_maxQ _ (linkL_ok s hs L h)]
  exact maxQ_congr fun t _ => linkL_inF s hs L h t

/-! ### star -/

theorem star_spec (s : Nat) (L : List Int) (h : allOk L = true) : maximal (keepL (fun f => sub s f.toNat) L L.length) = maxQ (starQ L s) := by
  rw [keepL_all, maximal_maxQ _ (filter_ok _ h)]
  refine maxQ_congr fun t _ => ?_
  unfold starQ
  rw [Bool.eq_iff_iff, inF_iff, inF_iff]
  constructor
  · rintro ⟨x, hx, e⟩
    rw [List.mem_filter] at hx
    exact ⟨x, hx.1, by rw [sub_or, e, hx.2]; rfl⟩
  · rintro ⟨x, hx, e⟩
    rw [sub_or, Bool.and_eq_true] at e
    exact ⟨x, List.mem_filter.2 ⟨hx, e.2⟩, e.1⟩

/-! ### families of faces -/

/-- The greatest of those faces that meet a predicate. -/
theorem keep_spec (n : Int) (xs : List Int) (hc : isC n xs = true) (p : Nat → Bool) (hd : Down fun t => inF xs t && p t) :
    maximal (keepL (fun f => p f.toNat) (faces n xs) (faces n xs).length) = maxQ fun t => inF xs t && p t := by
  have hf : faces n xs = ord (inF xs) := by unfold faces; rw [if_pos hc]
  rw [keepL_all, hf]
  have e : (ord (inF xs)).filter (fun f => p f.toNat) = ord fun t => inF xs t && p t := by
    rw [ord_filter (inF xs), List.filter_filter, ord_filter fun t => inF xs t && p t]
    apply List.filter_congr
    intro x _
    rw [Bool.and_comm]
  rw [e]
  exact maximal_ord _ hd
theorem del_spec (n : Int) (xs : List Int) (hc : isC n xs = true) (s : Nat) : maximal (keepL (fun f => !sub s f.toNat) (faces n xs) (faces n xs).length) = maxQ (delQ xs s) :=
  keep_spec n xs hc (fun t => !sub s t) (delQ_down xs s)
theorem skel_spec (n : Int) (xs : List Int) (hc : isC n xs = true) (k : Int) : maximal (keepL (fun f => decide ((pc f.toNat : Int) ≤ k)) (faces n xs) (faces n xs).length) = maxQ (skelQ xs k) :=
  keep_spec n xs hc (fun t => decide ((pc t : Int) ≤ k)) (skelQ_down xs k)

/-! ### induced -/

def meetZ (s : Nat) (f : Int) : Int := ((f.toNat &&& s : Nat) : Int)
theorem map_ok {L : List Int} (s : Nat) (h : allOk L = true) : allOk (L.map (meetZ s)) = true := by
  unfold allOk
  rw [List.all_eq_true]
  intro x hx
  obtain ⟨y, hy, rfl⟩ := List.mem_map.1 hx
  obtain ⟨f, rfl, hf⟩ := ok_nat h hy
  exact (okZ_nat _).2 (Nat.lt_of_le_of_lt Nat.and_le_left hf)
theorem ind_spec (s : Nat) (L : List Int) (h : allOk L = true) : maximal (mapL (meetZ s) L L.length) = maxQ (indQ L s) := by
  rw [mapL_all, maximal_maxQ _ (map_ok s h)]
  refine maxQ_congr fun t _ => ?_
  unfold indQ
  rw [Bool.eq_iff_iff, Bool.and_eq_true, inF_iff, inF_iff]
  constructor
  · rintro ⟨x, hx, e⟩
    obtain ⟨y, hy, rfl⟩ := List.mem_map.1 hx
    have e : sub t (y.toNat &&& s) = true := e
    rw [sub_and, Bool.and_eq_true] at e
    exact ⟨⟨y, hy, e.1⟩, e.2⟩
  · rintro ⟨⟨y, hy, e⟩, k⟩
    exact ⟨_, List.mem_map.2 ⟨y, hy, rfl⟩, by show sub t (y.toNat &&& s) = true; rw [sub_and, e, k]; rfl⟩

/-! ### union and meet -/

theorem app_ok {xs ys : List Int} (hx : allOk xs = true) (hy : allOk ys = true) : allOk (xs ++ ys) = true := by
  unfold allOk at *; rw [List.all_append, hx, hy]; rfl
theorem union_spec (xs ys : List Int) (hx : allOk xs = true) (hy : allOk ys = true) : maximal (xs ++ ys) = maxQ (orQ xs ys) := by
  rw [maximal_maxQ _ (app_ok hx hy)]
  refine maxQ_congr fun t _ => ?_
  unfold orQ inF
  rw [List.any_append]
/-- The meets of the first i with all, and of the next with the first k. -/
def meetL (xs ys : List Int) (i k : Nat) : List Int := (xs.take i).flatMap (fun f => ys.map (meetZ f.toNat)) ++ mapL (meetZ (xs.getD i 0).toNat) ys k
theorem meetL_start (xs ys : List Int) : meetL xs ys 0 0 = [] := rfl
theorem meetL_next (xs ys : List Int) (i k : Nat) (h : k < ys.length) : meetL xs ys i (k + 1) = meetL xs ys i k ++ [meetZ (xs.getD i 0).toNat (ys.getD k 0)] := by
  unfold meetL; rw [mapL_next _ _ _ h, List.append_assoc]
theorem meetL_line (xs ys : List Int) (i : Nat) (h : i < xs.length) : meetL xs ys i ys.length = meetL xs ys (i + 1) 0 := by
  unfold meetL
  rw [mapL_all, tk_next xs i h, List.flatMap_append]
  simp [mapL]
theorem meetL_le (xs ys : List Int) (i k : Nat) : (meetL xs ys i k).length ≤ xs.length * ys.length + ys.length := by
  unfold meetL
  rw [List.length_append]
  have h1 : ((xs.take i).flatMap fun f => ys.map (meetZ f.toNat)).length = (xs.take i).length * ys.length := by
    generalize xs.take i = L
    induction L with
    | nil => simp
    | cons x L ih => rw [List.flatMap_cons, List.length_append, List.length_map, ih, List.length_cons, Nat.succ_mul, Nat.add_comm]
  have h2 : (mapL (meetZ (xs.getD i 0).toNat) ys k).length ≤ ys.length := by
    unfold mapL; rw [List.length_map, List.length_take]; omega
  have h3 : (xs.take i).length ≤ xs.length := by rw [List.length_take]; omega
  have := Nat.mul_le_mul_right ys.length h3
  omega
theorem mem_meetL (xs ys : List Int) (x : Int) : x ∈ meetL xs ys xs.length 0 ↔ ∃ f g : Int, f ∈ xs ∧ g ∈ ys ∧ x = meetZ f.toNat g := by
  unfold meetL
  rw [List.take_length]
  have e : mapL (meetZ (xs.getD xs.length 0).toNat) ys 0 = [] := rfl
  rw [e, List.append_nil, List.mem_flatMap]
  constructor
  · rintro ⟨f, hf, hx⟩
    obtain ⟨g, hg, rfl⟩ := List.mem_map.1 hx
    exact ⟨f, g, hf, hg, rfl⟩
  · rintro ⟨f, g, hf, hg, rfl⟩
    exact ⟨f, hf, List.mem_map.2 ⟨g, hg, rfl⟩⟩
theorem meetL_ok (xs ys : List Int) (hy : allOk ys = true) : allOk (meetL xs ys xs.length 0) = true := by
  unfold allOk
  rw [List.all_eq_true]
  intro x hx
  obtain ⟨f, g, _, hg, rfl⟩ := (mem_meetL xs ys x).1 hx
  obtain ⟨b, rfl, hb⟩ := ok_nat hy hg
  exact (okZ_nat _).2 (Nat.lt_of_le_of_lt Nat.and_le_left hb)
theorem meet_spec (xs ys : List Int) (hy : allOk ys = true) : maximal (meetL xs ys xs.length 0) = maxQ (andQ xs ys) := by
  rw [maximal_maxQ _ (meetL_ok xs ys hy)]
  refine maxQ_congr fun t _ => ?_
  unfold andQ
  rw [Bool.eq_iff_iff, Bool.and_eq_true, inF_iff, inF_iff, inF_iff]
  constructor
  · rintro ⟨x, hx, e⟩
    obtain ⟨f, g, hf, hg, rfl⟩ := (mem_meetL xs ys x).1 hx
    have e : sub t (g.toNat &&& f.toNat) = true := e
    rw [sub_and, Bool.and_eq_true] at e
    exact ⟨⟨f, hf, e.2⟩, g, hg, e.1⟩
  · rintro ⟨⟨f, hf, e1⟩, g, hg, e2⟩
    exact ⟨_, (mem_meetL xs ys _).2 ⟨f, g, hf, hg, rfl⟩, by show sub t (g.toNat &&& f.toNat) = true; rw [sub_and, e1, e2]; rfl⟩

end Go.Proofs.Ytmonaiojejbhkaa
