/-
  TEXTS of one claim, put together: Mon, Mon2, WMonI3, Mx3.
-/
import Derived.Test.YtmonaiojejbhkaaJg9
import Derived.Test.YtmonaiojejbhkaaJg28
import Derived.Test.YtmonaiojejbhkaaJg8
import Derived.Test.YtmonaiojejbhkaaJg16
/-! MONOMIALS, of no program: lists of exponents in descending order, how many there are. -/

namespace Go.Proofs.Ytmonaiojejbhkaa.Mon
open Sets Hn Kk

/-- All lists of r + 1 exponents that add up to left, in descending order. -/
def fillR : Nat → Nat → List (List Int)
  | 0, left => [[(left : Int)]]
  | r + 1, left => (List.range (left + 1)).flatMap fun j => (fillR r j).map fun L => ((left - j : Nat) : Int) :: L
/-- The same behind a head. -/
def fillH (head : List Int) (r left : Nat) : List (List Int) := (fillR r left).map fun L => head ++ L
/-- Those whose first number behind the head is one of the k greatest. -/
def fillTo (head : List Int) (r left k : Nat) : List (List Int) := (List.range k).flatMap fun j => fillH (head ++ [((left - j : Nat) : Int)]) r j
theorem fillTo_zero (head : List Int) (r left : Nat) : fillTo head r left 0 = [] := rfl
theorem fillTo_next (head : List Int) (r left j x : Nat) (h : x + j = left) : fillTo head r left (j + 1) = fillTo head r left j ++ fillH (head ++ [(x : Int)]) r j := by
  unfold fillTo
  rw [List.range_succ, List.flatMap_append, List.flatMap_singleton, show left - j = x by omega]
theorem fillTo_all (head : List Int) (r left : Nat) : fillTo head r left (left + 1) = fillH head (r + 1) left := by
  unfold fillTo fillH
  rw [fillR, List.map_flatMap]
  congr 1
  funext j
  rw [List.map_map]
  apply List.map_congr_left
  intro L _
  simp
theorem fillH_zero (head : List Int) (left : Nat) : fillH head 0 left = [head ++ [(left : Int)]] := rfl
theorem fillH_length (head : List Int) (r left : Nat) : (fillH head r left).length = (fillR r left).length := List.length_map ..
theorem fillH_nil (r left : Nat) : fillH [] r left = fillR r left := by unfold fillH; simp
theorem fillTo_mono (head : List Int) (r left : Nat) : ∀ k, k ≤ left → (fillTo head r left k).length + (fillR r k).length ≤ (fillR (r + 1) left).length := by
  intro k hk
  have h1 : (fillTo head r left (k + 1)).length = (fillTo head r left k).length + (fillR r k).length := by
    rw [fillTo_next head r left k (left - k) (by omega), List.length_append, fillH_length]
  have h2 : ∀ d, k + 1 + d ≤ left + 1 → (fillTo head r left (k + 1)).length ≤ (fillTo head r left (k + 1 + d)).length := by
    intro d
    induction d with
    | zero => intro _; exact Nat.le_refl _
    | succ d ih =>
      intro h
      rw [show k + 1 + (d + 1) = (k + 1 + d) + 1 by omega, fillTo_next head r left (k + 1 + d) (left - (k + 1 + d)) (by omega), List.length_append]
      have := ih (by omega)
      omega
  have h3 := h2 (left - k) (by omega)
  rw [show k + 1 + (left - k) = left + 1 by omega, fillTo_all, fillH_length] at h3
  omega

/-- Sums of rows. -/
def sumI : List Int → Int
  | [] => 0
  | x :: L => x + sumI L
theorem fillR_row : ∀ (r left : Nat) (L : List Int), L ∈ fillR r left → L.length = r + 1 ∧ sumI L = (left : Int) ∧ ∀ x ∈ L, 0 ≤ x ∧ x ≤ (left : Int)
  | 0, left, L, h => by
    rw [fillR, List.mem_singleton] at h
    subst h
    refine ⟨rfl, by simp [sumI], fun x hx => ?_⟩
    rw [List.mem_singleton] at hx
    omega
  | r + 1, left, L, h => by
    rw [fillR, List.mem_flatMap] at h
    obtain ⟨j, hj, h⟩ := h
    rw [List.mem_range] at hj
    obtain ⟨K, hK, rfl⟩ := List.mem_map.1 h
    obtain ⟨h1, h2, h3⟩ := fillR_row r j K hK
    refine ⟨by rw [List.length_cons, h1], by rw [sumI, h2]; omega, fun x hx => ?_⟩
    rcases List.mem_cons.1 hx with rfl | hx
    · omega
    · have := h3 x hx; omega
theorem fillR_count : ∀ r : Fin 6, ∀ d : Fin 6, (fillR r.val d.val).length = ch (r.val + d.val) d.val := by decide +kernel
theorem fillR_few : ∀ r : Fin 6, ∀ d : Fin 6, (fillR r.val d.val).length ≤ 252 ∧ 1 ≤ (fillR r.val d.val).length := by decide +kernel

/-- CountMonomials. -/
def countZ (n d : Int) : Int := if 1 ≤ n ∧ n ≤ 6 ∧ 0 ≤ d ∧ d ≤ 20 then (ch (n.toNat - 1 + d.toNat) d.toNat : Int) else -1
/-- MonomialsOf. -/
def monB (n d : Int) : Bool := decide (1 ≤ n ∧ n ≤ 6) && decide (0 ≤ d ∧ d ≤ 5)
def monsZ (n d : Int) : List (List Int) := if monB n d = true then fillR (n.toNat - 1) d.toNat else []
theorem monB_iff (n d : Int) : monB n d = true ↔ (1 ≤ n ∧ n ≤ 6) ∧ 0 ≤ d ∧ d ≤ 5 := by
  unfold monB; rw [Bool.and_eq_true, decide_eq_true_eq, decide_eq_true_eq]
/-- FirstMonomials. -/
def firstM (n d m : Int) : List (List Int) := if (monsZ n d).length ≠ 0 ∧ 0 ≤ m ∧ m ≤ ((monsZ n d).length : Int) then (monsZ n d).take m.toNat else []
theorem monsZ_le (n d : Int) : (monsZ n d).length ≤ 252 := by
  unfold monsZ
  split
  · rename_i h
    have h := (monB_iff n d).1 h
    exact (fillR_few ⟨n.toNat - 1, by omega⟩ ⟨d.toNat, by omega⟩).1
  · simp
theorem monsZ_row (n d : Int) (L : List Int) (h : L ∈ monsZ n d) : (L.length : Int) = n ∧ sumI L = d ∧ ∀ x ∈ L, 0 ≤ x ∧ x ≤ 5 := by
  unfold monsZ at h
  split at h
  · rename_i hB
    have hB := (monB_iff n d).1 hB
    obtain ⟨h1, h2, h3⟩ := fillR_row _ _ L h
    refine ⟨by omega, by rw [h2]; omega, fun x hx => ?_⟩
    have := h3 x hx
    omega
  · simp at h
theorem mons_count (n d : Int) (h : 0 < (monsZ n d).length) : ((monsZ n d).length : Int) = countZ n d := by
  unfold monsZ at h ⊢
  by_cases hB : monB n d = true
  · rw [if_pos hB]
    have hb := (monB_iff n d).1 hB
    have := fillR_count ⟨n.toNat - 1, by omega⟩ ⟨d.toNat, by omega⟩
    unfold countZ
    rw [if_pos (by omega)]
    exact congrArg Int.ofNat this
  · rw [if_neg hB] at h
    exact absurd h (by decide)
theorem firstM_le (n d m : Int) : (firstM n d m).length ≤ 252 := by
  unfold firstM
  split
  · exact Nat.le_trans (by rw [List.length_take]; exact Nat.min_le_right _ _) (monsZ_le n d)
  · simp
theorem firstM_row (n d m : Int) (L : List Int) (h : L ∈ firstM n d m) : L ∈ monsZ n d := by
  unfold firstM at h
  split at h
  · exact List.mem_of_mem_take h
  · simp at h
/-- What the law asks of bounds. -/
theorem power_counts : ∀ n : Fin 6, ∀ d : Fin 4, sh 1 (d.val + 1) (ch (n.val + (d.val + 1)) (d.val + 1)) = ch (n.val + (d.val + 2)) (d.val + 2) ∧ ch (n.val + (d.val + 1)) (d.val + 1) ≤ 1000 := by decide +kernel
theorem power_next (n d : Int) (h1 : 1 ≤ d) (h2 : d ≤ 4) (h3 : 1 ≤ n) (h4 : n ≤ 6) : boundZ 1 (countZ n d) d = countZ n (d + 1) := by
  have h := power_counts ⟨n.toNat - 1, by omega⟩ ⟨d.toNat - 1, by omega⟩
  dsimp only at h
  have e1 : d.toNat - 1 + 1 = d.toNat := by omega
  have e2 : d.toNat - 1 + 2 = d.toNat + 1 := by omega
  rw [e1, e2] at h
  have c1 : countZ n d = (ch (n.toNat - 1 + d.toNat) d.toNat : Nat) := by unfold countZ; rw [if_pos (by omega)]
  have c2 : countZ n (d + 1) = (ch (n.toNat - 1 + (d.toNat + 1)) (d.toNat + 1) : Nat) := by
    unfold countZ; rw [if_pos (by omega), show (d + 1).toNat = d.toNat + 1 by omega]
  have c3 : boundZ 1 (countZ n d) d = boundZ 1 ((ch (n.toNat - 1 + d.toNat) d.toNat : Nat) : Int) ((d.toNat : Nat) : Int) := by
    rw [c1, show ((d.toNat : Nat) : Int) = d by omega]
  rw [c3, c2, boundZ_in h.2 (by omega) (by omega), h.1]
theorem countZ_le (n d : Int) : countZ n d ≤ 118264581564861424 ∧ -1 ≤ countZ n d := by
  unfold countZ
  split
  · have := ch_big (n.toNat - 1 + d.toNat) d.toNat (by omega)
    omega
  · omega

end Go.Proofs.Ytmonaiojejbhkaa.Mon

/-! MONOMIALS, of no program: the next lesser list with the same sum. -/

namespace Go.Proofs.Ytmonaiojejbhkaa.Mon
open Sets Hn Kk

/-- The greatest place below p that can give one away gives it, and the place after it takes the rest. -/
def lowAt (L : List Int) (rest : Int) : Nat → Option (List Int)
  | 0 => none
  | p + 1 => if 0 < L.getD p 0 then some ((L.set p (L.getD p 0 - 1)).set (p + 1) rest) else lowAt L rest p
def lowO (L : List Int) : Option (List Int) := lowAt (L.set (L.length - 1) 0) (L.getD (L.length - 1) 0 + 1) (L.length - 1)
theorem lowAt_yes {L : List Int} {rest : Int} {p : Nat} (h : 0 < L.getD p 0) : lowAt L rest (p + 1) = some ((L.set p (L.getD p 0 - 1)).set (p + 1) rest) := by
  rw [lowAt, if_pos h]
theorem lowAt_no {L : List Int} {rest : Int} {p : Nat} (h : ¬ 0 < L.getD p 0) : lowAt L rest (p + 1) = lowAt L rest p := by
  rw [lowAt, if_neg h]

def chainB : List (List Int) → Bool
  | [] => true
  | [L] => decide (lowO L = none)
  | L :: K :: T => decide (lowO L = some K) && chainB (K :: T)
theorem chain_all : ∀ r : Fin 6, ∀ d : Fin 6, chainB (fillR r.val d.val) = true := by decide +kernel
theorem chain_next : ∀ (M : List (List Int)) (k : Nat), chainB M = true → k + 1 < M.length → lowO (M.getD k []) = some (M.getD (k + 1) [])
  | [], k, _, h => by simp at h
  | [L], k, _, h => by simp at h
  | L :: K :: T, 0, hc, _ => by
    rw [chainB, Bool.and_eq_true, decide_eq_true_eq] at hc
    exact hc.1
  | L :: K :: T, k + 1, hc, h => by
    rw [chainB, Bool.and_eq_true] at hc
    have := chain_next (K :: T) k hc.2 (by simpa using h)
    simpa using this
theorem chain_last : ∀ (M : List (List Int)) (k : Nat), chainB M = true → k + 1 = M.length → lowO (M.getD k []) = none
  | [], k, _, h => by simp at h
  | [L], k, hc, h => by
    rw [chainB, decide_eq_true_eq] at hc
    have : k = 0 := by simpa using h
    subst this
    exact hc
  | L :: K :: T, 0, _, h => by simp at h
  | L :: K :: T, k + 1, hc, h => by
    rw [chainB, Bool.and_eq_true] at hc
    have := chain_last (K :: T) k hc.2 (by simpa using h)
    simpa using this
theorem first_all : ∀ r : Fin 6, ∀ d : Fin 6, (fillR r.val d.val).getD 0 [] = ((List.replicate (r.val + 1) (0 : Int)).set 0 (d.val : Int)) := by decide +kernel

/-- CountMonomials by the bars' places. -/
theorem ch_bars : ∀ n : Fin 6, ∀ d : Fin 21, ch (n.val + d.val) n.val = ch (n.val + d.val) d.val := by decide +kernel

end Go.Proofs.Ytmonaiojejbhkaa.Mon

/-! WALKS: impl's chapter 12: CountMonomials. -/

namespace Go.Proofs.Ytmonaiojejbhkaa
open Go.RowKit
open Sets Hn Kk Mon

theorem chooseI_b (n k z : Int) (hz : chZ n k = z) (w : World) : Calls Try.prog 57 #[.int .i64 n, .int .i64 k] w fun e w' => e = .returned (.int .i64 z) ∧ Below w.heap.size w w' := by
  subst hz; exact implChooseZ_any n k w
theorem countZ_choose (n d : Int) (h1 : 1 ≤ n) (h6 : n ≤ 6) (h0 : 0 ≤ d) (h20 : d ≤ 20) : chZ (n + d - 1) (n - 1) = countZ n d := by
  unfold countZ chZ
  rw [if_pos (by omega), if_pos ⟨h1, h6, h0, h20⟩]
  have := ch_bars ⟨n.toNat - 1, by omega⟩ ⟨d.toNat, by omega⟩
  dsimp only at this
  rw [show (n + d - 1).toNat = n.toNat - 1 + d.toNat by omega, show (n - 1).toNat = n.toNat - 1 by omega, this]
theorem countZ_no (n d : Int) (h : ¬(1 ≤ n ∧ n ≤ 6 ∧ 0 ≤ d ∧ d ≤ 20)) : countZ n d = -1 := by
  unfold countZ; rw [if_neg h]

set_option maxRecDepth 100000 in
set_option maxHeartbeats 2000000 in
theorem implCountM_any (n d : Int) (w : World) : Calls Try.prog 25 #[.int .i64 n, .int .i64 d] w fun e w' => e = .returned (.int .i64 (countZ n d)) ∧ Below w.heap.size w w' := by
  cases hN : inB 1 6 n with
  | false =>
    have e : countZ n d = -1 := countZ_no n d (fun h => by
      have : inB 1 6 n = true := (inB_iff _ _ _).2 ⟨h.1, h.2.1⟩
      rw [hN] at this; cases this)
    rw [e]
    have HN := Lib.hid hN
    clear hN e
    go_enter Try.func25, Try.ntmps25
    go_wp2_with fail
    refine (pointCount_b n false HN.out _).mono ?_
    rintro e w' ⟨rfl, rfl⟩
    go_wp2
    go_ret
    exact ⟨rfl, Below.refl _ _⟩
  | true =>
    have HN := Lib.hid hN
    have hn := (inB_iff _ _ _).1 hN
    by_cases h0 : d < 0
    · have hd0 : decide (d < 0) = true := by simpa using h0
      rw [countZ_no n d (by omega)]
      clear hN hn h0
      go_enter Try.func25, Try.ntmps25
      go_wp2_with fail
      refine (pointCount_b n true HN.out _).mono ?_
      rintro e w' ⟨rfl, rfl⟩
      go_wp2
      go_ret
      exact ⟨rfl, Below.refl _ _⟩
    have hd0 : decide (d < 0) = false := by simpa using h0
    by_cases h20 : 20 < d
    · have hd2 : decide (20 < d) = true := by simpa using h20
      rw [countZ_no n d (by omega)]
      clear hN hn h0 h20
      go_enter Try.func25, Try.ntmps25
      go_wp2_with fail
      refine (pointCount_b n true HN.out _).mono ?_
      rintro e w' ⟨rfl, rfl⟩
      go_wp2
      go_ret
      exact ⟨rfl, Below.refl _ _⟩
    have hd2 : decide (20 < d) = false := by simpa using h20
    obtain ⟨z, hz⟩ : ∃ z, countZ n d = z := ⟨_, rfl⟩
    rw [hz]
    have HZ : Hid (chZ (n + d - 1) (n - 1) = z) := by
      have : chZ (n + d - 1) (n - 1) = z := by rw [countZ_choose n d hn.1 hn.2 (by omega) (by omega), hz]
      exact this
    have h1 := hn.1
    have h6 := hn.2
    clear hN hz hn
    go_enter Try.func25, Try.ntmps25
    go_wp2_with fail
    refine (pointCount_b n true HN.out _).mono ?_
    rintro e w' ⟨rfl, rfl⟩
    go_wp2_with fail
    refine (chooseI_b _ _ z HZ.out _).mono ?_
    rintro e w1 ⟨rfl, hb1⟩
    have HB1 := Lib.hid hb1
    clear hb1
    go_wp2
    go_ret
    exact ⟨rfl, HB1.out⟩

end Go.Proofs.Ytmonaiojejbhkaa

/-! MEMORY: rows of a matrix exchanged; what a matrix keeps while another row grows. -/

namespace Go.Proofs.Ytmonaiojejbhkaa
open Go.RowKit

def swapR (R : List (Nat × Nat)) (a d : Nat) : List (Nat × Nat) := (R.set a (R.getD d (0, 0))).set d (R.getD a (0, 0))
theorem swapR_length (R : List (Nat × Nat)) (a d : Nat) : (swapR R a d).length = R.length := by simp [swapR]
theorem swapR_at (R : List (Nat × Nat)) (a d j : Nat) (ha : a < R.length) (hd : d < R.length) : (swapR R a d).getD j (0, 0) = R.getD (if j = d then a else if j = a then d else j) (0, 0) := by
  unfold swapR
  by_cases e : j = d
  · subst e; simp [List.getD, ha, hd]
  · rw [if_neg e]
    by_cases e' : j = a
    · subst e'
      rw [if_pos rfl]
      simp only [List.getD, List.getElem?_set, List.length_set]
      rw [if_neg (fun h => e h.symm)]
      simp [ha]
    · rw [if_neg e']
      simp only [List.getD, List.getElem?_set, List.length_set]
      rw [if_neg (fun h => e h.symm), if_neg (fun h => e' h.symm)]
theorem blk_of_mem {R : List (Nat × Nat)} {g : Nat} (h : g ∈ blks R) : ∃ i, i < R.length ∧ blk R i = g := by
  obtain ⟨⟨a, b⟩, hx, rfl⟩ := List.mem_map.1 h
  obtain ⟨i, hi, hx2⟩ := List.getElem_of_mem hx
  exact ⟨i, hi, by simp [blk, List.getD, List.getElem?_eq_getElem hi, hx2]⟩
def flip2 (a d j : Nat) : Nat := if j = d then a else if j = a then d else j
theorem flip2_lt {a d j m : Nat} (ha : a < m) (hd : d < m) (hj : j < m) : flip2 a d j < m := by unfold flip2; split <;> (try split) <;> assumption
theorem flip2_flip (a d j : Nat) : flip2 a d (flip2 a d j) = j := by
  unfold flip2
  by_cases h1 : j = d
  · subst h1; rw [if_pos rfl]; by_cases h2 : a = j
    · rw [if_pos h2, h2]
    · rw [if_neg h2, if_pos rfl]
  · rw [if_neg h1]
    by_cases h2 : j = a
    · subst h2; rw [if_pos rfl, if_pos rfl]
    · rw [if_neg h2, if_neg h1, if_neg h2]
theorem flip2_inj {a d i j : Nat} (h : flip2 a d i = flip2 a d j) : i = j := by rw [← flip2_flip a d i, h, flip2_flip]
theorem swapR_mem {R : List (Nat × Nat)} {a d : Nat} (ha : a < R.length) (hd : d < R.length) (g : Nat) : g ∈ blks (swapR R a d) ↔ g ∈ blks R := by
  constructor
  · intro h
    obtain ⟨i, hi, rfl⟩ := blk_of_mem h
    rw [swapR_length] at hi
    have := blk_mem (R := R) (flip2_lt ha hd hi)
    rw [show blk (swapR R a d) i = blk R (flip2 a d i) from congrArg Prod.fst (swapR_at R a d i ha hd)]; exact this
  · intro h
    obtain ⟨i, hi, rfl⟩ := blk_of_mem h
    have hlt : flip2 a d i < (swapR R a d).length := by rw [swapR_length]; exact flip2_lt ha hd hi
    have := blk_mem hlt
    rw [show blk (swapR R a d) (flip2 a d i) = blk R (flip2 a d (flip2 a d i)) from congrArg Prod.fst (swapR_at R a d _ ha hd), flip2_flip] at this
    exact this
theorem swapR_nodup {R : List (Nat × Nat)} {a d : Nat} (ha : a < R.length) (hd : d < R.length) (h : (blks R).Nodup) : (blks (swapR R a d)).Nodup := by
  have e : ∀ (Q : List (Nat × Nat)) j, (hj : j < Q.length) → (blks Q)[j]'(by simpa using hj) = blk Q j := fun Q j hj => by simp [blk, blks, List.getD, List.getElem?_eq_getElem hj]
  unfold List.Nodup
  rw [List.pairwise_iff_getElem]
  intro i j hi hj hij he
  have hi' : i < (swapR R a d).length := by simpa using hi
  have hj' : j < (swapR R a d).length := by simpa using hj
  rw [e _ i hi', e _ j hj'] at he
  rw [show blk (swapR R a d) i = blk R (flip2 a d i) from congrArg Prod.fst (swapR_at R a d i ha hd), show blk (swapR R a d) j = blk R (flip2 a d j) from congrArg Prod.fst (swapR_at R a d j ha hd)] at he
  rw [swapR_length] at hi' hj'
  have := flip2_inj (blk_inj h (flip2_lt ha hd hi') (flip2_lt ha hd hj') he)
  omega

/-- Two rows are exchanged. -/
theorem Mx.swap {w : World} {go : Nat} {ao : Option Addr} {R : List (Nat × Nat)} {M : Lin.Mat} (h : Mx w go ao R M) {a d : Nat} (ha : a < M.length) (hd : d < M.length) :
    Mx ((w.setCell ⟨go, a, none⟩ (.slice (some ⟨blk R d, 0, none⟩) (Lin.row M d).length (room R d))).setCell ⟨go, d, none⟩ (.slice (some ⟨blk R a, 0, none⟩) (Lin.row M a).length (room R a))) go ao (swapR R a d) (Lin.swap M a d) := by
  have haR : a < R.length := by rw [h.len]; exact ha
  have hdR : d < R.length := by rw [h.len]; exact hd
  have hrow : ∀ j, Lin.row (Lin.swap M a d) j = Lin.row M (flip2 a d j) := fun j => Lin.swap_row M a d j ha hd
  have hR : ∀ j, (swapR R a d).getD j (0, 0) = R.getD (flip2 a d j) (0, 0) := fun j => swapR_at R a d j haR hdR
  have hsz : ((w.setCell ⟨go, a, none⟩ (.slice (some ⟨blk R d, 0, none⟩) (Lin.row M d).length (room R d))).setCell ⟨go, d, none⟩ (.slice (some ⟨blk R a, 0, none⟩) (Lin.row M a).length (room R a))).heap.size = w.heap.size := by simp [World.setCell]
  refine ⟨by rw [swapR_length, Lin.swap_length]; exact h.len, swapR_nodup haR hdR h.nodup, fun i hi => ?_, fun i hi => ?_, fun hm => h.apart ((swapR_mem haR hdR go).1 hm)⟩
  · rw [Lin.swap_length] at hi
    obtain ⟨h1, h2, h3, h4⟩ := h.out i hi
    refine ⟨h1, by rw [hsz]; exact h2, ?_, by rw [World.frozen?_setCell, World.frozen?_setCell]; exact h4⟩
    simp only [blk, room]
    rw [hrow, hR]
    unfold flip2
    by_cases e : i = d
    · rw [if_pos e, e]
      have hne := (h.out d hd).2.2.1
      by_cases e2 : a = d
      · subst e2
        exact World.cell?_setCell_same _ _ _ (World.cell?_setCell_same _ _ _ hne)
      · exact World.cell?_setCell_same _ _ _ ((World.cell?_setCell_other _ _ _ _ (by simp)).trans hne)
    · rw [if_neg e]
      rw [World.cell?_setCell_other _ _ _ _ (by simp)]
      by_cases e2 : i = a
      · subst e2
        rw [if_pos rfl]
        exact World.cell?_setCell_same _ _ _ h3
      · rw [if_neg e2, World.cell?_setCell_other _ _ _ _ (by simp)]
        exact h3
  · rw [Lin.swap_length] at hi
    obtain ⟨h1, h2⟩ := h.rows _ (flip2_lt ha hd hi)
    simp only [blk] at h1 h2 ⊢
    rw [hrow, hR]
    refine ⟨by rw [hsz]; exact h1, ?_⟩
    refine IntsAt.only (G := [go]) h2 ((Only.set [go] w a (by simp) _).trans (Only.set [go] _ d (by simp) _)) ?_
    rw [List.mem_singleton]
    intro e
    exact h.apart (by rw [← e]; exact blk_mem (R := R) (by rw [h.len]; exact flip2_lt ha hd hi))

theorem Mx.grown {w w' : World} {go : Nat} {ao : Option Addr} {R : List (Nat × Nat)} {M : Lin.Mat} (h : Mx w go ao R M) {b : Option Nat} (hg : w.grownBy w' b) (hb : ∀ g, b = some g → g ≠ go ∧ g ∉ blks R) : Mx w' go ao R M := by
  have hk : ∀ k, k < w.heap.size → (k = go ∨ k ∈ blks R) → w'.heap[k]? = w.heap[k]? := fun k hk hor => hg.block k hk fun e => by
    obtain ⟨h1, h2⟩ := hb k e.symm
    rcases hor with e | e
    · exact h1 e
    · exact h2 e
  refine ⟨h.len, h.nodup, fun i hi => ?_, fun i hi => ?_, h.apart⟩
  · obtain ⟨h1, h2, h3, h4⟩ := h.out i hi
    have e := hk go h2 (.inl rfl)
    exact ⟨h1, Nat.lt_of_lt_of_le h2 hg.size, by rw [World.cell?_of_block (w := w) e]; exact h3, by rw [World.frozen?_of_block (w := w) e]; exact h4⟩
  · obtain ⟨h1, h2⟩ := h.rows i hi
    have e := hk _ h1 (.inr (blk_mem (by rw [h.len]; exact hi)))
    refine ⟨Nat.lt_of_lt_of_le h1 hg.size, fun j hj => ?_⟩
    obtain ⟨q1, q2, q3, q4⟩ := h2 j hj
    exact ⟨q1, Nat.lt_of_lt_of_le q2 hg.size, by rw [World.cell?_of_block (w := w) e]; exact q3, by rw [World.frozen?_of_block (w := w) e]; exact q4⟩
theorem OwnInts.only {w w' : World} {G : List Nat} {base : Nat} {v : Value} {xs : List Int} (h : OwnInts w base v xs) (k : Only G w w') (hv : ∀ g, v.ownBlock = some g → g ∉ G) : OwnInts w' base v xs := by
  unfold OwnInts at *
  refine ⟨h.1, ?_⟩
  rcases h.2 with h0 | ⟨g, cap, cur, hv', h1, hh, hr⟩
  · exact .inl h0
  · refine .inr ⟨g, cap, cur, hv', h1, ?_, hr⟩
    have hlt : g < w.heap.size := by
      rcases Nat.lt_or_ge g w.heap.size with hl | hl
      · exact hl
      · rw [Array.getElem?_eq_none hl] at hh; cases hh
    rw [k.block g hlt (hv g (by rw [hv']; rfl))]; exact hh
theorem Mx.old {w : World} {go : Nat} {ao : Option Addr} {R : List (Nat × Nat)} {M : Lin.Mat} (h : Mx w go ao R M) {g : Nat} (hg : g ∈ blks R) : g < w.heap.size := by
  obtain ⟨i, hi, rfl⟩ := blk_of_mem hg
  exact (h.rows i (by rw [← h.len]; exact hi)).1

end Go.Proofs.Ytmonaiojejbhkaa
