/-
  TEXTS of one claim, put together: Hn, HnLaw, WCx1, WWhere.
-/
import Derived.Test.YtcgfioakjmbciaaJg1
import Derived.Laws.ResultCell
import Derived.WalkMore
import Derived.Shelf.Abstract
/-! H NUMBERS, of no program: binomial numbers, sums by them, what chapter 10's law says. -/

namespace Go.Proofs.Ytcgfioakjmbciaa.Hn
open Sets

/-- How many ways to choose k of n. -/
def ch : Nat → Nat → Nat
  | _, 0 => 1
  | 0, _ + 1 => 0
  | n + 1, k + 1 => ch n k + ch n (k + 1)
theorem ch_zero (n : Nat) : ch n 0 = 1 := by cases n <;> rfl
theorem ch_next (n k : Nat) : ch (n + 1) (k + 1) = ch n k + ch n (k + 1) := rfl
theorem ch_gt : ∀ (n k : Nat), n < k → ch n k = 0
  | 0, 0, h => by omega
  | 0, _ + 1, _ => rfl
  | n + 1, 0, h => by omega
  | n + 1, k + 1, h => by rw [ch_next, ch_gt n k (by omega), ch_gt n (k + 1) (by omega)]
theorem ch_mul : ∀ (n k : Nat), ch (n + 1) (k + 1) * (k + 1) = ch n k * (n + 1)
  | 0, 0 => rfl
  | 0, k + 1 => by rw [ch_next, ch_gt 0 (k + 1) (by omega), ch_gt 0 (k + 1 + 1) (by omega)]; omega
  | n + 1, 0 => by
    have h := ch_mul n 0
    rw [ch_next, ch_zero]
    rw [ch_zero] at h
    omega
  | n + 1, k + 1 => by
    have h1 := ch_mul n k
    have h2 := ch_mul n (k + 1)
    rw [ch_next (n + 1) (k + 1)]
    have h3 := ch_next n k
    have e1 : (ch (n + 1) (k + 1) + ch (n + 1) (k + 1 + 1)) * (k + 1 + 1) = ch (n + 1) (k + 1) * (k + 1) + ch (n + 1) (k + 1) + ch (n + 1) (k + 1 + 1) * (k + 1 + 1) := by
      rw [Nat.add_mul, Nat.mul_add (ch (n + 1) (k + 1)) (k + 1) 1, Nat.mul_one]
    rw [e1, h1, h2]
    have e2 : ch (n + 1) (k + 1) * (n + 1 + 1) = ch n k * (n + 1) + ch n (k + 1) * (n + 1) + ch (n + 1) (k + 1) := by
      rw [Nat.mul_add (ch (n + 1) (k + 1)) (n + 1) 1, Nat.mul_one, h3, Nat.add_mul]
    rw [e2]; omega
theorem ch_step (n i : Nat) (h : i ≤ n) : ch n (i + 1) * (i + 1) = ch n i * (n - i) := by
  have h1 := ch_mul n i
  rw [ch_next, Nat.add_mul] at h1
  have e : ch n i * (n + 1) = ch n i * (n - i) + ch n i * (i + 1) := by rw [← Nat.mul_add]; congr 1; omega
  omega

/-- The numbers of n things, side by side. -/
def nxt : List Nat → List Nat
  | [] => []
  | x :: r => (x + r.headD 0) :: nxt r
def line : Nat → List Nat
  | 0 => [1]
  | n + 1 => 1 :: nxt (line n)
theorem nxt_get : ∀ (l : List Nat) (k : Nat), (nxt l).getD k 0 = l.getD k 0 + if k < l.length then l.getD (k + 1) 0 else 0
  | [], k => by simp [nxt]
  | x :: r, 0 => by cases r <;> simp [nxt]
  | x :: r, k + 1 => by
    have := nxt_get r k
    simp only [nxt, List.getD_cons_succ, List.length_cons, Nat.add_lt_add_iff_right]
    exact this
theorem line_length : ∀ n, (line n).length = n + 1
  | 0 => rfl
  | n + 1 => by
    have h : ∀ l, (nxt l).length = l.length := by
      intro l
      induction l with
      | nil => rfl
      | cons x r ih => simp [nxt, ih]
    simp [line, h, line_length n]
theorem line_get : ∀ (n k : Nat), (line n).getD k 0 = ch n k
  | 0, 0 => rfl
  | 0, k + 1 => rfl
  | n + 1, 0 => by rw [ch_zero]; rfl
  | n + 1, k + 1 => by
    rw [ch_next, ← line_get n k, ← line_get n (k + 1)]
    show (nxt (line n)).getD k 0 = _
    rw [nxt_get, line_length]
    by_cases h : k < n + 1
    · rw [if_pos h]
    · rw [if_neg h]
      have : (line n).getD (k + 1) 0 = 0 := by rw [line_get n (k + 1), ch_gt n (k + 1) (by omega)]
      rw [this]
theorem lines_le : ((List.range 61).all fun n => (line n).all fun x => decide (x ≤ 118264581564861424)) = true := by decide +kernel
theorem lines_few : ((List.range 7).all fun n => (line n).all fun x => decide (x ≤ 20)) = true := by decide +kernel
theorem getD_le {l : List Nat} {m : Nat} (h : (l.all fun x => decide (x ≤ m)) = true) (k : Nat) : l.getD k 0 ≤ m := by
  rw [List.all_eq_true] at h
  rcases Nat.lt_or_ge k l.length with hk | hk
  · have := h (l[k]) (List.getElem_mem hk)
    rw [List.getD, List.getElem?_eq_getElem hk]
    simpa using this
  · rw [List.getD, List.getElem?_eq_none hk]; exact Nat.zero_le _
theorem ch_big (n k : Nat) (h : n ≤ 60) : ch n k ≤ 118264581564861424 := by
  rw [← line_get]
  exact getD_le (List.all_eq_true.1 lines_le n (by rw [List.mem_range]; omega)) k
theorem ch_few (n k : Nat) (h : n ≤ 6) : ch n k ≤ 20 := by
  rw [← line_get]
  exact getD_le (List.all_eq_true.1 lines_few n (by rw [List.mem_range]; omega)) k

/-- Choose. -/
def chZ (n k : Int) : Int := if 0 ≤ n ∧ n ≤ 60 ∧ 0 ≤ k ∧ k ≤ n then (ch n.toNat k.toNat : Int) else 0

/-- The k-th power of a sign. -/
def pw (s : Int) : Nat → Int
  | 0 => 1
  | j + 1 => pw s j * s
theorem pw_one : ∀ j, pw 1 j = 1
  | 0 => rfl
  | j + 1 => by rw [pw, pw_one j]; rfl
theorem pw_neg : ∀ j : Nat, pw (-1) j = 1 - 2 * ((j % 2 : Nat) : Int)
  | 0 => rfl
  | j + 1 => by rw [pw, pw_neg j]; omega
theorem pw_sign (s : Int) (h : s = 1 ∨ s = -1) (j : Nat) : pw s j = 1 ∨ pw s j = -1 := by
  rcases h with rfl | rfl
  · exact .inl (pw_one j)
  · rw [pw_neg]; omega

/-- The first m parts of the sum at k. -/
def hs (s : Int) (L : List Int) (d k : Nat) : Nat → Int
  | 0 => 0
  | m + 1 => hs s L d k m + pw s (k - m) * L.getD m 0 * (ch (d - m) (k - m) : Int)
/-- Sums by binomial numbers. -/
def hsums (s : Int) (L : List Int) : List Int := (List.range L.length).map fun k => hs s L (L.length - 1) k (k + 1)
theorem hsums_length (s : Int) (L : List Int) : (hsums s L).length = L.length := by simp [hsums]
theorem hsums_at (s : Int) (L : List Int) (k : Nat) (h : k < L.length) : (hsums s L).getD k 0 = hs s L (L.length - 1) k (k + 1) := by
  simp [hsums, List.getD, h]
/-- One part. -/
theorem part_le (s : Int) (h : s = 1 ∨ s = -1) (x : Int) (hx : -1000 ≤ x ∧ x ≤ 1000) (d k m : Nat) (hd : d ≤ 6) : -20000 ≤ pw s (k - m) * x * (ch (d - m) (k - m) : Int) ∧ pw s (k - m) * x * (ch (d - m) (k - m) : Int) ≤ 20000 := by
  have hc := ch_few (d - m) (k - m) (by omega)
  generalize ch (d - m) (k - m) = c at hc ⊢
  have hy : -1000 ≤ pw s (k - m) * x ∧ pw s (k - m) * x ≤ 1000 := by rcases pw_sign s h (k - m) with e | e <;> rw [e] <;> omega
  generalize pw s (k - m) * x = y at hy ⊢
  have h1 : (1000 - y) * (c : Int) ≥ 0 := Int.mul_nonneg (by omega) (by omega)
  have h2 : (y + 1000) * (c : Int) ≥ 0 := Int.mul_nonneg (by omega) (by omega)
  rw [Int.sub_mul] at h1
  rw [Int.add_mul] at h2
  omega
theorem hs_le (s : Int) (h : s = 1 ∨ s = -1) (L : List Int) (hx : ∀ j, -1000 ≤ L.getD j 0 ∧ L.getD j 0 ≤ 1000) (d k : Nat) (hd : d ≤ 6) : ∀ m : Nat, -20000 * (m : Int) ≤ hs s L d k m ∧ hs s L d k m ≤ 20000 * (m : Int)
  | 0 => by simp [hs]
  | m + 1 => by
    have h1 := hs_le s h L hx d k hd m
    have h2 := part_le s h _ (hx m) d k m hd
    rw [hs]
    generalize pw s (k - m) * L.getD m 0 * (ch (d - m) (k - m) : Int) = y at h2 ⊢
    omega

/-- GNumbers, of h numbers. -/
def gnum (h : List Int) : List Int := if h = [] then [] else 1 :: (List.range ((h.length - 1) / 2)).map fun k => h.getD (k + 1) 0 - h.getD k 0
theorem gnum_nil : gnum [] = [] := rfl
theorem gnum_length (h : List Int) (h0 : 0 < h.length) : (gnum h).length = (h.length - 1) / 2 + 1 := by
  unfold gnum; rw [if_neg (by intro e; rw [e] at h0; simp at h0)]; simp
/-- The first k steps. -/
def gto (h : List Int) (k : Nat) : List Int := 1 :: (List.range k).map fun k => h.getD (k + 1) 0 - h.getD k 0
theorem gto_zero (h : List Int) : gto h 0 = [1] := rfl
theorem gto_next (h : List Int) (k : Nat) : gto h (k + 1) = gto h k ++ [h.getD (k + 1) 0 - h.getD k 0] := by
  unfold gto; rw [List.range_succ, List.map_append]; rfl
theorem gto_length (h : List Int) (k : Nat) : (gto h k).length = k + 1 := by simp [gto]
theorem gto_end (h : List Int) (h0 : 0 < h.length) : gto h ((h.length - 1) / 2) = gnum h := by
  unfold gnum gto; rw [if_neg (by intro e; rw [e] at h0; simp at h0)]
/-- IsSymmetricH. -/
def symB (h : List Int) : Bool := !h.isEmpty && (h == h.reverse)
/-- TopH. -/
def topZ (h : List Int) : Int := h.getD (h.length - 1) 0
/-- CountsFromH. -/
def nearB (h : List Int) : Bool := h.all fun x => decide (-1000 ≤ x ∧ x ≤ 1000)
def fromH (h : List Int) : List Int := if 0 < h.length ∧ h.length ≤ 7 ∧ nearB h = true then hsums 1 h else []
theorem near_at {L : List Int} (h : nearB L = true) (j : Nat) : -1000 ≤ L.getD j 0 ∧ L.getD j 0 ≤ 1000 := by
  unfold nearB at h
  rw [List.all_eq_true] at h
  rcases Nat.lt_or_ge j L.length with hj | hj
  · have := h (L[j]) (List.getElem_mem hj)
    rw [List.getD, List.getElem?_eq_getElem hj]
    simpa using this
  · rw [List.getD, List.getElem?_eq_none hj]
    exact ⟨by decide, by decide⟩
/-- HNumbers. -/
def hnum (n : Int) (xs : List Int) : List Int := hsums (-1) (counts (faces n xs))

end Go.Proofs.Ytcgfioakjmbciaa.Hn

/-! H NUMBERS, of no program: what chapter 10's law says of them. -/

namespace Go.Proofs.Ytcgfioakjmbciaa.Hn
open Sets

theorem all_few : ∀ k : Fin 7, cnt k.val (ord fun _ => true) ≤ 20 := by decide +kernel
theorem cnt_few (n : Int) (xs : List Int) (k : Nat) : cnt k (faces n xs) ≤ 20 := by
  unfold faces
  split
  · rcases Nat.lt_or_ge k 7 with h | h
    · refine Nat.le_trans ?_ (all_few ⟨k, h⟩)
      rw [ord_filter]
      unfold cnt
      rw [List.countP_filter]
      apply List.countP_mono_left
      intro x _ hx
      rw [Bool.and_eq_true] at hx
      exact hx.1
    · have : cnt k (ord (inF xs)) = 0 := by
        unfold cnt
        rw [List.countP_eq_zero]
        intro x _ e
        rw [beq_iff_eq] at e
        have := pc_le x.toNat
        omega
      omega
  · exact Nat.zero_le _
theorem counts_few (n : Int) (xs : List Int) (j : Nat) : 0 ≤ (counts (faces n xs)).getD j 0 ∧ (counts (faces n xs)).getD j 0 ≤ 20 := by
  rcases Nat.lt_or_ge j (top (faces n xs)) with h | h
  · rw [counts_at _ j h]
    have := cnt_few n xs j
    omega
  · rw [List.getD, List.getElem?_eq_none (by rw [counts_length]; exact h)]
    exact ⟨Int.le_refl _, by decide⟩
theorem counts_le7 (L : List Int) : (counts L).length ≤ 7 := by rw [counts_length]; exact top_le L

theorem r2 : List.range 2 = [0, 1] := rfl
theorem r3 : List.range 3 = [0, 1, 2] := rfl
theorem r4 : List.range 4 = [0, 1, 2, 3] := rfl
theorem r5 : List.range 5 = [0, 1, 2, 3, 4] := rfl
theorem r6 : List.range 6 = [0, 1, 2, 3, 4, 5] := rfl
theorem r7 : List.range 7 = [0, 1, 2, 3, 4, 5, 6] := rfl

theorem short (P : List Int → Prop) (h0 : P []) (h1 : ∀ a, P [a]) (h2 : ∀ a b, P [a, b]) (h3 : ∀ a b c, P [a, b, c]) (h4 : ∀ a b c d, P [a, b, c, d]) (h5 : ∀ a b c d e, P [a, b, c, d, e]) (h6 : ∀ a b c d e f, P [a, b, c, d, e, f]) (h7 : ∀ a b c d e f g, P [a, b, c, d, e, f, g]) : ∀ L : List Int, L.length ≤ 7 → P L
  | [], _ => h0
  | [a], _ => h1 a
  | [a, b], _ => h2 a b
  | [a, b, c], _ => h3 a b c
  | [a, b, c, d], _ => h4 a b c d
  | [a, b, c, d, e], _ => h5 a b c d e
  | [a, b, c, d, e, f], _ => h6 a b c d e f
  | [a, b, c, d, e, f, g], _ => h7 a b c d e f g
  | _ :: _ :: _ :: _ :: _ :: _ :: _ :: _ :: _, h => by simp at h

/-- From h numbers back. -/
theorem back : ∀ L : List Int, L.length ≤ 7 → hsums 1 (hsums (-1) L) = L := by
  apply short
  · rfl
  all_goals
    intros
    simp [hsums, r2, r3, r4, r5, r6, r7, hs, pw, ch]
    try omega
/-- The h numbers are near. -/
theorem near : ∀ L : List Int, L.length ≤ 7 → (∀ j, 0 ≤ L.getD j 0 ∧ L.getD j 0 ≤ 20) → nearB (hsums (-1) L) = true := by
  apply short
  · intro _; rfl
  · intro a H
    have h0 := H 0
    simp at h0
    simp [nearB, hsums, hs, pw, ch]; omega
  · intro a b H
    have h0 := H 0; have h1 := H 1
    simp at h0 h1
    simp [nearB, hsums, r2, hs, pw, ch]; omega
  · intro a b c H
    have h0 := H 0; have h1 := H 1; have h2 := H 2
    simp at h0 h1 h2
    simp [nearB, hsums, r3, hs, pw, ch]; omega
  · intro a b c d H
    have h0 := H 0; have h1 := H 1; have h2 := H 2; have h3 := H 3
    simp at h0 h1 h2 h3
    simp [nearB, hsums, r4, hs, pw, ch]; omega
  · intro a b c d e H
    have h0 := H 0; have h1 := H 1; have h2 := H 2; have h3 := H 3; have h4 := H 4
    simp at h0 h1 h2 h3 h4
    simp [nearB, hsums, r5, hs, pw, ch]; omega
  · intro a b c d e f H
    have h0 := H 0; have h1 := H 1; have h2 := H 2; have h3 := H 3; have h4 := H 4; have h5 := H 5
    simp at h0 h1 h2 h3 h4 h5
    simp [nearB, hsums, r6, hs, pw, ch]; omega
  · intro a b c d e f g H
    have h0 := H 0; have h1 := H 1; have h2 := H 2; have h3 := H 3; have h4 := H 4; have h5 := H 5; have h6 := H 6
    simp at h0 h1 h2 h3 h4 h5 h6
    simp [nearB, hsums, r7, hs, pw, ch]; omega
/-- The first h number is the first count. -/
theorem first (s : Int) (L : List Int) (h : 0 < L.length) : (hsums s L).getD 0 0 = L.getD 0 0 := by
  rw [hsums_at s L 0 h]
  simp [hs, pw, ch_zero]
/-- The last one is the signed sum. -/
theorem last : ∀ L : List Int, L.length ≤ 7 → 0 < L.length → topZ (hsums (-1) L) = (2 * (((L.length - 1) % 2 : Nat) : Int) - 1) * ssumK L L.length := by
  apply short
  · intro h; simp at h
  all_goals
    intros
    simp [topZ, hsums, r2, r3, r4, r5, r6, r7, hs, pw, ch, ssumK, sgn]
    try omega

theorem hnum_length (n : Int) (xs : List Int) : (hnum n xs).length = (counts (faces n xs)).length := hsums_length _ _
theorem hnum_le7 (n : Int) (xs : List Int) : (hnum n xs).length ≤ 7 := by rw [hnum_length]; exact counts_le7 _
theorem hnum_near (n : Int) (xs : List Int) : nearB (hnum n xs) = true := near _ (counts_le7 _) (counts_few n xs)
theorem hnum_back (n : Int) (xs : List Int) : fromH (hnum n xs) = counts (faces n xs) := by
  unfold fromH
  have hl := hnum_le7 n xs
  have hn := hnum_near n xs
  have hb : hsums 1 (hnum n xs) = counts (faces n xs) := back _ (counts_le7 _)
  by_cases h : 0 < (hnum n xs).length
  · rw [if_pos ⟨h, hl, hn⟩, hb]
  · rw [if_neg (fun e => h e.1)]
    rw [hnum_length] at h
    exact (List.eq_nil_of_length_eq_zero (by omega)).symm
theorem hnum_top (n : Int) (xs : List Int) (h : 0 < (hnum n xs).length) : topZ (hnum n xs) = (2 * ((((hnum n xs).length - 1) % 2 : Nat) : Int) - 1) * eul (faces n xs) := by
  rw [hnum_length] at h ⊢
  rw [← counts_signed]
  exact last _ (counts_le7 _) h
theorem hnum_first (n : Int) (xs : List Int) (h : 0 < (hnum n xs).length) : (hnum n xs).getD 0 0 = 1 := by
  rw [hnum_length] at h
  have e := first (-1) _ h
  unfold hnum
  rw [e]
  rw [counts_length] at h
  rw [counts_at _ 0 h]
  have hne : faces n xs ≠ [] := by
    intro e0
    rw [e0] at h
    simp [top] at h
  unfold faces at hne ⊢
  split at hne
  · rename_i hC
    rw [if_pos hC]
    have h0 : inF xs 0 = true := by
      rcases List.exists_mem_of_ne_nil _ hne with ⟨x, hx⟩
      obtain ⟨s, rfl, hs, hp⟩ := (mem_ord _ _).1 hx
      unfold inF at hp ⊢
      rw [List.any_eq_true] at hp ⊢
      obtain ⟨f, hf, _⟩ := hp
      exact ⟨f, hf, by simp [sub]⟩
    have e1 : cnt 0 (ord (inF xs)) = ([0] : List Int).countP fun x => inF xs x.toNat := by
      have e : (ord fun _ => true).filter (fun x => pc x.toNat == 0) = [0] := by decide +kernel
      rw [← e, List.countP_filter, ord_filter (inF xs)]
      unfold cnt
      rw [List.countP_filter]
      apply List.countP_congr
      intro x _
      rw [Bool.and_comm]
    rw [e1]
    simp [h0]
  · exact absurd rfl hne
theorem fromH_le (h : List Int) : (fromH h).length ≤ 1048576 := by
  unfold fromH
  split
  · rename_i e; rw [hsums_length]; omega
  · simp
theorem hnum_le (n : Int) (xs : List Int) : (hnum n xs).length ≤ 1048576 := Nat.le_trans (hnum_le7 n xs) (by decide)
theorem gnum_le (n : Int) (xs : List Int) : (gnum (hnum n xs)).length ≤ 1048576 := by
  have h7 := hnum_le7 n xs
  rcases Nat.eq_zero_or_pos (hnum n xs).length with e | e
  · rw [List.eq_nil_of_length_eq_zero e]; simp [gnum]
  · rw [gnum_length _ e]; omega

end Go.Proofs.Ytcgfioakjmbciaa.Hn

/-! WALKS: the law's own functions at complexes: sizes, copies, equality, marks, what is held. -/

namespace Go.Proofs.Ytcgfioakjmbciaa
open Go.RowKit
open Sets

/-- A block of two cells that can be written. -/
def Two (w : World) (b : Nat) (x y : Value) : Prop := b < w.heap.size ∧ w.cell? ⟨b, 0, none⟩ = some x ∧ w.cell? ⟨b, 1, none⟩ = some y ∧ w.frozen? ⟨b, 0, none⟩ = false ∧ w.frozen? ⟨b, 1, none⟩ = false
theorem Two.new (w : World) (x y : Value) (t : TypeId) : Two (w.alloc (.cells #[x, y] t)) w.heap.size x y := by
  refine ⟨by simp, ?_, ?_, World.frozen?_alloc_at _ _ _ _ rfl, World.frozen?_alloc_at _ _ _ _ rfl⟩
  · rw [World.cell?_alloc_new]; rfl
  · rw [World.cell?_alloc_new]; rfl
theorem Two.keeps {w w' : World} {b : Nat} {x y : Value} (h : Two w b x y) (hb : Below w.heap.size w w') : Two w' b x y := by
  obtain ⟨h1, h2, h3, h4, h5⟩ := h
  refine ⟨by have := hb.size; omega, ?_, ?_, ?_, ?_⟩
  · rw [hb.cell (p := ⟨b, 0, none⟩) h1]; exact h2
  · rw [hb.cell (p := ⟨b, 1, none⟩) h1]; exact h3
  · rw [hb.frozen (p := ⟨b, 0, none⟩) h1]; exact h4
  · rw [hb.frozen (p := ⟨b, 1, none⟩) h1]; exact h5
theorem Two.alloc {w : World} {b : Nat} {x y : Value} (h : Two w b x y) (o : Obj) : Two (w.alloc o) b x y := h.keeps ((Below.refl _ _).alloc (Nat.le_refl _) _)
theorem Two.set1 {w : World} {b : Nat} {x y : Value} (h : Two w b x y) (z : Value) : Two (w.setCell ⟨b, 1, none⟩ z) b x z := by
  obtain ⟨h1, h2, h3, h4, h5⟩ := h
  refine ⟨by simp [World.setCell]; exact h1, ?_, World.cell?_setCell_same _ _ _ h3, by rw [World.frozen?_setCell]; exact h4, by rw [World.frozen?_setCell]; exact h5⟩
  rw [World.cell?_setCell_other _ _ _ _ (by simp)]; exact h2

theorem IntsAt.set {w : World} {g b : Nat} {a : Option Addr} {xs : List Int} (h : IntsAt w g a xs) (hne : g ≠ b) (o : Nat) (v : Value) : IntsAt (w.setCell ⟨b, o, none⟩ v) g a xs := h.far (Mem.but_setCell _ _ _ _) hne

/-! ### a complex as a result -/

theorem results_one {fn : Func} {p : Tmp} {ty : TypeId} (h : fn.results = #[.cell p ty]) (tmps : Array Value) (P : Program) (w : World) :
    (results fn tmps).run P w = ((asAddr (tmps.getD p undef)).run P w).andThen fun a w₁ => (loadVar ty a).run P w₁ := by
  simp only [results, h]
  simp [Sem.run_bind, Result.andThen]

theorem cx_load (w : World) (b : Nat) (x y : Value) (h0 : w.cell? ⟨b, 0, none⟩ = some x) (h1 : w.cell? ⟨b, 1, none⟩ = some y) :
    (loadVar 26 ⟨b, 0, none⟩).run Try.prog w = .ok (.agg #[x, y]) w := by
  go_simp

theorem ret_cx {fn : Func} {p : Tmp} {R : Ending → World → Prop} {a : Act} {w : World} {x y : Value} (b : Nat) (h : fn.results = #[.cell p 26]) (hp : a.tmps.getD p undef = .pointer (some ⟨b, 0, none⟩))
    (h0 : w.cell? ⟨b, 0, none⟩ = some x) (h1 : w.cell? ⟨b, 1, none⟩ = some y) (hd : a.defers = []) (hR : R (.returned (.agg #[x, y])) w) : bodyPost Try.prog fn R .ret a w :=
  bodyPost_ret (by rw [results_one h, hp]; simp [asAddr, Result.andThen, cx_load w b x y h0 h1]) hd hR

theorem ret_cx2 {fn : Func} {p u : Tmp} {R : Ending → World → Prop} {a : Act} {w : World} {x y z : Value} (b : Nat) (h : fn.results = #[.cell p 26, .tmp u]) (hp : a.tmps.getD p undef = .pointer (some ⟨b, 0, none⟩)) (hu : a.tmps.getD u undef = z)
    (h0 : w.cell? ⟨b, 0, none⟩ = some x) (h1 : w.cell? ⟨b, 1, none⟩ = some y) (hd : a.defers = []) (hR : R (.returned (.tuple #[.agg #[x, y], z])) w) : bodyPost Try.prog fn R .ret a w :=
  bodyPost_ret (by rw [results_cell_tmp h, hp, hu]; simp [asAddr, Result.andThen, cx_load w b x y h0 h1]) hd hR

/-- A complex as a value. -/
abbrev cx (n : Int) (v : Value) : Value := .agg #[.int .i64 n, v]

set_option maxRecDepth 100000 in
theorem szInt_any (a : Option Addr) (c : Nat) (xs : List Int) (left : Nat) (hl : left ≤ 1048576) (hlen : xs.length ≤ 9223372036854775807) (w : World) :
    Calls Try.prog 56 #[.slice a xs.length c, .int .i64 (left : Int)] w fun e w' => e = .returned (.int .i64 (if xs.length ≤ left then (left : Int) - xs.length else -1)) ∧ w = w' := by
  by_cases h : xs.length ≤ left
  · rw [if_pos h]
    go_enter Try.func56, Try.ntmps56
    go_wp2
    go_ret
    exact ⟨rfl, rfl⟩
  · rw [if_neg h]
    go_enter Try.func56, Try.ntmps56
    go_wp2
    go_ret
    exact ⟨rfl, rfl⟩

set_option maxRecDepth 100000 in
theorem szCx_any (n : Int) (a : Option Addr) (c : Nat) (xs : List Int) (left : Nat) (hl : left ≤ 1048576) (hlen : xs.length ≤ 9223372036854775807) (w : World) :
    Calls Try.prog 29 #[cx n (.slice a xs.length c), .int .i64 (left : Int)] w fun e w' => e = .returned (.int .i64 (if xs.length ≤ left then (left : Int) - xs.length else -1)) ∧ Below w.heap.size w w' := by
  have hc := fun w => szInt_any a c xs left hl hlen w
  by_cases h : xs.length ≤ left
  · rw [if_pos h] at hc ⊢
    have HC := Lib.hid hc
    clear hc
    go_enter Try.func29, Try.ntmps29
    go_wp2_with fail
    refine (HC.out _).mono ?_
    rintro e w' ⟨rfl, rfl⟩
    go_wp2
    go_ret
    exact ⟨rfl, (Below.refl _ _).alloc (Nat.le_refl _) _⟩
  · rw [if_neg h] at hc ⊢
    have HC := Lib.hid hc
    clear hc
    go_enter Try.func29, Try.ntmps29
    go_wp2_with fail
    refine (HC.out _).mono ?_
    rintro e w' ⟨rfl, rfl⟩
    go_wp2
    go_ret
    exact ⟨rfl, (Below.refl _ _).alloc (Nat.le_refl _) _⟩

set_option maxRecDepth 100000 in
set_option maxHeartbeats 1000000 in
/-- toComplex: the same numbers in a new row. -/
theorem toCx_any (n : Int) (a : Option Addr) (c : Nat) (xs : List Int) (hlen : xs.length ≤ 1048576) (w : World) (h : Ints w a xs) :
    Calls Try.prog 30 #[cx n (.slice a xs.length c)] w fun e w' => ∃ g, e = .returned (cx n (.slice (some ⟨g, 0, none⟩) xs.length xs.length)) ∧ w.heap.size ≤ g ∧ g < w'.heap.size ∧ IntsAt w' g (some ⟨g, 0, none⟩) xs ∧ Below w.heap.size w w' := by
  have H := Lib.hid h
  clear h
  go_enter Try.func30, Try.ntmps30
  go_wp2_with fail
  refine (toInt_any _ _ xs hlen _ (H.out.keeps ((((Below.refl _ _).alloc (Nat.le_refl _) _).alloc (by simp) _).alloc (by simp; omega) _))).mono ?_
  rintro e w1 ⟨rfl, hlt1, hr1, hb1⟩
  have hR := Two.keeps (((Two.new (w.alloc (Obj.cells #[Value.int IntKind.i64 n, Value.slice a xs.length c] 38)) (.int .i64 0) (.slice none 0 0) 26)).alloc (Obj.cells #[Value.int IntKind.i64 n, Value.slice none 0 0] 26)) hb1
  have hO := Two.keeps (Two.new ((w.alloc (Obj.cells #[Value.int IntKind.i64 n, Value.slice a xs.length c] 38)).alloc (Obj.cells #[Value.int IntKind.i64 0, Value.slice none 0 0] 26)) (.int .i64 n) (.slice none 0 0) 26) hb1
  simp at hR hO
  have hO2 := Lib.hid hO
  obtain ⟨q1, q2, q3, q4, q5⟩ := hR
  obtain ⟨o1, o2, o3, o4, o5⟩ := hO
  have hr2 := hr1
  simp at hr2
  have R1 := Lib.hid hr2
  have hb2 : Below w.heap.size w w1 := ((((Below.refl _ _).alloc (Nat.le_refl _) _).alloc (by simp) _).alloc (by simp; omega) _).trans (hb1.mono (by simp; omega))
  have B1 := Lib.hid hb2
  simp at hlt1
  clear hr1 hr2 hb1 hb2
  go_wp2
  refine ret_cx (w.heap.size + 1) rfl rfl (x := .int .i64 n) (y := .slice (some ⟨w.heap.size + 1 + 1 + 1, 0, none⟩) xs.length xs.length) (by go_simp) (by go_simp) rfl ?_
  refine ⟨w.heap.size + 1 + 1 + 1, rfl, by omega, by simp [World.setCell]; exact hlt1, ?_, ?_⟩
  · exact ((R1.out.set (by omega) _ _).set (by omega) _ _).set (by omega) _ _
  · exact ((B1.out.setCell (by dsimp only; omega) _).setCell (by dsimp only; omega) _).setCell (by dsimp only; omega) _

set_option maxRecDepth 100000 in
set_option maxHeartbeats 1000000 in
theorem eqCx_any (n : Int) (a1 a2 : Option Addr) (c1 c2 : Nat) (xs : List Int) (hlen : xs.length ≤ 1099511627776) (w : World) (h1 : Ints w a1 xs) (h2 : Ints w a2 xs) :
    Calls Try.prog 32 #[cx n (.slice a1 xs.length c1), cx n (.slice a2 xs.length c2)] w fun e w' => e = .returned (.bool true) ∧ Below w.heap.size w w' := by
  have H1 := Lib.hid h1
  have H2 := Lib.hid h2
  clear h1 h2
  go_enter Try.func32, Try.ntmps32
  go_wp2_with fail
  refine (eqInt_any _ _ _ _ xs hlen _ (H1.out.keeps (((Below.refl _ _).alloc (Nat.le_refl _) _).alloc (by simp) _)) (H2.out.keeps (((Below.refl _ _).alloc (Nat.le_refl _) _).alloc (by simp) _))).mono ?_
  rintro e w1 ⟨rfl, hb1⟩
  go_wp2
  go_ret
  exact ⟨rfl, (((Below.refl _ _).alloc (Nat.le_refl _) _).alloc (by simp) _).trans (hb1.mono (by simp; omega))⟩

set_option maxRecDepth 100000 in
theorem markCx_any (n : Int) (g : Nat) (a : Option Addr) (c : Nat) (xs : List Int) (k : Int) (m : Nat) (hkm : k = (m : Int)) (hn : xs.length ≤ 1099511627776) (hk2 : m ≤ 1099511627776) (w : World) (h : IntsAt w g a xs) :
    Calls Try.prog 33 #[cx n (.slice a xs.length c), .int .i64 k] w fun e w' =>
      e = .returned (.int .i64 ((m + xs.length : Nat) : Int)) ∧ IntsAt w' g a (imarks m xs.length) ∧ w.grownBy w' (some g) := by
  subst hkm
  have hb0 : Below w.heap.size w (w.alloc (Obj.cells #[Value.int IntKind.i64 n, Value.slice a xs.length c] 26)) := (Below.refl _ _).alloc (Nat.le_refl _) _
  have hc := markInt_any g a c xs (m : Int) m rfl hn hk2 _ (h.keeps hb0)
  have HC := Lib.hid hc
  have HB := Lib.hid hb0
  clear hc h hb0
  go_enter Try.func33, Try.ntmps33
  go_wp2_with fail
  refine HC.out.mono ?_
  rintro e w1 ⟨rfl, hr, hg⟩
  have HR := Lib.hid hr
  have HG := Lib.hid hg
  clear hr hg
  go_wp2
  go_ret
  exact ⟨rfl, HR.out, (Mem.but_of_below HB.out _).trans HG.out⟩

end Go.Proofs.Ytcgfioakjmbciaa

/-! WALKS: impl.setsWhere: the sets that meet a predicate, in order. -/

namespace Go.Proofs.Ytcgfioakjmbciaa
open Go.RowKit
open Sets

/-- What is asked of the predicate: at every set, in every later world, it answers p and leaves all as it was. -/
def Pred (g : Nat) (lb : Array Value) (p : Nat → Bool) (w : World) : Prop :=
  ∀ (W : World) (s : Nat), s < 64 → Below w.heap.size w W → Calls Try.prog g (#[.int .i64 (s : Int)] ++ lb) W fun e w' => e = .returned (.bool (p s)) ∧ W = w'
theorem Pred.at {g : Nat} {lb : Array Value} {p : Nat → Bool} {w : World} (h : Pred g lb p w) (W : World) (s : Nat) (b : Bool) (hb : p s = b) (hs : s < 64) (hB : Below w.heap.size w W) :
    Calls Try.prog g (#[.int .i64 (s : Int)] ++ lb) W fun e w' => e = .returned (.bool b) ∧ W = w' := by
  subst hb; exact h W s hs hB

set_option maxRecDepth 100000 in
set_option maxHeartbeats 4000000 in
theorem setsWhere_any (g : Nat) (lb : Array Value) (p : Nat → Bool) (w : World) (eg : ∀ args w, (callFunc g args).run Try.prog w = .ok (.enter g args) w) (hp : Pred g lb p w) :
    Calls Try.prog 72 #[.func (.func g) #[] lb] w fun e w' => ∃ v, e = .returned v ∧ OwnInts w' w.heap.size v (ord p) ∧ Below w.heap.size w w' := by
  obtain ⟨i0, hi, hz0, hz1, hz2⟩ := info_parts info_int
  have HPR := Lib.hid hp
  clear hp
  go_enter Try.func72, Try.ntmps72
  go_wp2
  go_loopw [3, 6] (fun v i wr => ∃ k : Nat, k ≤ 7 ∧ i = .int .i64 (k : Int) ∧ OwnInts wr w.heap.size v (upto p k 0) ∧ Below w.heap.size w wr) (fun _ i _ => 7 - (intOf i).toNat)
  case atStart => exact ⟨0, by omega, rfl, OwnInts.nil _ _, Below.refl _ _⟩
  case round =>
    obtain ⟨k, hk, rfl, hO, hB⟩ := hrel
    have HO := Lib.hid hO
    clear hO
    obtain ⟨wo, rfl⟩ : ∃ wo : World, wo = wr := ⟨_, rfl⟩
    by_cases hlt : k < 7
    · have hlt7 : decide ((k : Int) < 7) = true := by simp; omega
      go_wp2
      go_loopw [3, 9] (fun v i wr => ∃ n : Nat, n ≤ 64 ∧ i = .int .i64 (n : Int) ∧ OwnInts wr w.heap.size v (upto p k n) ∧ Below w.heap.size w wr) (fun _ i _ => 64 - (intOf i).toNat)
      case atStart => exact ⟨0, by omega, rfl, HO.out, hB⟩
      case round =>
        clear hB HO
        obtain ⟨n, hn, rfl, hO, hB⟩ := hrel
        unfold OwnInts at hO
        have HO := Lib.hid hO
        clear hO
        have hsz := hB.size
        have hl := upto_length p k n
        by_cases hln : n < 64
        · have hpn := pc_le n
          by_cases hq : pc n = k
          · have hq' : ((pc n : Int) == (k : Int)) = true := by rw [hq]; simp
            have HQ := Lib.hid hq
            clear hq
            cases hp : p n with
            | true =>
              have HP := Lib.hid hp
              clear hp
              go_wp2_with fail
              refine (implSizeOf_nat n hln _).mono ?_
              rintro e w' ⟨rfl, rfl⟩
              go_wp2_with (first | (at_builtin; refine wpList_append_own _ rfl _ _ 24 rfl w.heap.size 3 i0 (.int .i64 0) 1 8 Try.underlying24 hi hz0 hz1 hz2 rfl (by decide) _ _ _ rfl (HO.out.alloc _) ⟨wr.heap.size, 0, none⟩ 1 1 [.int .i64 (n : Int)] rfl rfl ?c1 ?c2 ?c3 ?c4 ?c5 ?_) | (go_at_fn g; refine (HPR.out.at _ n true HP.out hln hB).mono ?_; rintro e w' ⟨rfl, rfl⟩))
              case c1 => intro j u hj; exact Mem.cell_new wr _ _ j u hj
              case c2 => intro u hu; simp at hu; subst hu; rfl
              case c3 => unfold maxLen; omega
              case c4 => omega
              case c5 => simp; omega
              intro v' w1 hown1 hgrow _
              have hB1 : Below w.heap.size w w1 := (hB.alloc hsz _).grown hgrow (by simp; omega) (fun g hg => (HO.out.lt g hg).1)
              have H1 := Lib.hid hown1
              clear hown1 hgrow
              go_wp2
              go_roundw
              case rel => exact ⟨n + 1, by omega, by go_num, by rw [upto_hit p k n HQ.out HP.out]; exact OwnInts.next H1.out, hB1⟩
              case measure => simp [intOf]; omega
            | false =>
              have HP := Lib.hid hp
              clear hp
              go_wp2_with fail
              refine (implSizeOf_nat n hln _).mono ?_
              rintro e w' ⟨rfl, rfl⟩
              go_wp2_with (go_at_fn g; refine (HPR.out.at _ n false HP.out hln hB).mono ?_; rintro e w' ⟨rfl, rfl⟩)
              go_roundw
              case rel => exact ⟨n + 1, by omega, by go_num, by rw [upto_miss p k n (fun h => by rw [HP.out] at h; simp at h)]; exact HO.out, hB⟩
              case measure => simp [intOf]; omega
          · have hq' : ((pc n : Int) == (k : Int)) = false := by simp; omega
            have HQ := Lib.hid hq
            clear hq
            go_wp2_with fail
            refine (implSizeOf_nat n hln _).mono ?_
            rintro e w' ⟨rfl, rfl⟩
            go_wp2
            go_roundw
            case rel => exact ⟨n + 1, by omega, by go_num, by rw [upto_miss p k n (fun h => HQ.out h.1)]; exact HO.out, hB⟩
            case measure => simp [intOf]; omega
        · have E := Lib.hid (show n = 64 by omega)
          go_wp2
          go_roundw
          case rel =>
            have h2 := HO.out
            rw [E.out, upto_line] at h2
            exact ⟨k + 1, by omega, by go_num, h2, hB⟩
          case measure => simp [intOf]; omega
    · have E := Lib.hid (show k = 7 by omega)
      go_wp2
      go_ret
      have h2 := HO.out
      rw [E.out, upto_end] at h2
      exact ⟨_, rfl, h2, hB⟩

end Go.Proofs.Ytcgfioakjmbciaa
