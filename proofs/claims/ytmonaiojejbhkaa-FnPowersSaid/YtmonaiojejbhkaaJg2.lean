/-
  TEXTS of one claim, put together: Hn, HnLaw, Part.
-/
import Derived.Test.YtmonaiojejbhkaaJg1
/-! H NUMBERS, of no program: binomial numbers, sums by them, what chapter 10's law says. -/

namespace Go.Proofs.Ytmonaiojejbhkaa.Hn
open Sets

/-- How many ways to choose k of n. -/
def ch : Nat → Nat → Nat
  | _, 0 => 1
  | 0, _ + 1 => 0
  | n + 1, k + 1 => ch n k + ch n (k + 1)
theorem ch_zero (n : Nat) : ch n 0 = 1 := by cases n <;> rfl
theorem ch_next (n k : Nat) : ch (n + 1) (k + 1) = ch n k + ch n (k + 1) := rfl
theorem ch_gt : ∀ (n k : Nat), n < k → ch n k = 0
  | 0, 0, h => by omega
  | 0, _ + 1, _ => rfl
  | n + 1, 0, h => by omega
  | n + 1, k + 1, h => by rw [ch_next, ch_gt n k (by omega), ch_gt n (k + 1) (by omega)]
theorem ch_mul : ∀ (n k : Nat), ch (n + 1) (k + 1) * (k + 1) = ch n k * (n + 1)
  | 0, 0 => rfl
  | 0, k + 1 => by rw [ch_next, ch_gt 0 (k + 1) (by omega), ch_gt 0 (k + 1 + 1) (by omega)]; omega
  | n + 1, 0 => by
    have h := ch_mul n 0
    rw [ch_next, ch_zero]
    rw [ch_zero] at h
    omega
  | n + 1, k + 1 => by
    have h1 := ch_mul n k
    have h2 := ch_mul n (k + 1)
    rw [ch_next (n + 1) (k + 1)]
    have h3 := ch_next n k
    have e1 : (ch (n + 1) (k + 1) + ch (n + 1) (k + 1 + 1)) * (k + 1 + 1) = ch (n + 1) (k + 1) * (k + 1) + ch (n + 1) (k + 1) + ch (n + 1) (k + 1 + 1) * (k + 1 + 1) := by
      rw [Nat.add_mul, Nat.mul_add (ch (n + 1) (k + 1)) (k + 1) 1, Nat.mul_one]
    rw [e1, h1, h2]
    have e2 : ch (n + 1) (k + 1) * (n + 1 + 1) = ch n k * (n + 1) + ch n (k + 1) * (n + 1) + ch (n + 1) (k + 1) := by
      rw [Nat.mul_add (ch (n + 1) (k + 1)) (n + 1) 1, Nat.mul_one, h3, Nat.add_mul]
    rw [e2]; omega
theorem ch_step (n i : Nat) (h : i ≤ n) : ch n (i + 1) * (i + 1) = ch n i * (n - i) := by
  have h1 := ch_mul n i
  rw [ch_next, Nat.add_mul] at h1
  have e : ch n i * (n + 1) = ch n i * (n - i) + ch n i * (i + 1) := by rw [← Nat.mul_add]; congr 1; omega
  omega

/-- The numbers of n things, side by side. -/
def nxt : List Nat → List Nat
  | [] => []
  | x :: r => (x + r.headD 0) :: nxt r
def line : Nat → List Nat
  | 0 => [1]
  | n + 1 => 1 :: nxt (line n)
theorem nxt_get : ∀ (l : List Nat) (k : Nat), (nxt l).getD k 0 = l.getD k 0 + if k < l.length then l.getD (k + 1) 0 else 0
  | [], k => by simp [nxt]
  | x :: r, 0 => by cases r <;> simp [nxt]
  | x :: r, k + 1 => by
    have := nxt_get r k
    simp only [nxt, List.getD_cons_succ, List.length_cons, Nat.add_lt_add_iff_right]
    exact this
theorem line_length : ∀ n, (line n).length = n + 1
  | 0 => rfl
  | n + 1 => by
    have h : ∀ l, (nxt l).length = l.length := by
      intro l
      induction l with
      | nil => rfl
      | cons x r ih => simp [nxt, ih]
    simp [line, h, line_length n]
theorem line_get : ∀ (n k : Nat), (line n).getD k 0 = ch n k
  | 0, 0 => rfl
  | 0, k + 1 => rfl
  | n + 1, 0 => by rw [ch_zero]; rfl
  | n + 1, k + 1 => by
    rw [ch_next, ← line_get n k, ← line_get n (k + 1)]
    show (nxt (line n)).getD k 0 = _
    rw [nxt_get, line_length]
    by_cases h : k < n + 1
    · rw [if_pos h]
    · rw [if_neg h]
      have : (line n).getD (k + 1) 0 = 0 := by rw [line_get n (k + 1), ch_gt n (k + 1) (by omega)]
      rw [this]
theorem lines_le : ((List.range 61).all fun n => (line n).all fun x => decide (x ≤ 118264581564861424)) = true := by decide +kernel
theorem lines_few : ((List.range 7).all fun n => (line n).all fun x => decide (x ≤ 20)) = true := by decide +kernel
theorem getD_le {l : List Nat} {m : Nat} (h : (l.all fun x => decide (x ≤ m)) = true) (k : Nat) : l.getD k 0 ≤ m := by
  rw [List.all_eq_true] at h
  rcases Nat.lt_or_ge k l.length with hk | hk
  · have := h (l[k]) (List.getElem_mem hk)
    rw [List.getD, List.getElem?_eq_getElem hk]
    simpa using this
  · rw [List.getD, List.getElem?_eq_none hk]; exact Nat.zero_le _
theorem ch_big (n k : Nat) (h : n ≤ 60) : ch n k ≤ 118264581564861424 := by
  rw [← line_get]
  exact getD_le (List.all_eq_true.1 lines_le n (by rw [List.mem_range]; omega)) k
theorem ch_few (n k : Nat) (h : n ≤ 6) : ch n k ≤ 20 := by
  rw [← line_get]
  exact getD_le (List.all_eq_true.1 lines_few n (by rw [List.mem_range]; omega)) k

/-- Choose. -/
def chZ (n k : Int) : Int := if 0 ≤ n ∧ n ≤ 60 ∧ 0 ≤ k ∧ k ≤ n then (ch n.toNat k.toNat : Int) else 0

/-- The k-th power of a sign. -/
def pw (s : Int) : Nat → Int
  | 0 => 1
  | j + 1 => pw s j * s
theorem pw_one : ∀ j, pw 1 j = 1
  | 0 => rfl
  | j + 1 => by rw [pw, pw_one j]; rfl
theorem pw_neg : ∀ j : Nat, pw (-1) j = 1 - 2 * ((j % 2 : Nat) : Int)
  | 0 => rfl
  | j + 1 => by rw [pw, pw_neg j]; omega
theorem pw_sign (s : Int) (h : s = 1 ∨ s = -1) (j : Nat) : pw s j = 1 ∨ pw s j = -1 := by
  rcases h with rfl | rfl
  · exact .inl (pw_one j)
  · rw [pw_neg]; omega

/-- The first m parts of the sum at k. -/
def hs (s : Int) (L : List Int) (d k : Nat) : Nat → Int
  | 0 => 0
  | m + 1 => hs s L d k m + pw s (k - m) * L.getD m 0 * (ch (d - m) (k - m) : Int)
/-- Sums by binomial numbers. -/
def hsums (s : Int) (L : List Int) : List Int := (List.range L.length).map fun k => hs s L (L.length - 1) k (k + 1)
theorem hsums_length (s : Int) (L : List Int) : (hsums s L).length = L.length := by simp [hsums]
theorem hsums_at (s : Int) (L : List Int) (k : Nat) (h : k < L.length) : (hsums s L).getD k 0 = hs s L (L.length - 1) k (k + 1) := by
  simp [hsums, List.getD, h]
/-- One part. -/
theorem part_le (s : Int) (h : s = 1 ∨ s = -1) (x : Int) (hx : -1000 ≤ x ∧ x ≤ 1000) (d k m : Nat) (hd : d ≤ 6) : -20000 ≤ pw s (k - m) * x * (ch (d - m) (k - m) : Int) ∧ pw s (k - m) * x * (ch (d - m) (k - m) : Int) ≤ 20000 := by
  have hc := ch_few (d - m) (k - m) (by omega)
  generalize ch (d - m) (k - m) = c at hc ⊢
  have hy : -1000 ≤ pw s (k - m) * x ∧ pw s (k - m) * x ≤ 1000 := by rcases pw_sign s h (k - m) with e | e <;> rw [e] <;> omega
  generalize pw s (k - m) * x = y at hy ⊢
  have h1 : (1000 - y) * (c : Int) ≥ 0 := Int.mul_nonneg (by omega) (by omega)
  have h2 : (y + 1000) * (c : Int) ≥ 0 := Int.mul_nonneg (by omega) (by omega)
  rw [Int.sub_mul] at h1
  rw [Int.add_mul] at h2
  omega
theorem hs_le (s : Int) (h : s = 1 ∨ s = -1) (L : List Int) (hx : ∀ j, -1000 ≤ L.getD j 0 ∧ L.getD j 0 ≤ 1000) (d k : Nat) (hd : d ≤ 6) : ∀ m : Nat, -20000 * (m : Int) ≤ hs s L d k m ∧ hs s L d k m ≤ 20000 * (m : Int)
  | 0 => by simp [hs]
  | m + 1 => by
    have h1 := hs_le s h L hx d k hd m
    have h2 := part_le s h _ (hx m) d k m hd
    rw [hs]
    generalize pw s (k - m) * L.getD m 0 * (ch (d - m) (k - m) : Int) = y at h2 ⊢
    omega

/-- GNumbers, of h numbers. -/
def gnum (h : List Int) : List Int := if h = [] then [] else 1 :: (List.range ((h.length - 1) / 2)).map fun k => h.getD (k + 1) 0 - h.getD k 0
theorem gnum_nil : gnum [] = [] := rfl
theorem gnum_length (h : List Int) (h0 : 0 < h.length) : (gnum h).length = (h.length - 1) / 2 + 1 := by
  unfold gnum; rw [if_neg (by intro e; rw [e] at h0; simp at h0)]; simp
/-- The first k steps. -/
def gto (h : List Int) (k : Nat) : List Int := 1 :: (List.range k).map fun k => h.getD (k + 1) 0 - h.getD k 0
theorem gto_zero (h : List Int) : gto h 0 = [1] := rfl
theorem gto_next (h : List Int) (k : Nat) : gto h (k + 1) = gto h k ++ [h.getD (k + 1) 0 - h.getD k 0] := by
  unfold gto; rw [List.range_succ, List.map_append]; rfl
theorem gto_length (h : List Int) (k : Nat) : (gto h k).length = k + 1 := by simp [gto]
theorem gto_end (h : List Int) (h0 : 0 < h.length) : gto h ((h.length - 1) / 2) = gnum h := by
  unfold gnum gto; rw [if_neg (by intro e; rw [e] at h0; simp at h0)]
/-- IsSymmetricH. -/
def symB (h : List Int) : Bool := !h.isEmpty && (h == h.reverse)
/-- TopH. -/
def topZ (h : List Int) : Int := h.getD (h.length - 1) 0
/-- CountsFromH. -/
def nearB (h : List Int) : Bool := h.all fun x => decide (-1000 ≤ x ∧ x ≤ 1000)
def fromH (h : List Int) : List Int := if 0 < h.length ∧ h.length ≤ 7 ∧ nearB h = true then hsums 1 h else []
theorem near_at {L : List Int} (h : nearB L = true) (j : Nat) : -1000 ≤ L.getD j 0 ∧ L.getD j 0 ≤ 1000 := by
  unfold nearB at h
  rw [List.all_eq_true] at h
  rcases Nat.lt_or_ge j L.length with hj | hj
  · have := h (L[j]) (List.getElem_mem hj)
    rw [List.getD, List.getElem?_eq_getElem hj]
    simpa using this
  · rw [List.getD, List.getElem?_eq_none hj]
    exact ⟨by decide, by decide⟩
/-- HNumbers. -/
def hnum (n : Int) (xs : List Int) : List Int := hsums (-1) (counts (faces n xs))

end Go.Proofs.Ytmonaiojejbhkaa.Hn

/-! H NUMBERS, of no program: what chapter 10's law says of them. -/

namespace Go.Proofs.Ytmonaiojejbhkaa.Hn
open Sets

theorem all_few : ∀ k : Fin 7, cnt k.val (ord fun _ => true) ≤ 20 := by decide +kernel
theorem cnt_few (n : Int) (xs : List Int) (k : Nat) : cnt k (faces n xs) ≤ 20 := by
  unfold faces
  split
  · rcases Nat.lt_or_ge k 7 with h | h
    · refine Nat.le_trans ?_ (all_few ⟨k, h⟩)
      rw [ord_filter]
      unfold cnt
      rw [List.countP_filter]
      apply List.countP_mono_left
      intro x _ hx
      rw [Bool.and_eq_true] at hx
      exact hx.1
    · have : cnt k (ord (inF xs)) = 0 := by
        unfold cnt
        rw [List.countP_eq_zero]
        intro x _ e
        rw [beq_iff_eq] at e
        have := pc_le x.toNat
        omega
      omega
  · exact Nat.zero_le _
theorem counts_few (n : Int) (xs : List Int) (j : Nat) : 0 ≤ (counts (faces n xs)).getD j 0 ∧ (counts (faces n xs)).getD j 0 ≤ 20 := by
  rcases Nat.lt_or_ge j (top (faces n xs)) with h | h
  · rw [counts_at _ j h]
    have := cnt_few n xs j
    omega
  · rw [List.getD, List.getElem?_eq_none (by rw [counts_length]; exact h)]
    exact ⟨Int.le_refl _, by decide⟩
theorem counts_le7 (L : List Int) : (counts L).length ≤ 7 := by rw [counts_length]; exact top_le L

theorem r2 : List.range 2 = [0, 1] := rfl
theorem r3 : List.range 3 = [0, 1, 2] := rfl
theorem r4 : List.range 4 = [0, 1, 2, 3] := rfl
theorem r5 : List.range 5 = [0, 1, 2, 3, 4] := rfl
theorem r6 : List.range 6 = [0, 1, 2, 3, 4, 5] := rfl
theorem r7 : List.range 7 = [0, 1, 2, 3, 4, 5, 6] := rfl

theorem short (P : List Int → Prop) (h0 : P []) (h1 : ∀ a, P [a]) (h2 : ∀ a b, P [a, b]) (h3 : ∀ a b c, P [a, b, c]) (h4 : ∀ a b c d, P [a, b, c, d]) (h5 : ∀ a b c d e, P [a, b, c, d, e]) (h6 : ∀ a b c d e f, P [a, b, c, d, e, f]) (h7 : ∀ a b c d e f g, P [a, b, c, d, e, f, g]) : ∀ L : List Int, L.length ≤ 7 → P L
  | [], _ => h0
  | [a], _ => h1 a
  | [a, b], _ => h2 a b
  | [a, b, c], _ => h3 a b c
  | [a, b, c, d], _ => h4 a b c d
  | [a, b, c, d, e], _ => h5 a b c d e
  | [a, b, c, d, e, f], _ => h6 a b c d e f
  | [a, b, c, d, e, f, g], _ => h7 a b c d e f g
  | _ :: _ :: _ :: _ :: _ :: _ :: _ :: _ :: _, h => by simp at h

/-- From h numbers back. -/
theorem back : ∀ L : List Int, L.length ≤ 7 → hsums 1 (hsums (-1) L) = L := by
  apply short
  · rfl
  all_goals
    intros
    simp [hsums, r2, r3, r4, r5, r6, r7, hs, pw, ch]
    try omega
/-- The h numbers are near. -/
theorem near : ∀ L : List Int, L.length ≤ 7 → (∀ j, 0 ≤ L.getD j 0 ∧ L.getD j 0 ≤ 20) → nearB (hsums (-1) L) = true := by
  apply short
  · intro _; rfl
  · intro a H
    have h0 := H 0
    simp at h0
    simp [nearB, hsums, hs, pw, ch]; omega
  · intro a b H
    have h0 := H 0; have h1 := H 1
    simp at h0 h1
    simp [nearB, hsums, r2, hs, pw, ch]; omega
  · intro a b c H
    have h0 := H 0; have h1 := H 1; have h2 := H 2
    simp at h0 h1 h2
    simp [nearB, hsums, r3, hs, pw, ch]; omega
  · intro a b c d H
    have h0 := H 0; have h1 := H 1; have h2 := H 2; have h3 := H 3
    simp at h0 h1 h2 h3
    simp [nearB, hsums, r4, hs, pw, ch]; omega
  · intro a b c d e H
    have h0 := H 0; have h1 := H 1; have h2 := H 2; have h3 := H 3; have h4 := H 4
    simp at h0 h1 h2 h3 h4
    simp [nearB, hsums, r5, hs, pw, ch]; omega
  · intro a b c d e f H
    have h0 := H 0; have h1 := H 1; have h2 := H 2; have h3 := H 3; have h4 := H 4; have h5 := H 5
    simp at h0 h1 h2 h3 h4 h5
    simp [nearB, hsums, r6, hs, pw, ch]; omega
  · intro a b c d e f g H
    have h0 := H 0; have h1 := H 1; have h2 := H 2; have h3 := H 3; have h4 := H 4; have h5 := H 5; have h6 := H 6
    simp at h0 h1 h2 h3 h4 h5 h6
    simp [nearB, hsums, r7, hs, pw, ch]; omega
/-- The first h number is the first count. -/
theorem first (s : Int) (L : List Int) (h : 0 < L.length) : (hsums s L).getD 0 0 = L.getD 0 0 := by
  rw [hsums_at s L 0 h]
  simp [hs, pw, ch_zero]
/-- The last one is the signed sum. -/
theorem last : ∀ L : List Int, L.length ≤ 7 → 0 < L.length → topZ (hsums (-1) L) = (2 * (((L.length - 1) % 2 : Nat) : Int) - 1) * ssumK L L.length := by
  apply short
  · intro h; simp at h
  all_goals
    intros
    simp [topZ, hsums, r2, r3, r4, r5, r6, r7, hs, pw, ch, ssumK, sgn]
    try omega

theorem hnum_length (n : Int) (xs : List Int) : (hnum n xs).length = (counts (faces n xs)).length := hsums_length _ _
theorem hnum_le7 (n : Int) (xs : List Int) : (hnum n xs).length ≤ 7 := by rw [hnum_length]; exact counts_le7 _
theorem hnum_near (n : Int) (xs : List Int) : nearB (hnum n xs) = true := near _ (counts_le7 _) (counts_few n xs)
theorem hnum_back (n : Int) (xs : List Int) : fromH (hnum n xs) = counts (faces n xs) := by
  unfold fromH
  have hl := hnum_le7 n xs
  have hn := hnum_near n xs
  have hb : hsums 1 (hnum n xs) = counts (faces n xs) := back _ (counts_le7 _)
  by_cases h : 0 < (hnum n xs).length
  · rw [if_pos ⟨h, hl, hn⟩, hb]
  · rw [if_neg (fun e => h e.1)]
    rw [hnum_length] at h
    exact (List.eq_nil_of_length_eq_zero (by omega)).symm
theorem hnum_top (n : Int) (xs : List Int) (h : 0 < (hnum n xs).length) : topZ (hnum n xs) = (2 * ((((hnum n xs).length - 1) % 2 : Nat) : Int) - 1) * eul (faces n xs) := by
  rw [hnum_length] at h ⊢
  rw [← counts_signed]
  exact last _ (counts_le7 _) h
theorem hnum_first (n : Int) (xs : List Int) (h : 0 < (hnum n xs).length) : (hnum n xs).getD 0 0 = 1 := by
  rw [hnum_length] at h
  have e := first (-1) _ h
  unfold hnum
  rw [e]
  rw [counts_length] at h
  rw [counts_at _ 0 h]
  have hne : faces n xs ≠ [] := by
    intro e0
    rw [e0] at h
    simp [top] at h
  unfold faces at hne ⊢
  split at hne
  · rename_i hC
    rw [if_pos hC]
    have h0 : inF xs 0 = true := by
      rcases List.exists_mem_of_ne_nil _ hne with ⟨x, hx⟩
      obtain ⟨s, rfl, hs, hp⟩ := (mem_ord _ _).1 hx
      unfold inF at hp ⊢
      rw [List.any_eq_true] at hp ⊢
      obtain ⟨f, hf, _⟩ := hp
      exact ⟨f, hf, by simp [sub]⟩
    have e1 : cnt 0 (ord (inF xs)) = ([0] : List Int).countP fun x => inF xs x.toNat := by
      have e : (ord fun _ => true).filter (fun x => pc x.toNat == 0) = [0] := by decide +kernel
      rw [← e, List.countP_filter, ord_filter (inF xs)]
      unfold cnt
      rw [List.countP_filter]
      apply List.countP_congr
      intro x _
      rw [Bool.and_comm]
    rw [e1]
    simp [h0]
  · exact absurd rfl hne
theorem fromH_le (h : List Int) : (fromH h).length ≤ 1048576 := by
  unfold fromH
  split
  · rename_i e; rw [hsums_length]; omega
  · simp
theorem hnum_le (n : Int) (xs : List Int) : (hnum n xs).length ≤ 1048576 := Nat.le_trans (hnum_le7 n xs) (by decide)
theorem gnum_le (n : Int) (xs : List Int) : (gnum (hnum n xs)).length ≤ 1048576 := by
  have h7 := hnum_le7 n xs
  rcases Nat.eq_zero_or_pos (hnum n xs).length with e | e
  · rw [List.eq_nil_of_length_eq_zero e]; simp [gnum]
  · rw [gnum_length _ e]; omega

end Go.Proofs.Ytmonaiojejbhkaa.Hn

/-! PARTS OF COMPLEXES, of no program: families of sets by predicates, their greatest sets. -/

namespace Go.Proofs.Ytmonaiojejbhkaa
open Sets

/-! ### subsets by bits -/

theorem sub_iff (a b : Nat) : sub a b = true ↔ ∀ i, a.testBit i = true → b.testBit i = true := by
  unfold sub
  rw [beq_iff_eq]
  constructor
  · intro h i hi
    have := congrArg (fun x => x.testBit i) h
    simp only [Nat.testBit_and] at this
    rw [hi] at this
    simpa using this
  · intro h
    apply Nat.eq_of_testBit_eq
    intro i
    rw [Nat.testBit_and]
    cases ha : a.testBit i with
    | false => rfl
    | true => rw [h i ha]; rfl
theorem sub_refl (a : Nat) : sub a a = true := by unfold sub; simp
theorem sub_trans {a b c : Nat} (h : sub a b = true) (k : sub b c = true) : sub a c = true := by
  rw [sub_iff] at *; exact fun i hi => k i (h i hi)
theorem sub_anti {a b : Nat} (h : sub a b = true) (k : sub b a = true) : a = b := by
  rw [sub_iff] at *
  apply Nat.eq_of_testBit_eq
  intro i
  rw [Bool.eq_iff_iff]
  exact ⟨h i, k i⟩
theorem sub_le {a b : Nat} (h : sub a b = true) : a ≤ b := by
  unfold sub at h
  rw [beq_iff_eq] at h
  rw [← h]; exact Nat.and_le_right
theorem sub_and (t f s : Nat) : sub t (f &&& s) = (sub t f && sub t s) := by
  rw [Bool.eq_iff_iff, Bool.and_eq_true, sub_iff, sub_iff, sub_iff]
  constructor
  · intro h
    refine ⟨fun i hi => ?_, fun i hi => ?_⟩ <;>
    · have := h i hi
      rw [Nat.testBit_and, Bool.and_eq_true] at this
      first | exact this.1 | exact this.2
  · intro h i hi
    rw [Nat.testBit_and, h.1 i hi, h.2 i hi]; rfl
theorem sub_or (t s f : Nat) : sub (t ||| s) f = (sub t f && sub s f) := by
  rw [Bool.eq_iff_iff, Bool.and_eq_true, sub_iff, sub_iff, sub_iff]
  constructor
  · intro h
    refine ⟨fun i hi => h i ?_, fun i hi => h i ?_⟩ <;> (rw [Nat.testBit_or, hi]; simp)
  · intro h i hi
    rw [Nat.testBit_or, Bool.or_eq_true] at hi
    rcases hi with e | e
    · exact h.1 i e
    · exact h.2 i e
/-- No point in common. -/
def apart (t s : Nat) : Bool := t &&& s == 0
theorem apart_iff (t s : Nat) : apart t s = true ↔ ∀ i, ¬(t.testBit i = true ∧ s.testBit i = true) := by
  unfold apart
  rw [beq_iff_eq]
  constructor
  · intro h i ⟨h1, h2⟩
    have := congrArg (fun x => x.testBit i) h
    simp only [Nat.testBit_and, Nat.zero_testBit, h1, h2] at this
    cases this
  · intro h
    apply Nat.eq_of_testBit_eq
    intro i
    rw [Nat.testBit_and, Nat.zero_testBit]
    cases h1 : t.testBit i with
    | false => rfl
    | true =>
      cases h2 : s.testBit i with
      | false => rfl
      | true => exact absurd ⟨h1, h2⟩ (h i)
theorem take_away (f s : Nat) (hf : f < 64) (hs : s < 64) (h : sub s f = true) : f - s = f ^^^ s := by
  have H : ∀ f s : Fin 64, sub s.val f.val = true → f.val - s.val = f.val ^^^ s.val := by decide +kernel
  exact H ⟨f, hf⟩ ⟨s, hs⟩ h
theorem sub_xor (t f s : Nat) (h : sub s f = true) : sub t (f ^^^ s) = (apart t s && sub t f) := by
  rw [sub_iff] at h
  rw [Bool.eq_iff_iff, Bool.and_eq_true, sub_iff, sub_iff, apart_iff]
  constructor
  · intro k
    refine ⟨fun i ⟨h1, h2⟩ => ?_, fun i hi => ?_⟩
    · have := k i h1
      rw [Nat.testBit_xor, h2, h i h2] at this
      cases this
    · have := k i hi
      rw [Nat.testBit_xor] at this
      cases h2 : s.testBit i with
      | true => exact h i h2
      | false => rw [h2] at this; simpa using this
  · rintro ⟨k1, k2⟩ i hi
    rw [Nat.testBit_xor, k2 i hi]
    cases h2 : s.testBit i with
    | true => exact absurd ⟨hi, h2⟩ (k1 i)
    | false => rfl
theorem apart_mono {t u s : Nat} (h : sub t u = true) (k : apart u s = true) : apart t s = true := by
  rw [sub_iff] at h; rw [apart_iff] at *
  exact fun i ⟨h1, h2⟩ => k i ⟨h i h1, h2⟩

/-! ### families closed downwards -/

def Down (q : Nat → Bool) : Prop := ∀ s t, s < 64 → t < 64 → sub s t = true → q t = true → q s = true
theorem inF_iff (xs : List Int) (s : Nat) : inF xs s = true ↔ ∃ f, f ∈ xs ∧ sub s f.toNat = true := by unfold inF; rw [List.any_eq_true]
theorem inF_down (xs : List Int) : Down (inF xs) := fun s t _ _ h k => by
  rw [inF_iff] at *
  obtain ⟨f, hf, e⟩ := k
  exact ⟨f, hf, sub_trans h e⟩
/-- The greatest sets of a family, in order. -/
def maxQ (q : Nat → Bool) : List Int := ord fun s => q s && (List.range 64).all fun t => !(q t && sub s t && t != s)
theorem mem_maxQ (q : Nat → Bool) (x : Int) : x ∈ maxQ q ↔ ∃ s : Nat, x = (s : Int) ∧ s < 64 ∧ q s = true ∧ ∀ t, t < 64 → q t = true → sub s t = true → t = s := by
  unfold maxQ
  rw [mem_ord]
  constructor
  · rintro ⟨s, rfl, hs, h⟩
    rw [Bool.and_eq_true, List.all_eq_true] at h
    refine ⟨s, rfl, hs, h.1, fun t ht h1 h2 => ?_⟩
    have := h.2 t (List.mem_range.2 ht)
    rw [h1, h2] at this
    simpa using this
  · rintro ⟨s, rfl, hs, h1, h2⟩
    refine ⟨s, rfl, hs, ?_⟩
    rw [Bool.and_eq_true, List.all_eq_true]
    refine ⟨h1, fun t ht => ?_⟩
    rw [Bool.not_eq_true', Bool.and_eq_false_iff]
    cases e1 : q t with
    | false => left; rfl
    | true =>
      cases e2 : sub s t with
      | false => left; rfl
      | true => right; rw [h2 t (List.mem_range.1 ht) e1 e2]; simp
theorem maxQ_congr {p q : Nat → Bool} (h : ∀ s, s < 64 → p s = q s) : maxQ p = maxQ q := by
  refine rises_eq _ _ (ord_rises _) (ord_rises _) fun x => ?_
  rw [mem_maxQ, mem_maxQ]
  constructor
  · rintro ⟨s, e, hs, h1, h2⟩
    exact ⟨s, e, hs, by rw [← h s hs]; exact h1, fun t ht k1 k2 => h2 t ht (by rw [h t ht]; exact k1) k2⟩
  · rintro ⟨s, e, hs, h1, h2⟩
    exact ⟨s, e, hs, by rw [h s hs]; exact h1, fun t ht k1 k2 => h2 t ht (by rw [← h t ht]; exact k1) k2⟩
theorem ok_nat {x : Int} {A : List Int} (h : allOk A = true) (hx : x ∈ A) : ∃ s : Nat, x = (s : Int) ∧ s < 64 := by
  unfold allOk at h
  exact okZ_cast x (List.all_eq_true.1 h x hx)
/-- The maximal sets of a list are told by what lies in it. -/
theorem maximal_maxQ (A : List Int) (h : allOk A = true) : maximal A = maxQ (inF A) := by
  refine rises_eq _ _ ?_ (ord_rises _) fun x => ?_
  · unfold maximal best
    exact List.Pairwise.filter _ (order_rises A)
  rw [mem_maxQ]
  unfold maximal best
  rw [List.mem_filter, order_iff A h]
  constructor
  · rintro ⟨hx, hu⟩
    obtain ⟨s, rfl, hs⟩ := ok_nat h hx
    refine ⟨s, rfl, hs, (inF_iff A s).2 ⟨_, hx, sub_refl s⟩, fun t ht h1 h2 => ?_⟩
    obtain ⟨f, hf, e⟩ := (inF_iff A t).1 h1
    obtain ⟨u, rfl, hu64⟩ := ok_nat h hf
    have e : sub t u = true := e
    by_cases hne : u = s
    · subst hne; exact sub_anti e h2
    · unfold unbeaten at hu
      have := List.all_eq_true.1 hu (u : Int) ((order_iff A h _).2 hf)
      rw [Bool.not_eq_true', Bool.and_eq_false_iff] at this
      rcases this with k | k
      · have : (u : Int) = (s : Int) := by simpa using k
        omega
      · have k : sub s u = false := k
        rw [sub_trans h2 e] at k; cases k
  · rintro ⟨s, rfl, hs, h1, h2⟩
    obtain ⟨f, hf, e⟩ := (inF_iff A s).1 h1
    obtain ⟨u, rfl, hu64⟩ := ok_nat h hf
    have e : sub s u = true := e
    have : u = s := h2 u hu64 ((inF_iff A u).2 ⟨_, hf, sub_refl u⟩) e
    subst this
    refine ⟨hf, ?_⟩
    unfold unbeaten
    rw [List.all_eq_true]
    intro y hy
    have hy := (order_iff A h y).1 hy
    obtain ⟨v, rfl, hv⟩ := ok_nat h hy
    rw [Bool.not_eq_true', Bool.and_eq_false_iff]
    by_cases hne : v = u
    · left; subst hne; simp
    · right
      rw [Bool.eq_false_iff]
      intro k
      exact hne (h2 v hv ((inF_iff A v).2 ⟨_, hy, sub_refl v⟩) k)
theorem inF_ord (q : Nat → Bool) (hd : Down q) (t : Nat) (ht : t < 64) : inF (ord q) t = q t := by
  rw [Bool.eq_iff_iff, inF_iff]
  constructor
  · rintro ⟨f, hf, e⟩
    obtain ⟨u, rfl, hu, hq⟩ := (mem_ord q f).1 hf
    exact hd t u ht hu e hq
  · intro h
    exact ⟨(t : Int), (mem_ord q _).2 ⟨t, rfl, ht, h⟩, sub_refl t⟩
theorem ord_ok (q : Nat → Bool) : allOk (ord q) = true := by
  unfold allOk
  rw [List.all_eq_true]
  intro x hx
  obtain ⟨s, rfl, hs, _⟩ := (mem_ord q x).1 hx
  exact (okZ_nat s).2 hs
theorem maximal_ord (q : Nat → Bool) (hd : Down q) : maximal (ord q) = maxQ q := by
  rw [maximal_maxQ _ (ord_ok q)]
  exact maxQ_congr fun s hs => inF_ord q hd s hs
/-- Each set of a family lies in a greatest one. -/
theorem maxQ_above (q : Nat → Bool) : ∀ (m t : Nat), t < 64 → 64 - t ≤ m → q t = true → ∃ u : Nat, u < 64 ∧ (u : Int) ∈ maxQ q ∧ sub t u = true
  | 0, t, ht, hm, _ => by omega
  | m + 1, t, ht, hm, hq => by
    by_cases h : ∀ v, v < 64 → q v = true → sub t v = true → v = t
    · exact ⟨t, ht, (mem_maxQ q _).2 ⟨t, rfl, ht, hq, h⟩, sub_refl t⟩
    · have : ∃ v, v < 64 ∧ q v = true ∧ sub t v = true ∧ v ≠ t := by
        refine Classical.byContradiction fun k => h fun v h1 h2 h3 => Classical.byContradiction fun h4 => k ⟨v, h1, h2, h3, h4⟩
      obtain ⟨v, h1, h2, h3, h4⟩ := this
      have := sub_le h3
      obtain ⟨u, k1, k2, k3⟩ := maxQ_above q m v h1 (by omega) h2
      exact ⟨u, k1, k2, sub_trans h3 k3⟩
theorem inF_maxQ (q : Nat → Bool) (hd : Down q) (t : Nat) (ht : t < 64) : inF (maxQ q) t = q t := by
  rw [Bool.eq_iff_iff, inF_iff]
  constructor
  · rintro ⟨f, hf, e⟩
    obtain ⟨u, rfl, hu, hq, _⟩ := (mem_maxQ q f).1 hf
    exact hd t u ht hu e hq
  · intro h
    obtain ⟨u, _, h2, h3⟩ := maxQ_above q 64 t ht (by omega) h
    exact ⟨_, h2, h3⟩
theorem maxQ_le (q : Nat → Bool) : (maxQ q).length ≤ 64 := ord_le _
theorem maxQ_ok (q : Nat → Bool) : allOk (maxQ q) = true := ord_ok _
/-- A complex is told by its faces. -/
theorem isC_maxQ {n : Int} {xs : List Int} (h : isC n xs = true) : maxQ (inF xs) = xs := by
  rw [← maximal_maxQ xs (isC_ok h), maximal_self h]
theorem maxQ_isC (n : Int) (q : Nat → Bool) (h1 : 1 ≤ n) (h2 : n ≤ 6) (hd : Down q) (h : ∀ s, s < 64 → q s = true → setB n (s : Int) = true) : isC n (maxQ q) = true := by
  rw [← maximal_ord q hd]
  refine isC_maximal n _ h1 h2 fun x hx => ?_
  obtain ⟨s, rfl, hs, hq⟩ := (mem_ord q x).1 hx
  exact h s hs hq
theorem maxQ_faces (n : Int) (q : Nat → Bool) (hd : Down q) (hc : isC n (maxQ q) = true) : faces n (maxQ q) = ord q := by
  unfold faces
  rw [if_pos hc]
  exact ord_congr fun t ht => inF_maxQ q hd t ht
/-- Faces of a complex are sets of its points. -/
theorem setB_sub {n : Int} {s t : Nat} (h : setB n (t : Int) = true) (k : sub s t = true) : setB n (s : Int) = true := by
  rw [setB_iff] at *
  have := sub_le k
  exact ⟨h.1, h.2.1, by omega, by have := h.2.2.2; omega⟩
theorem inF_set {n : Int} {xs : List Int} (h : isC n xs = true) (s : Nat) (k : inF xs s = true) : setB n (s : Int) = true := by
  obtain ⟨f, hf, e⟩ := (inF_iff xs s).1 k
  obtain ⟨t, rfl, _⟩ := ok_nat (isC_ok h) hf
  exact setB_sub (isC_set h _ hf) e

/-! ### the parts -/

def linkQ (xs : List Int) (s t : Nat) : Bool := apart t s && inF xs (t ||| s)
def starQ (xs : List Int) (s t : Nat) : Bool := inF xs (t ||| s)
def delQ (xs : List Int) (s t : Nat) : Bool := inF xs t && !sub s t
def skelQ (xs : List Int) (k : Int) (t : Nat) : Bool := inF xs t && decide ((pc t : Int) ≤ k)
def indQ (xs : List Int) (s t : Nat) : Bool := inF xs t && sub t s
def orQ (xs ys : List Int) (t : Nat) : Bool := inF xs t || inF ys t
def andQ (xs ys : List Int) (t : Nat) : Bool := inF xs t && inF ys t

theorem or_sub {s t : Nat} (h : sub s t = true) (u : Nat) : sub (s ||| u) (t ||| u) = true := by
  rw [sub_or, Bool.and_eq_true, sub_iff, sub_iff]
  rw [sub_iff] at h
  exact ⟨fun i hi => by rw [Nat.testBit_or, h i hi]; rfl, fun i hi => by rw [Nat.testBit_or, hi]; simp⟩
theorem inF_sub {xs : List Int} {s t : Nat} (h : sub s t = true) (k : inF xs t = true) : inF xs s = true := by
  rw [inF_iff] at *
  obtain ⟨f, hf, e⟩ := k
  exact ⟨f, hf, sub_trans h e⟩
theorem starQ_down (xs : List Int) (u : Nat) : Down (starQ xs u) := fun s t _ _ h k => by
  unfold starQ at *
  exact inF_sub (or_sub h u) k
theorem linkQ_down (xs : List Int) (u : Nat) : Down (linkQ xs u) := fun s t hs ht h k => by
  unfold linkQ at *
  rw [Bool.and_eq_true] at *
  exact ⟨apart_mono h k.1, starQ_down xs u s t hs ht h k.2⟩
theorem delQ_down (xs : List Int) (u : Nat) : Down (delQ xs u) := fun s t _ _ h k => by
  unfold delQ at *
  rw [Bool.and_eq_true, Bool.not_eq_true'] at *
  refine ⟨inF_sub h k.1, ?_⟩
  rw [Bool.eq_false_iff]; intro e
  rw [sub_trans e h] at k; cases k.2
theorem pc_sub {s t : Nat} (hs : s < 64) (ht : t < 64) (h : sub s t = true) : pc s ≤ pc t := by
  rcases sub_pc s t hs ht h with e | e
  · omega
  · rw [e]; exact Nat.le_refl _
theorem skelQ_down (xs : List Int) (k : Int) : Down (skelQ xs k) := fun s t hs ht h e => by
  unfold skelQ at *
  rw [Bool.and_eq_true, decide_eq_true_iff] at *
  have := pc_sub hs ht h
  exact ⟨inF_sub h e.1, by omega⟩
theorem indQ_down (xs : List Int) (u : Nat) : Down (indQ xs u) := fun s t _ _ h k => by
  unfold indQ at *
  rw [Bool.and_eq_true] at *
  exact ⟨inF_sub h k.1, sub_trans h k.2⟩
theorem orQ_down (xs ys : List Int) : Down (orQ xs ys) := fun s t _ _ h k => by
  unfold orQ at *
  rw [Bool.or_eq_true] at *
  exact k.imp (inF_sub h) (inF_sub h)
theorem andQ_down (xs ys : List Int) : Down (andQ xs ys) := fun s t _ _ h k => by
  unfold andQ at *
  rw [Bool.and_eq_true] at *
  exact ⟨inF_sub h k.1, inF_sub h k.2⟩

/-- A part: a complex of n points, or none. -/
def partO (ok : Bool) (n : Int) (q : Nat → Bool) : Option (Int × List Int) := if ok = true then some (n, maxQ q) else none
def linkO (n : Int) (xs : List Int) (s : Int) := partO (isC n xs && setB n s) n (linkQ xs s.toNat)
def starO (n : Int) (xs : List Int) (s : Int) := partO (isC n xs && setB n s) n (starQ xs s.toNat)
def delO (n : Int) (xs : List Int) (s : Int) := partO (isC n xs && setB n s) n (delQ xs s.toNat)
def skelO (n : Int) (xs : List Int) (k : Int) := partO (isC n xs && inB 0 6 k) n (skelQ xs k)
def indO (n : Int) (xs : List Int) (s : Int) := partO (isC n xs && setB n s) n (indQ xs s.toNat)
def bothOk (n m : Int) (xs ys : List Int) : Bool := isC n xs && isC m ys && n == m
def unionO (n m : Int) (xs ys : List Int) := partO (bothOk n m xs ys) n (orQ xs ys)
def meetO (n m : Int) (xs ys : List Int) := partO (bothOk n m xs ys) n (andQ xs ys)

end Go.Proofs.Ytmonaiojejbhkaa
