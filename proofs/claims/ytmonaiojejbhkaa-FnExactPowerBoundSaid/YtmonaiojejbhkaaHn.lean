/-
  H NUMBERS, of no program: binomial numbers, sums by them, what chapter 10's law says.
-/
import Derived.Test.YtmonaiojejbhkaaCntLaw
namespace Go.Proofs.Ytmonaiojejbhkaa.Hn
open Sets

/-- How many ways to choose k of n. -/
def ch : Nat → Nat → Nat
  | _, 0 => 1
  | 0, _ + 1 => 0
  | n + 1, k + 1 => ch n k + ch n (k + 1)
theorem ch_zero (n : Nat) : ch n 0 = 1 := by cases n <;> rfl
theorem ch_next (n k : Nat) : ch (n + 1) (k + 1) = ch n k + ch n (k + 1) := rfl
theorem ch_gt : ∀ (n k : Nat), n < k → ch n k = 0
  | 0, 0, h => by omega
  | 0, _ + 1, _ => rfl
  | n + 1, 0, h => by omega
  | n + 1, k + 1, h => by rw [ch_next, ch_gt n k (by omega), ch_gt n (k + 1) (by omega)]
theorem ch_mul : ∀ (n k : Nat), ch (n + 1) (k + 1) * (k + 1) = ch n k * (n + 1)
  | 0, 0 => rfl
  | 0, k + 1 => by rw [ch_next, ch_gt 0 (k + 1) (by omega), ch_gt 0 (k + 1 + 1) (by omega)]; omega
  | n + 1, 0 => by
    have h := ch_mul n 0
    rw [ch_next, ch_zero]
    rw [ch_zero] at h
    omega
  | n + 1, k + 1 => by
    have h1 := ch_mul n k
    have h2 := ch_mul n (k + 1)
    rw [ch_next (n + 1) (k + 1)]
    have h3 := ch_next n k
    have e1 : (ch (n + 1) (k + 1) + ch (n + 1) (k + 1 + 1)) * (k + 1 + 1) = ch (n + 1) (k + 1) * (k + 1) + ch (n + 1) (k + 1) + ch (n + 1) (k + 1 + 1) * (k + 1 + 1) := by
      rw [Nat.add_mul, Nat.mul_add (ch (n + 1) (k + 1)) (k + 1) 1, Nat.mul_one]
    rw [e1, h1, h2]
    have e2 : ch (n + 1) (k + 1) * (n + 1 + 1) = ch n k * (n + 1) + ch n (k + 1) * (n + 1) + ch (n + 1) (k + 1) := by
      rw [Nat.mul_add (ch (n + 1) (k + 1)) (n + 1) 1, Nat.mul_one, h3, Nat.add_mul]
    rw [e2]; omega
theorem ch_step (n i : Nat) (h : i ≤ n) : ch n (i + 1) * (i + 1) = ch n i * (n - i) := by
  have h1 := ch_mul n i
  rw [ch_next, Nat.add_mul] at h1
  have e : ch n i * (n + 1) = ch n i * (n - i) + ch n i * (i + 1) := by rw [← Nat.mul_add]; congr 1; omega
  omega

/-- The numbers of n things, side by side. -/
def nxt : List Nat → List Nat
  | [] => []
  | x :: r => (x + r.headD 0) :: nxt r
def line : Nat → List Nat
  | 0 => [1]
  | n + 1 => 1 :: nxt (line n)
theorem nxt_get : ∀ (l : List Nat) (k : Nat), (nxt l).getD k 0 = l.getD k 0 + if k < l.length then l.getD (k + 1) 0 else 0
  | [], k => by simp [nxt]
  | x :: r, 0 => by cases r <;> simp [nxt]
  | x :: r, k + 1 => by
    have := nxt_get r k
    simp only [nxt, List.getD_cons_succ, List.length_cons, Nat.add_lt_add_iff_right]
    exact this
theorem line_length : ∀ n, (line n).length = n + 1
  | 0 => rfl
  | n + 1 => by
    have h : ∀ l, (nxt l).length = l.length := by
      intro l
      induction l with
      | nil => rfl
      | cons x r ih => simp [nxt, ih]
    simp [line, h, line_length n]
theorem line_get : ∀ (n k : Nat), (line n).getD k 0 = ch n k
  | 0, 0 => rfl
  | 0, k + 1 => rfl
  | n + 1, 0 => by rw [ch_zero]; rfl
  | n + 1, k + 1 => by
    rw [ch_next, ← line_get n k, ← line_get n (k + 1)]
    show (nxt (line n)).getD k 0 = _
    rw [nxt_get, line_length]
    by_cases h : k < n + 1
    · rw [if_pos h]
    · rw [if_neg h]
      have : (line n).getD (k + 1) 0 = 0 := by rw [line_get n (k + 1), ch_gt n (k + 1) (by omega)]
      rw [this]
theorem lines_le : ((List.range 61).all fun n => (line n).all fun x => decide (x ≤ 118264581564861424)) = true := by decide +kernel
theorem lines_few : ((List.range 7).all fun n => (line n).all fun x => decide (x ≤ 20)) = true := by decide +kernel
theorem getD_le {l : List Nat} {m : Nat} (h : (l.all fun x => decide (x ≤ m)) = true) (k : Nat) : l.getD k 0 ≤ m := by
  rw [List.all_eq_true] at h
  rcases Nat.lt_or_ge k l.length with hk | hk
  · have := h (l[k]) (List.getElem_mem hk)
    rw [List.getD, List.getElem?_eq_getElem hk]
    simpa using this
  · rw [List.getD, List.getElem?_eq_none hk]; exact Nat.zero_le _
theorem ch_big (n k : Nat) (h : n ≤ 60) : ch n k ≤ 118264581564861424 := by
  rw [← line_get]
  exact getD_le (List.all_eq_true.1 lines_le n (by rw [List.mem_range]; omega)) k
theorem ch_few (n k : Nat) (h : n ≤ 6) : ch n k ≤ 20 := by
  rw [← line_get]
  exact getD_le (List.all_eq_true.1 lines_few n (by rw [List.mem_range]; omega)) k

/-- Choose. -/
def chZ (n k : Int) : Int := if 0 ≤ n ∧ n ≤ 60 ∧ 0 ≤ k ∧ k ≤ n then (ch n.toNat k.toNat : Int) else 0

/-- The k-th power of a sign. -/
def pw (s : Int) : Nat → Int
  | 0 => 1
  | j + 1 => pw s j * s
theorem pw_one : ∀ j, pw 1 j = 1
  | 0 => rfl
  | j + 1 => by rw [pw, pw_one j]; rfl
theorem pw_neg : ∀ j : Nat, pw (-1) j = 1 - 2 * ((j % 2 : Nat) : Int)
  | 0 => rfl
  | j + 1 => by rw [pw, pw_neg j]; omega
theorem pw_sign (s : Int) (h : s = 1 ∨ s = -1) (j : Nat) : pw s j = 1 ∨ pw s j = -1 := by
  rcases h with rfl | rfl
  · exact .inl (pw_one j)
  · rw [pw_neg]; omega

/-- The first m parts of the sum at k. -/
def hs (s : Int) (L : List Int) (d k : Nat) : Nat → Int
  | 0 => 0
  | m + 1 => hs s L d k m + pw s (k - m) * L.getD m 0 * (ch (d - m) (k - m) : Int)
/-- Sums by binomial numbers. -/
def hsums (s : Int) (L : List Int) : List Int := (List.range L.length).map fun k => hs s L (L.length - 1) k (k + 1)
theorem hsums_length (s : Int) (L : List Int) : (hsums s L).length = L.length := by simp [hsums]
theorem hsums_at (s : Int) (L : List Int) (k : Nat) (h : k < L.length) : (hsums s L).getD k 0 = hs s L (L.length - 1) k (k + 1) := by
  simp [hsums, List.getD, h]
/-- One part. -/
theorem part_le (s : Int) (h : s = 1 ∨ s = -1) (x : Int) (hx : -1000 ≤ x ∧ x ≤ 1000) (d k m : Nat) (hd : d ≤ 6) : -20000 ≤ pw s (k - m) * x * (ch (d - m) (k - m) : Int) ∧ pw s (k - m) * x * (ch (d - m) (k - m) : Int) ≤ 20000 := by
  have hc := ch_few (d - m) (k - m) (by omega)
  generalize ch (d - m) (k - m) = c at hc ⊢
  have hy : -1000 ≤ pw s (k - m) * x ∧ pw s (k - m) * x ≤ 1000 := by rcases pw_sign s h (k - m) with e | e <;> rw [e] <;> omega
  generalize pw s (k - m) * x = y at hy ⊢
  have h1 : (1000 - y) * (c : Int) ≥ 0 := Int.mul_nonneg (by omega) (by omega)
  have h2 : (y + 1000) * (c : Int) ≥ 0 := Int.mul_nonneg (by omega) (by omega)
  rw [Int.sub_mul] at h1
  rw [Int.add_mul] at h2
  omega
theorem hs_le (s : Int) (h : s = 1 ∨ s = -1) (L : List Int) (hx : ∀ j, -1000 ≤ L.getD j 0 ∧ L.getD j 0 ≤ 1000) (d k : Nat) (hd : d ≤ 6) : ∀ m : Nat, -20000 * (m : Int) ≤ hs s L d k m ∧ hs s L d k m ≤ 20000 * (m : Int)
  | 0 => by simp [hs]
  | m + 1 => by
    have h1 := hs_le s h L hx d k hd m
    have h2 := part_le s h _ (hx m) d k m hd
    rw [hs]
    generalize pw s (k - m) * L.getD m 0 * (ch (d - m) (k - m) : Int) = y at h2 ⊢
    omega

/-- GNumbers, of h numbers. -/
def gnum (h : List Int) : List Int := if h = [] then [] else 1 :: (List.range ((h.length - 1) / 2)).map fun k => h.getD (k + 1) 0 - h.getD k 0
theorem gnum_nil : gnum [] = [] := rfl
theorem gnum_length (h : List Int) (h0 : 0 < h.length) : (gnum h).length = (h.length - 1) / 2 + 1 := by
  unfold gnum; rw [if_neg (by intro e; rw [e] at h0; simp at h0)]; simp
/-- The first k steps. -/
def gto (h : List Int) (k : Nat) : List Int := 1 :: (List.range k).map fun k => h.getD (k + 1) 0 - h.getD k 0
theorem gto_zero (h : List Int) : gto h 0 = [1] := rfl
theorem gto_next (h : List Int) (k : Nat) : gto h (k + 1) = gto h k ++ [h.getD (k + 1) 0 - h.getD k 0] := by
  unfold gto; rw [List.range_succ, List.map_append]; rfl
theorem gto_length (h : List Int) (k : Nat) : (gto h k).length = k + 1 := by simp [gto]
theorem gto_end (h : List Int) (h0 : 0 < h.length) : gto h ((h.length - 1) / 2) = gnum h := by
  unfold gnum gto; rw [if_neg (by intro e; rw [e] at h0; simp at h0)]
/-- IsSymmetricH. -/
def symB (h : List Int) : Bool := !h.isEmpty && (h == h.reverse)
/-- TopH. -/
def topZ (h : List Int) : Int := h.getD (h.length - 1) 0
/-- CountsFromH. -/
def nearB (h : List Int) : Bool := h.all fun x => decide (-1000 ≤ x ∧ x ≤ 1000)
def fromH (h : List Int) : List Int := if 0 < h.length ∧ h.length ≤ 7 ∧ nearB h = true then hsums 1 h else []
theorem near_at {L : List Int} (h : nearB L = true) (j : Nat) : -1000 ≤ L.getD j 0 ∧ L.getD j 0 ≤ 1000 := by
  unfold nearB at h
  rw [List.all_eq_true] at h
  rcases Nat.lt_or_ge j L.length with hj | hj
  · have := h (L[j]) (List.getElem_mem hj)
    rw [List.getD, List.getElem?_eq_getElem hj]
    simpa using this
  · rw [List.getD, List.getElem?_eq_none hj]
    exact ⟨by decide, by decide⟩
/-- HNumbers. -/
def hnum (n : Int) (xs : List Int) : List Int := hsums (-1) (counts (faces n xs))

end Go.Proofs.Ytmonaiojejbhkaa.Hn
