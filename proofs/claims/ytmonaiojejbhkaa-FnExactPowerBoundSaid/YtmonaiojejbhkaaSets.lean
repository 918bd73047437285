/-
  SETS OF POINTS, of no program: numbers below 64; lists in order; texts.
-/
import Derived.Lib.Join
namespace Go.Proofs.Ytmonaiojejbhkaa.Sets

/-- How many points. -/
def pc (s : Nat) : Nat := s % 2 + s / 2 % 2 + s / 4 % 2 + s / 8 % 2 + s / 16 % 2 + s / 32 % 2
theorem pc_le (s : Nat) : pc s ≤ 6 := by unfold pc; omega
theorem pc_half (s : Nat) (h : s < 64) : pc s = s % 2 + pc (s / 2) := by unfold pc; omega
theorem pc_zero : pc 0 = 0 := rfl

/-- Those of the first n numbers that have k points and meet p. -/
def row (p : Nat → Bool) (k n : Nat) : List Int := ((List.range n).filter fun s => pc s == k && p s).map Int.ofNat
/-- The rows before row k, and the first n of row k. -/
def upto (p : Nat → Bool) (k n : Nat) : List Int := (List.range k).flatMap (fun j => row p j 64) ++ row p k n
/-- The sets that meet p, in order. -/
def ord (p : Nat → Bool) : List Int := (List.range 7).flatMap fun j => row p j 64

theorem upto_start (p : Nat → Bool) : upto p 0 0 = [] := rfl
theorem row_zero (p : Nat → Bool) (k : Nat) : row p k 0 = [] := rfl
theorem row_next (p : Nat → Bool) (k n : Nat) : row p k (n + 1) = row p k n ++ if pc n = k ∧ p n = true then [(n : Int)] else [] := by
  unfold row
  rw [List.range_succ, List.filter_append, List.map_append]
  congr 1
  by_cases h : pc n = k ∧ p n = true
  · rw [if_pos h]; simp [h.1, h.2]
  · rw [if_neg h]
    have : (pc n == k && p n) = false := by
      rw [Bool.eq_false_iff]; intro e; rw [Bool.and_eq_true, beq_iff_eq] at e; exact h e
    simp [this]
theorem upto_hit (p : Nat → Bool) (k n : Nat) (h : pc n = k) (hp : p n = true) : upto p k (n + 1) = upto p k n ++ [(n : Int)] := by
  unfold upto; rw [row_next, if_pos ⟨h, hp⟩, List.append_assoc]
theorem upto_miss (p : Nat → Bool) (k n : Nat) (h : ¬(pc n = k ∧ p n = true)) : upto p k (n + 1) = upto p k n := by
  unfold upto; rw [row_next, if_neg h, List.append_nil]
theorem upto_line (p : Nat → Bool) (k : Nat) : upto p k 64 = upto p (k + 1) 0 := by
  unfold upto; rw [row_zero, List.append_nil, List.range_succ, List.flatMap_append]; simp
theorem upto_end (p : Nat → Bool) : upto p 7 0 = ord p := by unfold upto ord; rw [row_zero, List.append_nil]
theorem row_length (p : Nat → Bool) (k n : Nat) : (row p k n).length ≤ n := by
  unfold row
  rw [List.length_map]
  exact Nat.le_trans (List.length_filter_le _ _) (by simp)
theorem rows_length (p : Nat → Bool) (k : Nat) : ((List.range k).flatMap fun j => row p j 64).length ≤ 64 * k := by
  induction k with
  | zero => simp
  | succ k ih =>
    rw [List.range_succ, List.flatMap_append, List.length_append]
    have := row_length p k 64
    simp only [List.flatMap_cons, List.flatMap_nil, List.append_nil]
    omega
theorem upto_length (p : Nat → Bool) (k n : Nat) : (upto p k n).length ≤ 64 * k + n := by
  unfold upto
  rw [List.length_append]
  have h1 := rows_length p k
  have h2 := row_length p k n
  omega
theorem ord_length (p : Nat → Bool) : (ord p).length ≤ 448 := by rw [← upto_end]; exact upto_length p 7 0
theorem mem_row (p : Nat → Bool) (k n : Nat) (x : Int) : x ∈ row p k n ↔ ∃ s : Nat, x = (s : Int) ∧ s < n ∧ pc s = k ∧ p s = true := by
  unfold row
  rw [List.mem_map]
  constructor
  · rintro ⟨s, hs, rfl⟩
    rw [List.mem_filter, List.mem_range, Bool.and_eq_true, beq_iff_eq] at hs
    exact ⟨s, rfl, hs.1, hs.2.1, hs.2.2⟩
  · rintro ⟨s, rfl, h1, h2, h3⟩
    refine ⟨s, ?_, rfl⟩
    rw [List.mem_filter, List.mem_range, Bool.and_eq_true, beq_iff_eq]
    exact ⟨h1, h2, h3⟩
theorem mem_ord (p : Nat → Bool) (x : Int) : x ∈ ord p ↔ ∃ s : Nat, x = (s : Int) ∧ s < 64 ∧ p s = true := by
  unfold ord
  rw [List.mem_flatMap]
  constructor
  · rintro ⟨k, _, hx⟩
    obtain ⟨s, rfl, h1, _, h3⟩ := (mem_row p k 64 x).1 hx
    exact ⟨s, rfl, h1, h3⟩
  · rintro ⟨s, rfl, h1, h3⟩
    exact ⟨pc s, by have := pc_le s; rw [List.mem_range]; omega, (mem_row p _ 64 _).2 ⟨s, rfl, h1, rfl, h3⟩⟩
theorem ord_at (p : Nat → Bool) (j : Nat) (h : j < (ord p).length) : ∃ s : Nat, (ord p).getD j 0 = (s : Int) ∧ s < 64 ∧ p s = true := by
  apply (mem_ord p _).1
  rw [List.getD, List.getElem?_eq_getElem h]
  exact List.getElem_mem h
theorem row_congr {p q : Nat → Bool} (h : ∀ s, s < 64 → p s = q s) (k : Nat) : row p k 64 = row q k 64 := by
  unfold row
  congr 1
  apply List.filter_congr
  intro s hs
  rw [h s (List.mem_range.1 hs)]
theorem ord_congr {p q : Nat → Bool} (h : ∀ s, s < 64 → p s = q s) : ord p = ord q := by
  unfold ord
  congr 1
  funext k
  exact row_congr h k
theorem ord_false : ord (fun _ => false) = [] := by
  unfold ord row
  simp

/-! ### lists of numbers -/

/-- Is the number from 0 to 63? -/
def okZ (x : Int) : Bool := decide (0 ≤ x ∧ x ≤ 63)
theorem okZ_iff (x : Int) : okZ x = true ↔ 0 ≤ x ∧ x ≤ 63 := by unfold okZ; exact decide_eq_true_iff
theorem okZ_nat (s : Nat) : okZ (s : Int) = true ↔ s < 64 := by rw [okZ_iff]; omega
def allOk (xs : List Int) : Bool := xs.all okZ
/-- Does the list hold the set? -/
def inZ (xs : List Int) (s : Nat) : Bool := xs.contains (s : Int)
theorem inZ_iff (xs : List Int) (s : Nat) : inZ xs s = true ↔ (s : Int) ∈ xs := by unfold inZ; exact List.contains_iff_mem
/-- OrderSets. -/
def order (xs : List Int) : List Int := if allOk xs = true then ord (inZ xs) else []
theorem order_length (xs : List Int) : (order xs).length ≤ 448 := by
  unfold order; split
  · exact ord_length _
  · simp
theorem order_mem (xs : List Int) (x : Int) (h : x ∈ order xs) : ∃ s : Nat, x = (s : Int) ∧ s < 64 ∧ (s : Int) ∈ xs := by
  unfold order at h
  split at h
  · obtain ⟨s, hx, h1, h2⟩ := (mem_ord _ _).1 h
    exact ⟨s, hx, h1, (inZ_iff xs s).1 h2⟩
  · simp at h
theorem mem_order (xs : List Int) (h : allOk xs = true) (x : Int) (hx : x ∈ xs) : x ∈ order xs := by
  unfold order
  rw [if_pos h, mem_ord]
  have hk := (okZ_iff x).1 (List.all_eq_true.1 h x hx)
  refine ⟨x.toNat, by omega, by omega, (inZ_iff xs _).2 ?_⟩
  rw [show ((x.toNat : Nat) : Int) = x by omega]; exact hx

/-- The first is a subset of the second. -/
def sub (a b : Nat) : Bool := a &&& b == a
/-- SubsetsOf. -/
def subsets (x : Int) : List Int := if okZ x = true then ord (fun t => sub t x.toNat) else []
theorem subsets_length (x : Int) : (subsets x).length ≤ 448 := by
  unfold subsets; split
  · exact ord_length _
  · simp

/-- Those of the list that nothing else of the list beats. -/
def unbeaten (beats : Nat → Nat → Bool) (all : List Int) (x : Int) : Bool := all.all fun y => !(y != x && beats x.toNat y.toNat)
def best (beats : Nat → Nat → Bool) (all : List Int) : List Int := all.filter (unbeaten beats all)
def maximal (xs : List Int) : List Int := best sub (order xs)
def minimal (xs : List Int) : List Int := best (fun s o => sub o s) (order xs)
theorem best_length (r : Nat → Nat → Bool) (all : List Int) : (best r all).length ≤ all.length := List.length_filter_le _ _
theorem maximal_length (xs : List Int) : (maximal xs).length ≤ 448 := Nat.le_trans (best_length _ _) (order_length xs)
theorem minimal_length (xs : List Int) : (minimal xs).length ≤ 448 := Nat.le_trans (best_length _ _) (order_length xs)
/-- What has been kept of the first k. -/
def kept (r : Nat → Nat → Bool) (all : List Int) (k : Nat) : List Int := (all.take k).filter (unbeaten r all)
theorem kept_start (r : Nat → Nat → Bool) (all : List Int) : kept r all 0 = [] := rfl
theorem kept_end (r : Nat → Nat → Bool) (all : List Int) : kept r all all.length = best r all := by unfold kept best; rw [List.take_length]
theorem kept_next (r : Nat → Nat → Bool) (all : List Int) (k : Nat) (h : k < all.length) : kept r all (k + 1) = kept r all k ++ if unbeaten r all (all.getD k 0) = true then [all.getD k 0] else [] := by
  unfold kept
  rw [List.take_succ_eq_append_getElem h, List.filter_append, List.getD, List.getElem?_eq_getElem h]
  congr 1
  by_cases hu : unbeaten r all all[k] = true
  · simp [hu]
  · simp [hu]
theorem kept_length (r : Nat → Nat → Bool) (all : List Int) (k : Nat) : (kept r all k).length ≤ k := by
  unfold kept
  refine Nat.le_trans (List.length_filter_le _ _) ?_
  rw [List.length_take]; omega
theorem kept_hit (r : Nat → Nat → Bool) (all : List Int) (k : Nat) (h : k < all.length) (hu : unbeaten r all (all.getD k 0) = true) : kept r all (k + 1) = kept r all k ++ [all.getD k 0] := by rw [kept_next r all k h, if_pos hu]
theorem kept_miss (r : Nat → Nat → Bool) (all : List Int) (k : Nat) (h : k < all.length) (hu : unbeaten r all (all.getD k 0) = false) : kept r all (k + 1) = kept r all k := by rw [kept_next r all k h, if_neg (by rw [hu]; simp), List.append_nil]

/-! ### points and texts -/

/-- The points below n. -/
def pts (s n : Nat) : List Int := ((List.range n).filter fun i => s / 2 ^ i % 2 == 1).map Int.ofNat
def points (x : Int) : List Int := if okZ x = true then pts x.toNat 6 else []
theorem pts_next (s n : Nat) : pts s (n + 1) = pts s n ++ if s / 2 ^ n % 2 = 1 then [(n : Int)] else [] := by
  unfold pts
  rw [List.range_succ, List.filter_append, List.map_append]
  congr 1
  by_cases h : s / 2 ^ n % 2 = 1
  · rw [if_pos h]; simp [h]
  · rw [if_neg h]; simp [h]
theorem pts_length (s n : Nat) : (pts s n).length ≤ n := by
  unfold pts; rw [List.length_map]; exact Nat.le_trans (List.length_filter_le _ _) (by simp)
theorem pts_at (s n j : Nat) (h : j < (pts s n).length) : ∃ i : Nat, (pts s n).getD j 0 = (i : Int) ∧ i < n := by
  have hm : (pts s n).getD j 0 ∈ pts s n := by
    rw [List.getD, List.getElem?_eq_getElem h]; exact List.getElem_mem h
  unfold pts at hm ⊢
  rw [List.mem_map] at hm
  obtain ⟨i, hi, he⟩ := hm
  rw [List.mem_filter, List.mem_range] at hi
  exact ⟨i, he.symm, hi.1⟩

/-- The letters of the points below n. -/
def lets (s n : Nat) : List UInt8 := ((List.range n).filter fun i => s / 2 ^ i % 2 == 1).map fun i => UInt8.ofNat (97 + i)
theorem lets_next (s n : Nat) : lets s (n + 1) = lets s n ++ if s / 2 ^ n % 2 = 1 then [UInt8.ofNat (97 + n)] else [] := by
  unfold lets
  rw [List.range_succ, List.filter_append, List.map_append]
  congr 1
  by_cases h : s / 2 ^ n % 2 = 1
  · rw [if_pos h]; simp [h]
  · rw [if_neg h]; simp [h]
theorem lets_length (s n : Nat) : (lets s n).length ≤ n := by
  unfold lets; rw [List.length_map]; exact Nat.le_trans (List.length_filter_le _ _) (by simp)
theorem lets_pts (s n : Nat) : lets s n = (pts s n).map fun i => UInt8.ofNat (97 + i.toNat) := by
  unfold lets pts; rw [List.map_map]; rfl
/-- SetText. -/
def text (x : Int) : List UInt8 := if okZ x = true then (if x = 0 then [45] else lets x.toNat 6) else []
theorem text_length (x : Int) : (text x).length ≤ 6 := by
  unfold text
  split
  · split
    · simp
    · exact lets_length _ _
  · simp

/-- What the letters of a text add up to: impl's way. -/
def gather (l : List UInt8) : Nat := l.foldl (fun s c => if 97 ≤ c.toNat ∧ c.toNat < 103 then s ||| 2 ^ (c.toNat - 97) else s) 0
theorem gather_snoc (l : List UInt8) (c : UInt8) : gather (l ++ [c]) = if 97 ≤ c.toNat ∧ c.toNat < 103 then gather l ||| 2 ^ (c.toNat - 97) else gather l := by
  unfold gather; rw [List.foldl_append]; rfl
theorem or_lt (a b : Nat) (ha : a < 64) (hb : b < 64) : a ||| b < 64 := Nat.or_lt_two_pow (n := 6) ha hb
theorem pow_lt (i : Nat) (h : i < 6) : 2 ^ i < 64 := Nat.pow_lt_pow_right (by decide) h
theorem gather_lt_from (l : List UInt8) : ∀ a : Nat, a < 64 → l.foldl (fun s c => if 97 ≤ c.toNat ∧ c.toNat < 103 then s ||| 2 ^ (c.toNat - 97) else s) a < 64 := by
  induction l with
  | nil => intro a h; exact h
  | cons c l ih =>
    intro a h
    rw [List.foldl_cons]
    apply ih
    split
    · exact or_lt _ _ h (pow_lt _ (by omega))
    · exact h
theorem gather_lt (l : List UInt8) : gather l < 64 := gather_lt_from l 0 (by decide)
/-- ParseSet, impl's way. -/
def parse (l : List UInt8) : Option Nat := if text (gather l : Int) = l then some (gather l) else none

/-- The spec's way: letters rise. -/
def scan : List UInt8 → Nat → Option Nat
  | [], s => some s
  | c :: l, s => if 97 ≤ c.toNat ∧ c.toNat < 103 ∧ s < 2 ^ (c.toNat - 97) then scan l (s + 2 ^ (c.toNat - 97)) else none
def parseS (l : List UInt8) : Option Nat := if l = [] then none else if l = [45] then some 0 else scan l 0

theorem lets_step : ∀ s : Fin 64, ∀ i : Fin 6, s.val < 2 ^ i.val → lets (s.val + 2 ^ i.val) 6 = lets s.val 6 ++ [UInt8.ofNat (97 + i.val)] := by decide +kernel
theorem scan_lets (l : List UInt8) : ∀ (s r : Nat), s < 64 → scan l s = some r → r < 64 ∧ lets r 6 = lets s 6 ++ l := by
  induction l with
  | nil =>
    intro s r hs h
    have : s = r := by simpa [scan] using h
    subst this
    exact ⟨hs, by simp⟩
  | cons c l ih =>
    intro s r hs h
    unfold scan at h
    split at h
    · rename_i hc
      obtain ⟨h1, h2, h3⟩ := hc
      have hp : 2 ^ (c.toNat - 97) ≤ 32 := Nat.pow_le_pow_right (by decide) (show c.toNat - 97 ≤ 5 by omega)
      have hi := ih _ r (by omega) h
      have hl := lets_step ⟨s, hs⟩ ⟨c.toNat - 97, by omega⟩ h3
      have ec : UInt8.ofNat (97 + (c.toNat - 97)) = c := by
        rw [show 97 + (c.toNat - 97) = c.toNat by omega]; exact UInt8.ofNat_toNat
      refine ⟨hi.1, ?_⟩
      rw [hi.2]
      show lets (s + 2 ^ (c.toNat - 97)) 6 ++ l = _
      rw [show lets (s + 2 ^ (c.toNat - 97)) 6 = lets s 6 ++ [UInt8.ofNat (97 + (c.toNat - 97))] from hl, ec]
      simp
    · simp at h
theorem parseS_text : ∀ s : Fin 64, parseS (text (s.val : Int)) = some s.val := by decide +kernel
theorem gather_text : ∀ s : Fin 64, gather (text (s.val : Int)) = s.val := by decide +kernel
theorem text_nat (s : Nat) (h : s < 64) : text (s : Int) = if s = 0 then [45] else lets s 6 := by
  unfold text
  rw [if_pos ((okZ_nat s).2 h)]
  by_cases h0 : s = 0
  · subst h0; rfl
  · rw [if_neg h0, if_neg (by omega)]; rfl
theorem parseS_sound (l : List UInt8) (r : Nat) (h : parseS l = some r) : r < 64 ∧ text (r : Int) = l := by
  unfold parseS at h
  split at h
  · simp at h
  · rename_i hn
    split at h
    · rename_i hd
      have : 0 = r := by simpa using h
      subst this
      exact ⟨by decide, by rw [hd]; rfl⟩
    · obtain ⟨h1, h2⟩ := scan_lets l 0 r (by decide) h
      refine ⟨h1, ?_⟩
      rw [text_nat r h1]
      rw [show lets 0 6 = [] by decide, List.nil_append] at h2
      by_cases h0 : r = 0
      · subst h0
        exact absurd (h2.symm.trans (by decide)) hn
      · rw [if_neg h0]; exact h2
theorem parse_same (l : List UInt8) : parse l = parseS l := by
  unfold parse
  by_cases h : text (gather l : Int) = l
  · rw [if_pos h]
    have := parseS_text ⟨gather l, gather_lt l⟩
    simp only at this
    rw [h] at this
    exact this.symm
  · rw [if_neg h]
    cases hp : parseS l with
    | none => rfl
    | some r =>
      obtain ⟨h1, h2⟩ := parseS_sound l r hp
      have := gather_text ⟨r, h1⟩
      simp only at this
      rw [h2] at this
      rw [this] at h
      exact absurd h2 h

/-! ### one subset, one size -/
theorem subsets_count : ∀ s : Fin 64, (subsets (s.val : Int)).length = 2 ^ pc s.val := by decide +kernel

end Go.Proofs.Ytmonaiojejbhkaa.Sets
