/-
  TEXTS of one claim, put together: Sets, Mem, Ints, WSet1.
-/
import Derived.Lib.Join
import Derived.WalkSmall
import Derived.Maps.AppendAt
import Derived.Deep.AppendLies
import Derived.Test.YtenpcjmhlnalcaaGreatProg
import Derived.WalkKit
import Derived.WalkLawsBesides
import Derived.Outline
import Derived.Lib.Hide
import Derived.Deep.QuietTactic
import Derived.BigQuiet
import Derived.BigRegion
import Derived.OwnWalk
import Derived.Laws.OwnMore
import Derived.IntWalk
import Derived.Laws.Bits64
/-! SETS OF POINTS, of no program: numbers below 64; lists in order; texts. -/

namespace Go.Proofs.YtenpcjmhlnalcaaGreat.Sets

/-- How many points. -/
def pc (s : Nat) : Nat := s % 2 + s / 2 % 2 + s / 4 % 2 + s / 8 % 2 + s / 16 % 2 + s / 32 % 2
theorem pc_le (s : Nat) : pc s ≤ 6 := by unfold pc; omega
theorem pc_half (s : Nat) (h : s < 64) : pc s = s % 2 + pc (s / 2) := by unfold pc; omega
theorem pc_zero : pc 0 = 0 := rfl

/-- Those of the first n numbers that have k points and meet p. -/
def row (p : Nat → Bool) (k n : Nat) : List Int := ((List.range n).filter fun s => pc s == k && p s).map Int.ofNat
/-- The rows before row k, and the first n of row k. -/
def upto (p : Nat → Bool) (k n : Nat) : List Int := (List.range k).flatMap (fun j => row p j 64) ++ row p k n
/-- The sets that meet p, in order. -/
def ord (p : Nat → Bool) : List Int := (List.range 7).flatMap fun j => row p j 64

theorem upto_start (p : Nat → Bool) : upto p 0 0 = [] := rfl
theorem row_zero (p : Nat → Bool) (k : Nat) : row p k 0 = [] := rfl
theorem row_next (p : Nat → Bool) (k n : Nat) : row p k (n + 1) = row p k n ++ if pc n = k ∧ p n = true then [(n : Int)] else [] := by
  unfold row
  rw [List.range_succ, List.filter_append, List.map_append]
  congr 1
  by_cases h : pc n = k ∧ p n = true
  · rw [if_pos h]; simp [h.1, h.2]
  · rw [if_neg h]
    have : (pc n == k && p n) = false := by
      rw [Bool.eq_false_iff]; intro e; rw [Bool.and_eq_true, beq_iff_eq] at e; exact h e
    simp [this]
theorem upto_hit (p : Nat → Bool) (k n : Nat) (h : pc n = k) (hp : p n = true) : upto p k (n + 1) = upto p k n ++ [(n : Int)] := by
  unfold upto; rw [row_next, if_pos ⟨h, hp⟩, List.append_assoc]
theorem upto_miss (p : Nat → Bool) (k n : Nat) (h : ¬(pc n = k ∧ p n = true)) : upto p k (n + 1) = upto p k n := by
  unfold upto; rw [row_next, if_neg h, List.append_nil]
theorem upto_line (p : Nat → Bool) (k : Nat) : upto p k 64 = upto p (k + 1) 0 := by
  unfold upto; rw [row_zero, List.append_nil, List.range_succ, List.flatMap_append]; simp
theorem upto_end (p : Nat → Bool) : upto p 7 0 = ord p := by unfold upto ord; rw [row_zero, List.append_nil]
theorem row_length (p : Nat → Bool) (k n : Nat) : (row p k n).length ≤ n := by
  unfold row
  rw [List.length_map]
  exact Nat.le_trans (List.length_filter_le _ _) (by simp)
theorem rows_length (p : Nat → Bool) (k : Nat) : ((List.range k).flatMap fun j => row p j 64).length ≤ 64 * k := by
  induction k with
  | zero => simp
  | succ k ih =>
    rw [List.range_succ, List.flatMap_append, List.length_append]
    have := row_length p k 64
    simp only [List.flatMap_cons, List.flatMap_nil, List.append_nil]
    omega
theorem upto_length (p : Nat → Bool) (k n : Nat) : (upto p k n).length ≤ 64 * k + n := by
  unfold upto
  rw [List.length_append]
  have h1 := rows_length p k
  have h2 := row_length p k n
  omega
theorem ord_length (p : Nat → Bool) : (ord p).length ≤ 448 := by rw [← upto_end]; exact upto_length p 7 0
theorem mem_row (p : Nat → Bool) (k n : Nat) (x : Int) : x ∈ row p k n ↔ ∃ s : Nat, x = (s : Int) ∧ s < n ∧ pc s = k ∧ p s = true := by
  unfold row
  rw [List.mem_map]
  constructor
  · rintro ⟨s, hs, rfl⟩
    rw [List.mem_filter, List.mem_range, Bool.and_eq_true, beq_iff_eq] at hs
    exact ⟨s, rfl, hs.1, hs.2.1, hs.2.2⟩
  · rintro ⟨s, rfl, h1, h2, h3⟩
    refine ⟨s, ?_, rfl⟩
    rw [List.mem_filter, List.mem_range, Bool.and_eq_true, beq_iff_eq]
    exact ⟨h1, h2, h3⟩
theorem mem_ord (p : Nat → Bool) (x : Int) : x ∈ ord p ↔ ∃ s : Nat, x = (s : Int) ∧ s < 64 ∧ p s = true := by
  unfold ord
  rw [List.mem_flatMap]
  constructor
  · rintro ⟨k, _, hx⟩
    obtain ⟨s, rfl, h1, _, h3⟩ := (mem_row p k 64 x).1 hx
    exact ⟨s, rfl, h1, h3⟩
  · rintro ⟨s, rfl, h1, h3⟩
    exact ⟨pc s, by have := pc_le s; rw [List.mem_range]; omega, (mem_row p _ 64 _).2 ⟨s, rfl, h1, rfl, h3⟩⟩
theorem ord_at (p : Nat → Bool) (j : Nat) (h : j < (ord p).length) : ∃ s : Nat, (ord p).getD j 0 = (s : Int) ∧ s < 64 ∧ p s = true := by
  apply (mem_ord p _).1
  rw [List.getD, List.getElem?_eq_getElem h]
  exact List.getElem_mem h
theorem row_congr {p q : Nat → Bool} (h : ∀ s, s < 64 → p s = q s) (k : Nat) : row p k 64 = row q k 64 := by
  unfold row
  congr 1
  apply List.filter_congr
  intro s hs
  rw [h s (List.mem_range.1 hs)]
theorem ord_congr {p q : Nat → Bool} (h : ∀ s, s < 64 → p s = q s) : ord p = ord q := by
  unfold ord
  congr 1
  funext k
  exact row_congr h k
theorem ord_false : ord (fun _ => false) = [] := by
  unfold ord row
  simp

/-! ### lists of numbers -/

/-- Is the number from 0 to 63? -/
def okZ (x : Int) : Bool := decide (0 ≤ x ∧ x ≤ 63)
theorem okZ_iff (x : Int) : okZ x = true ↔ 0 ≤ x ∧ x ≤ 63 := by unfold okZ; exact decide_eq_true_iff
theorem okZ_nat (s : Nat) : okZ (s : Int) = true ↔ s < 64 := by rw [okZ_iff]; omega
def allOk (xs : List Int) : Bool := xs.all okZ
/-- Does the list hold the set? -/
def inZ (xs : List Int) (s : Nat) : Bool := xs.contains (s : Int)
theorem inZ_iff (xs : List Int) (s : Nat) : inZ xs s = true ↔ (s : Int) ∈ xs := by unfold inZ; exact List.contains_iff_mem
/-- OrderSets. -/
def order (xs : List Int) : List Int := if allOk xs = true then ord (inZ xs) else []
theorem order_length (xs : List Int) : (order xs).length ≤ 448 := by
  unfold order; split
  · exact ord_length _
  · simp
theorem order_mem (xs : List Int) (x : Int) (h : x ∈ order xs) : ∃ s : Nat, x = (s : Int) ∧ s < 64 ∧ (s : Int) ∈ xs := by
  unfold order at h
  split at h
  · obtain ⟨s, hx, h1, h2⟩ := (mem_ord _ _).1 h
    exact ⟨s, hx, h1, (inZ_iff xs s).1 h2⟩
  · simp at h
theorem mem_order (xs : List Int) (h : allOk xs = true) (x : Int) (hx : x ∈ xs) : x ∈ order xs := by
  unfold order
  rw [if_pos h, mem_ord]
  have hk := (okZ_iff x).1 (List.all_eq_true.1 h x hx)
  refine ⟨x.toNat, by omega, by omega, (inZ_iff xs _).2 ?_⟩
  rw [show ((x.toNat : Nat) : Int) = x by omega]; exact hx

/-- The first is a subset of the second. -/
def sub (a b : Nat) : Bool := a &&& b == a
/-- SubsetsOf. -/
def subsets (x : Int) : List Int := if okZ x = true then ord (fun t => sub t x.toNat) else []
theorem subsets_length (x : Int) : (subsets x).length ≤ 448 := by
  unfold subsets; split
  · exact ord_length _
  · simp

/-- Those of the list that nothing else of the list beats. -/
def unbeaten (beats : Nat → Nat → Bool) (all : List Int) (x : Int) : Bool := all.all fun y => !(y != x && beats x.toNat y.toNat)
def best (beats : Nat → Nat → Bool) (all : List Int) : List Int := all.filter (unbeaten beats all)
def maximal (xs : List Int) : List Int := best sub (order xs)
def minimal (xs : List Int) : List Int := best (fun s o => sub o s) (order xs)
theorem best_length (r : Nat → Nat → Bool) (all : List Int) : (best r all).length ≤ all.length := List.length_filter_le _ _
theorem maximal_length (xs : List Int) : (maximal xs).length ≤ 448 := Nat.le_trans (best_length _ _) (order_length xs)
theorem minimal_length (xs : List Int) : (minimal xs).length ≤ 448 := Nat.le_trans (best_length _ _) (order_length xs)
/-- What has been kept of the first k. -/
def kept (r : Nat → Nat → Bool) (all : List Int) (k : Nat) : List Int := (all.take k).filter (unbeaten r all)
theorem kept_start (r : Nat → Nat → Bool) (all : List Int) : kept r all 0 = [] := rfl
theorem kept_end (r : Nat → Nat → Bool) (all : List Int) : kept r all all.length = best r all := by unfold kept best; rw [List.take_length]
theorem kept_next (r : Nat → Nat → Bool) (all : List Int) (k : Nat) (h : k < all.length) : kept r all (k + 1) = kept r all k ++ if unbeaten r all (all.getD k 0) = true then [all.getD k 0] else [] := by
  unfold kept
  rw [List.take_succ_eq_append_getElem h, List.filter_append, List.getD, List.getElem?_eq_getElem h]
  congr 1
  by_cases hu : unbeaten r all all[k] = true
  · simp [hu]
  · simp [hu]
theorem kept_length (r : Nat → Nat → Bool) (all : List Int) (k : Nat) : (kept r all k).length ≤ k := by
  unfold kept
  refine Nat.le_trans (List.length_filter_le _ _) ?_
  rw [List.length_take]; omega
theorem kept_hit (r : Nat → Nat → Bool) (all : List Int) (k : Nat) (h : k < all.length) (hu : unbeaten r all (all.getD k 0) = true) : kept r all (k + 1) = kept r all k ++ [all.getD k 0] := by rw [kept_next r all k h, if_pos hu]
theorem kept_miss (r : Nat → Nat → Bool) (all : List Int) (k : Nat) (h : k < all.length) (hu : unbeaten r all (all.getD k 0) = false) : kept r all (k + 1) = kept r all k := by rw [kept_next r all k h, if_neg (by rw [hu]; simp), List.append_nil]

/-! ### points and texts -/

/-- The points below n. -/
def pts (s n : Nat) : List Int := ((List.range n).filter fun i => s / 2 ^ i % 2 == 1).map Int.ofNat
def points (x : Int) : List Int := if okZ x = true then pts x.toNat 6 else []
theorem pts_next (s n : Nat) : pts s (n + 1) = pts s n ++ if s / 2 ^ n % 2 = 1 then [(n : Int)] else [] := by
  unfold pts
  rw [List.range_succ, List.filter_append, List.map_append]
  congr 1
  by_cases h : s / 2 ^ n % 2 = 1
  · rw [if_pos h]; simp [h]
  · rw [if_neg h]; simp [h]
theorem pts_length (s n : Nat) : (pts s n).length ≤ n := by
  unfold pts; rw [List.length_map]; exact Nat.le_trans (List.length_filter_le _ _) (by simp)
theorem pts_at (s n j : Nat) (h : j < (pts s n).length) : ∃ i : Nat, (pts s n).getD j 0 = (i : Int) ∧ i < n := by
  have hm : (pts s n).getD j 0 ∈ pts s n := by
    rw [List.getD, List.getElem?_eq_getElem h]; exact List.getElem_mem h
  unfold pts at hm ⊢
  rw [List.mem_map] at hm
  obtain ⟨i, hi, he⟩ := hm
  rw [List.mem_filter, List.mem_range] at hi
  exact ⟨i, he.symm, hi.1⟩

/-- The letters of the points below n. -/
def lets (s n : Nat) : List UInt8 := ((List.range n).filter fun i => s / 2 ^ i % 2 == 1).map fun i => UInt8.ofNat (97 + i)
theorem lets_next (s n : Nat) : lets s (n + 1) = lets s n ++ if s / 2 ^ n % 2 = 1 then [UInt8.ofNat (97 + n)] else [] := by
  unfold lets
  rw [List.range_succ, List.filter_append, List.map_append]
  congr 1
  by_cases h : s / 2 ^ n % 2 = 1
  · rw [if_pos h]; simp [h]
  · rw [if_neg h]; simp [h]
theorem lets_length (s n : Nat) : (lets s n).length ≤ n := by
  unfold lets; rw [List.length_map]; exact Nat.le_trans (List.length_filter_le _ _) (by simp)
theorem lets_pts (s n : Nat) : lets s n = (pts s n).map fun i => UInt8.ofNat (97 + i.toNat) := by
  unfold lets pts; rw [List.map_map]; rfl
/-- SetText. -/
def text (x : Int) : List UInt8 := if okZ x = true then (if x = 0 then [45] else lets x.toNat 6) else []
theorem text_length (x : Int) : (text x).length ≤ 6 := by
  unfold text
  split
  · split
    · simp
    · exact lets_length _ _
  · simp

/-- What the letters of a text add up to: impl's way. -/
def gather (l : List UInt8) : Nat := l.foldl (fun s c => if 97 ≤ c.toNat ∧ c.toNat < 103 then s ||| 2 ^ (c.toNat - 97) else s) 0
theorem gather_snoc (l : List UInt8) (c : UInt8) : gather (l ++ [c]) = if 97 ≤ c.toNat ∧ c.toNat < 103 then gather l ||| 2 ^ (c.toNat - 97) else gather l := by
  unfold gather; rw [List.foldl_append]; rfl
theorem or_lt (a b : Nat) (ha : a < 64) (hb : b < 64) : a ||| b < 64 := Nat.or_lt_two_pow (n := 6) ha hb
theorem pow_lt (i : Nat) (h : i < 6) : 2 ^ i < 64 := Nat.pow_lt_pow_right (by decide) h
theorem gather_lt_from (l : List UInt8) : ∀ a : Nat, a < 64 → l.foldl (fun s c => if 97 ≤ c.toNat ∧ c.toNat < 103 then s ||| 2 ^ (c.toNat - 97) else s) a < 64 := by
  induction l with
  | nil => intro a h; exact h
  | cons c l ih =>
    intro a h
    rw [List.foldl_cons]
    apply ih
    split
    · exact or_lt _ _ h (pow_lt _ (by omega))
    · exact h
theorem gather_lt (l : List UInt8) : gather l < 64 := gather_lt_from l 0 (by decide)
/-- ParseSet, impl's way. -/
def parse (l : List UInt8) : Option Nat := if text (gather l : Int) = l then some (gather l) else none

/-- The spec's way: letters rise. -/
def scan : List UInt8 → Nat → Option Nat
  | [], s => some s
  | c :: l, s => if 97 ≤ c.toNat ∧ c.toNat < 103 ∧ s < 2 ^ (c.toNat - 97) then scan l (s + 2 ^ (c.toNat - 97)) else none
def parseS (l : List UInt8) : Option Nat := if l = [] then none else if l = [45] then some 0 else scan l 0

theorem lets_step : ∀ s : Fin 64, ∀ i : Fin 6, s.val < 2 ^ i.val → lets (s.val + 2 ^ i.val) 6 = lets s.val 6 ++ [UInt8.ofNat (97 + i.val)] := by decide +kernel
theorem scan_lets (l : List UInt8) : ∀ (s r : Nat), s < 64 → scan l s = some r → r < 64 ∧ lets r 6 = lets s 6 ++ l := by
  induction l with
  | nil =>
    intro s r hs h
    have : s = r := by simpa [scan] using h
    subst this
    exact ⟨hs, by simp⟩
  | cons c l ih =>
    intro s r hs h
    unfold scan at h
    split at h
    · rename_i hc
      obtain ⟨h1, h2, h3⟩ := hc
      have hp : 2 ^ (c.toNat - 97) ≤ 32 := Nat.pow_le_pow_right (by decide) (show c.toNat - 97 ≤ 5 by omega)
      have hi := ih _ r (by omega) h
      have hl := lets_step ⟨s, hs⟩ ⟨c.toNat - 97, by omega⟩ h3
      have ec : UInt8.ofNat (97 + (c.toNat - 97)) = c := by
        rw [show 97 + (c.toNat - 97) = c.toNat by omega]; exact UInt8.ofNat_toNat
      refine ⟨hi.1, ?_⟩
      rw [hi.2]
      show lets (s + 2 ^ (c.toNat - 97)) 6 ++ l = _
      rw [show lets (s + 2 ^ (c.toNat - 97)) 6 = lets s 6 ++ [UInt8.ofNat (97 + (c.toNat - 97))] from hl, ec]
      simp
    · simp at h
theorem parseS_text : ∀ s : Fin 64, parseS (text (s.val : Int)) = some s.val := by decide +kernel
theorem gather_text : ∀ s : Fin 64, gather (text (s.val : Int)) = s.val := by decide +kernel
theorem text_nat (s : Nat) (h : s < 64) : text (s : Int) = if s = 0 then [45] else lets s 6 := by
  unfold text
  rw [if_pos ((okZ_nat s).2 h)]
  by_cases h0 : s = 0
  · subst h0; rfl
  · rw [if_neg h0, if_neg (by omega)]; rfl
theorem parseS_sound (l : List UInt8) (r : Nat) (h : parseS l = some r) : r < 64 ∧ text (r : Int) = l := by
  unfold parseS at h
  split at h
  · simp at h
  · rename_i hn
    split at h
    · rename_i hd
      have : 0 = r := by simpa using h
      subst this
      exact ⟨by decide, by rw [hd]; rfl⟩
    · obtain ⟨h1, h2⟩ := scan_lets l 0 r (by decide) h
      refine ⟨h1, ?_⟩
      rw [text_nat r h1]
      rw [show lets 0 6 = [] by decide, List.nil_append] at h2
      by_cases h0 : r = 0
      · subst h0
        exact absurd (h2.symm.trans (by decide)) hn
      · rw [if_neg h0]; exact h2
theorem parse_same (l : List UInt8) : parse l = parseS l := by
  unfold parse
  by_cases h : text (gather l : Int) = l
  · rw [if_pos h]
    have := parseS_text ⟨gather l, gather_lt l⟩
    simp only at this
    rw [h] at this
    exact this.symm
  · rw [if_neg h]
    cases hp : parseS l with
    | none => rfl
    | some r =>
      obtain ⟨h1, h2⟩ := parseS_sound l r hp
      have := gather_text ⟨r, h1⟩
      simp only at this
      rw [h2] at this
      rw [this] at h
      exact absurd h2 h

/-! ### one subset, one size -/
theorem subsets_count : ∀ s : Fin 64, (subsets (s.val : Int)).length = 2 ^ pc s.val := by decide +kernel

end Go.Proofs.YtenpcjmhlnalcaaGreat.Sets

/-! MEMORY, of no program: what a call keeps that writes into one row and makes new blocks. -/

namespace Go.Proofs.YtenpcjmhlnalcaaGreat.Mem
open Go.RowKit

theorem but_refl (w : World) (b : Option Nat) : w.grownBy w b := ⟨rfl, rfl, rfl, Nat.le_refl _, fun _ _ _ => rfl⟩
theorem but_of_below {w w' : World} (h : Below w.heap.size w w') (b : Option Nat) : w.grownBy w' b := ⟨h.os, h.tape, h.output, h.size, fun k hk _ => h.block k hk⟩
theorem but_setCell (w : World) (b o : Nat) (v : Value) : w.grownBy (w.setCell ⟨b, o, none⟩ v) (some b) := by
  refine ⟨rfl, rfl, rfl, by simp [World.setCell], fun k _ hk => ?_⟩
  simp only [World.setCell, Array.getElem?_modify]
  rw [if_neg (fun e => hk (by rw [← e]))]
theorem below_of_but {B : Nat} {w w' : World} {b : Nat} (h : w.grownBy w' (some b)) (h1 : B ≤ b) (h2 : B ≤ w.heap.size) : Below B w w' :=
  ⟨h.os, h.tape, h.output, h.size, fun k hk => h.block k (by omega) (by simp; omega)⟩
theorem below_of_none {w w' : World} (h : w.grownBy w' none) : Below w.heap.size w w' :=
  ⟨h.os, h.tape, h.output, h.size, fun k hk => h.block k hk (by simp)⟩
theorem below_drewN (w : World) (n : Nat) : Below w.heap.size w (w.drewN n) := ⟨rfl, rfl, rfl, Nat.le_refl _, fun _ _ => rfl⟩

theorem cell_new (w : World) (cs : List Value) (t : TypeId) (j : Nat) (u : Value) (h : cs[j]? = some u) : (w.alloc (.cells cs.toArray t)).cell? ((⟨w.heap.size, 0, none⟩ : Addr).add j) = some u := by
  have e : ((⟨w.heap.size, 0, none⟩ : Addr).add j) = ⟨w.heap.size, j, none⟩ := by
    unfold Addr.add
    split
    · subst j; rfl
    · simp
  rw [e, World.cell?_alloc_new w cs.toArray t j]
  simpa using h

end Go.Proofs.YtenpcjmhlnalcaaGreat.Mem

/-! WALKS: slices of numbers: what they read as; the laws' own equality, copies, marks, what is held. -/

namespace Go.Proofs.YtenpcjmhlnalcaaGreat
open Go.RowKit

/-- A slice's address and length read as the numbers xs (whatever the address where there are none). -/
def Ints (w : World) (a : Option Addr) (xs : List Int) : Prop := ∀ j, j < xs.length → ∃ b o, a = some ⟨b, o, none⟩ ∧ w.cell? ⟨b, o + j, none⟩ = some (.int .i64 (xs.getD j 0))

/-- The same in block g alone, from its head on, not frozen. -/
def IntsAt (w : World) (g : Nat) (a : Option Addr) (xs : List Int) : Prop := ∀ j, j < xs.length → a = some ⟨g, 0, none⟩ ∧ g < w.heap.size ∧ w.cell? ⟨g, j, none⟩ = some (.int .i64 (xs.getD j 0)) ∧ w.frozen? ⟨g, j, none⟩ = false

/-- A slice value that reads as xs and lies in a block of its own from base on. -/
def OwnInts (w : World) (base : Nat) (v : Value) (xs : List Int) : Prop := w.ownsRow base 3 1 v xs.length (xs.map (Value.int .i64))

theorem Ints.keeps {w w' : World} {a : Option Addr} {xs : List Int} (h : Ints w a xs) (hb : Below w.heap.size w w') : Ints w' a xs := fun j hj => by
  obtain ⟨b, o, e, hc⟩ := h j hj
  exact ⟨b, o, e, by rw [hb.cell (p := ⟨b, o + j, none⟩) (World.block_lt_of_cell? w _ hc)]; exact hc⟩
theorem Ints.drewN {w : World} {a : Option Addr} {xs : List Int} (h : Ints w a xs) (n : Nat) : Ints (w.drewN n) a xs := h
theorem IntsAt.ints {w : World} {g : Nat} {a : Option Addr} {xs : List Int} (h : IntsAt w g a xs) : Ints w a xs := fun j hj => by
  obtain ⟨e, _, hc, _⟩ := h j hj
  exact ⟨g, 0, e, by rw [Nat.zero_add]; exact hc⟩
theorem IntsAt.keeps {w w' : World} {g : Nat} {a : Option Addr} {xs : List Int} (h : IntsAt w g a xs) (hb : Below w.heap.size w w') : IntsAt w' g a xs := fun j hj => by
  obtain ⟨e, hl, hc, hf⟩ := h j hj
  have := hb.size
  exact ⟨e, by omega, by rw [hb.cell (p := ⟨g, j, none⟩) hl]; exact hc, by rw [hb.frozen (p := ⟨g, j, none⟩) hl]; exact hf⟩
theorem IntsAt.drewN {w : World} {g : Nat} {a : Option Addr} {xs : List Int} (h : IntsAt w g a xs) (n : Nat) : IntsAt (w.drewN n) g a xs := h
/-- What another block's writes leave. -/
theorem IntsAt.far {w w' : World} {g g' : Nat} {a : Option Addr} {xs : List Int} (h : IntsAt w g a xs) (hg : w.grownBy w' (some g')) (hne : g ≠ g') : IntsAt w' g a xs := fun j hj => by
  obtain ⟨e, hl, hc, hf⟩ := h j hj
  have hb := hg.block g hl (by simpa using hne)
  have := hg.size
  exact ⟨e, by omega, by rw [World.cell?_of_block (w := w) (w' := w') (a := ⟨g, j, none⟩) hb]; exact hc, by rw [World.frozen?_of_block (w := w) (w' := w') (a := ⟨g, j, none⟩) hb]; exact hf⟩
/-- What a younger block's writes leave. -/
theorem IntsAt.farl {w0 w w' : World} {g g' : Nat} {a : Option Addr} {xs0 xs : List Int} (h0 : IntsAt w0 g a xs0) (h : IntsAt w g a xs) (hg : w.grownBy w' (some g')) (hle : w0.heap.size ≤ g') (hlen : xs.length ≤ xs0.length) : IntsAt w' g a xs := fun j hj => by
  have hl := (h0 j (by omega)).2.1
  exact IntsAt.far h hg (by omega) j hj
theorem IntsAt.fars {w0 w w' : World} {g g' : Nat} {a : Option Addr} {xs : List Int} (h0 : IntsAt w0 g a xs) (h : IntsAt w g a xs) (hg : w.grownBy w' (some g')) (hle : w0.heap.size ≤ g') : IntsAt w' g a xs :=
  IntsAt.farl h0 h hg hle (Nat.le_refl _)
theorem Ints.nil (w : World) (a : Option Addr) : Ints w a [] := fun _ hj => absurd hj (Nat.not_lt_zero _)

theorem info_int : (Tryz.prog.info? 3).map (fun i => (i.zero, i.size, i.bytes)) = some (some (.int .i64 0), 1, 8) := by kernel_rfl

theorem ints_cell (xs : List Int) (j : Nat) (h : j < xs.length) : (xs.map (Value.int .i64))[j]? = some (.int .i64 (xs.getD j 0)) := by
  rw [List.getElem?_map, List.getD, List.getElem?_eq_getElem h]; rfl

/-- Out of what is owned: the slice, and its block. -/
theorem OwnInts.at {w : World} {base : Nat} {v : Value} {xs : List Int} (h : OwnInts w base v xs) : ∃ a c g, v = .slice a xs.length c ∧ base ≤ g ∧ IntsAt w g a xs := by
  unfold OwnInts at h
  rcases h.2 with ⟨hv, h0⟩ | ⟨g, cap, cur, hv, _⟩
  · exact ⟨none, 0, base, by rw [hv, h0], Nat.le_refl _, fun j hj => by omega⟩
  · subst hv
    obtain ⟨h1, h2⟩ := World.ownsRow.lt h g rfl
    refine ⟨some ⟨g, 0, none⟩, cap, g, rfl, h1, fun j hj => ⟨rfl, h2, ?_, World.ownsRow.frozenAt h j⟩⟩
    rw [World.ownsRow.cellAt h j (by omega), ints_cell xs j hj]
theorem OwnInts.nil (w : World) (base : Nat) : OwnInts w base (.slice none 0 0) [] := World.ownsRow_nil _ _ _ _
theorem OwnInts.lit (w : World) (base : Nat) (xs : List Int) (h : base ≤ w.heap.size) (hl : xs.length ≤ 9223372036854775807) : OwnInts (w.alloc (.cells (xs.map (Value.int .i64)).toArray 3)) base (.slice (some ⟨w.heap.size, 0, none⟩) xs.length xs.length) xs := by
  unfold OwnInts
  have h1 := World.ownsRow_lit (base := base) (e := 3) (size := 1) w (xs.map (Value.int .i64)).toArray xs.length h (by unfold maxLen; omega) (by simp)
  simpa using h1
theorem OwnInts.next {w : World} {base : Nat} {v : Value} {xs : List Int} {x : Int} (h : w.ownsRow base 3 1 v (xs.length + 1) (xs.map (Value.int .i64) ++ [.int .i64 x])) : OwnInts w base v (xs ++ [x]) := by
  unfold OwnInts
  rw [List.length_append, List.map_append]
  exact h
theorem OwnInts.alloc {w : World} {base : Nat} {v : Value} {xs : List Int} (h : OwnInts w base v xs) (o : Obj) : OwnInts (w.alloc o) base v xs := World.ownsRow.alloc h o
theorem OwnInts.drewN {w : World} {base : Nat} {v : Value} {xs : List Int} (h : OwnInts w base v xs) (n : Nat) : OwnInts (w.drewN n) base v xs := h
theorem OwnInts.lower {w : World} {base b : Nat} {v : Value} {xs : List Int} (h : OwnInts w base v xs) (hb : b ≤ base) : OwnInts w b v xs := by
  unfold OwnInts at *
  refine ⟨h.1, ?_⟩
  rcases h.2 with h0 | ⟨g, cap, cur, hv, h1, hr⟩
  · exact .inl h0
  · exact .inr ⟨g, cap, cur, hv, by omega, hr⟩
theorem OwnInts.keeps {w w' : World} {base : Nat} {v : Value} {xs : List Int} (h : OwnInts w base v xs) (hb : Below w.heap.size w w') : OwnInts w' base v xs := by
  unfold OwnInts at *
  refine ⟨h.1, ?_⟩
  rcases h.2 with h0 | ⟨g, cap, cur, hv, h1, hh, hr⟩
  · exact .inl h0
  · refine .inr ⟨g, cap, cur, hv, h1, ?_, hr⟩
    have hlt : g < w.heap.size := by
      rcases Nat.lt_or_ge g w.heap.size with hl | hl
      · exact hl
      · rw [Array.getElem?_eq_none hl] at hh; cases hh
    rw [hb.block g hlt]; exact hh

set_option maxRecDepth 100000 in
set_option maxHeartbeats 1000000 in
theorem sameInt_any (a1 a2 : Option Addr) (c1 c2 : Nat) (xs : List Int) (hlen : xs.length ≤ 1099511627776) (w : World) (h1 : Ints w a1 xs) (h2 : Ints w a2 xs) :
    Calls Tryz.prog 10 #[.slice a1 xs.length c1, .slice a2 xs.length c2] w fun e w' => e = .returned (.bool true) ∧ Below w.heap.size w w' := by
  have H1 := Lib.hid h1
  have H2 := Lib.hid h2
  clear h1 h2
  go_enter Tryz.func10, Tryz.ntmps10
  go_wp2
  go_loopw [5] (fun i wr => ∃ k n : Nat, k ≤ xs.length ∧ i = .int .i64 k ∧ wr = w.drewN n) (fun i _ => xs.length - (intOf i).toNat)
  case atStart => exact ⟨0, 0, Nat.zero_le _, rfl, rfl⟩
  case round =>
    obtain ⟨k, n, hk, rfl, rfl⟩ := hrel
    by_cases hlt : k < xs.length
    · obtain ⟨b1, o1, rfl, g1⟩ := H1.out k hlt
      obtain ⟨b2, o2, rfl, g2⟩ := H2.out k hlt
      generalize xs.getD k 0 = x at *
      go_wp2
      go_quiet (fail)
      go_wp2
      go_roundw
      case rel => exact ⟨k + 1, n + nq, by omega, by go_num, rfl⟩
      case measure => simp [intOf]; omega
    · go_wp2
      go_ret
      exact ⟨rfl, Mem.below_drewN w n⟩

/-- The marks from k on. -/
def imarks (k n : Nat) : List Int := (List.range n).map fun j => ((k + j : Nat) : Int)
theorem imarks_length (k n : Nat) : (imarks k n).length = n := by simp [imarks]
theorem imarks_at (k n j : Nat) (h : j < n) : (imarks k n).getD j 0 = ((k + j : Nat) : Int) := by
  simp [imarks, List.getD, h]

end Go.Proofs.YtenpcjmhlnalcaaGreat

/-! WALKS: what is a set, how many points, which comes first: impl's and spec's functions on single numbers. -/

namespace Go.Proofs.YtenpcjmhlnalcaaGreat
open Go.RowKit
open Sets

/-- Is x from lo to hi? -/
def inB (lo hi x : Int) : Bool := decide (lo ≤ x ∧ x ≤ hi)
theorem inB_true {lo hi x : Int} (h1 : lo ≤ x) (h2 : x ≤ hi) : inB lo hi x = true := by unfold inB; rw [decide_eq_true_iff]; exact ⟨h1, h2⟩
theorem inB_false {lo hi x : Int} (h : ¬(lo ≤ x ∧ x ≤ hi)) : inB lo hi x = false := by unfold inB; rw [decide_eq_false_iff_not]; exact h
theorem inB_okZ (x : Int) : inB 0 63 x = okZ x := rfl

set_option maxRecDepth 100000 in
theorem in_any (x lo hi : Int) (w : World) : Calls Tryz.prog 59 #[.int .i64 x, .int .i64 lo, .int .i64 hi] w fun e w' => e = .returned (.bool (inB lo hi x)) ∧ w = w' := by
  by_cases h1 : lo ≤ x
  · by_cases h2 : x ≤ hi
    · go_enter Tryz.func59, Tryz.ntmps59
      go_wp2
      go_ret
      exact ⟨by rw [inB_true h1 h2]; rfl, rfl⟩
    · go_enter Tryz.func59, Tryz.ntmps59
      go_wp2
      go_ret
      exact ⟨by rw [inB_false (fun h => by omega)]; rfl, rfl⟩
  · go_enter Tryz.func59, Tryz.ntmps59
    go_wp2
    go_ret
    exact ⟨by rw [inB_false (fun h => by omega)]; rfl, rfl⟩

theorem in_b (x lo hi : Int) (b : Bool) (hb : inB lo hi x = b) (w : World) : Calls Tryz.prog 59 #[.int .i64 x, .int .i64 lo, .int .i64 hi] w fun e w' => e = .returned (.bool b) ∧ w = w' := by
  subst hb; exact in_any x lo hi w

/-- IsSet. -/
def setB (n s : Int) : Bool := decide (0 ≤ n ∧ n ≤ 6 ∧ 0 ≤ s ∧ s < 2 ^ n.toNat)
theorem setB_iff (n s : Int) : setB n s = true ↔ 0 ≤ n ∧ n ≤ 6 ∧ 0 ≤ s ∧ s < 2 ^ n.toNat := by unfold setB; exact decide_eq_true_iff
theorem setB_six (s : Int) : setB 6 s = okZ s := by unfold setB okZ; congr 1; apply propext; constructor <;> (intro h; simp at h ⊢; omega)
theorem inB_setB (n hi s : Int) (h0 : 0 ≤ n) (h1 : n ≤ 6) (h : hi + 1 = 2 ^ n.toNat) : inB 0 hi s = setB n s := by
  unfold inB setB; congr 1; apply propext; rw [← h]; constructor <;> (intro h; omega)
theorem seven (n : Int) (h0 : 0 ≤ n) (h1 : n ≤ 6) : n = 0 ∨ n = 1 ∨ n = 2 ∨ n = 3 ∨ n = 4 ∨ n = 5 ∨ n = 6 := by omega

set_option maxRecDepth 100000 in
set_option maxHeartbeats 2000000 in
theorem implIsSet_any (n s : Int) (w : World) : Calls Tryz.prog 86 #[.int .i64 n, .int .i64 s] w fun e w' => e = .returned (.bool (setB n s)) ∧ w = w' := by
  by_cases h0 : 0 ≤ n
  · by_cases h1 : n ≤ 6
    · by_cases h2 : 0 ≤ s
      · have hb : setB n s = decide (s < 2 ^ n.toNat) := by unfold setB; simp [h0, h1, h2]
        rw [hb]
        clear hb
        rcases seven n h0 h1 with rfl | rfl | rfl | rfl | rfl | rfl | rfl
        all_goals
          clear h0 h1
          go_enter Tryz.func86, Tryz.ntmps86
          go_wp2
          go_ret
          exact ⟨rfl, rfl⟩
      · have hb : setB n s = false := by unfold setB; simp [h2]
        rw [hb]
        clear hb
        go_enter Tryz.func86, Tryz.ntmps86
        go_wp2
        go_ret
        exact ⟨rfl, rfl⟩
    · have hb : setB n s = false := by unfold setB; simp [h1]
      rw [hb]
      clear hb
      go_enter Tryz.func86, Tryz.ntmps86
      go_wp2
      go_ret
      exact ⟨rfl, rfl⟩
  · have hb : setB n s = false := by unfold setB; simp [h0]
    rw [hb]
    clear hb
    go_enter Tryz.func86, Tryz.ntmps86
    go_wp2
    go_ret
    exact ⟨rfl, rfl⟩

set_option maxRecDepth 100000 in
theorem isAny_any (s : Int) (w : World) : Calls Tryz.prog 100 #[.int .i64 s] w fun e w' => e = .returned (.bool (okZ s)) ∧ w = w' := by
  have hc := implIsSet_any 6 s w
  rw [setB_six] at hc
  go_enter Tryz.func100, Tryz.ntmps100
  go_wp2_with fail
  refine hc.mono ?_
  rintro e w' ⟨rfl, rfl⟩
  go_wp2
  go_ret
  exact ⟨rfl, rfl⟩

theorem isAny_b (s : Int) (b : Bool) (hb : okZ s = b) (w : World) : Calls Tryz.prog 100 #[.int .i64 s] w fun e w' => e = .returned (.bool b) ∧ w = w' := by
  subst hb; exact isAny_any s w

set_option maxRecDepth 100000 in
set_option maxHeartbeats 2000000 in
theorem specIsSet_any (n s : Int) (w : World) : Calls Tryz.prog 57 #[.int .i64 n, .int .i64 s] w fun e w' => e = .returned (.bool (setB n s)) ∧ w = w' := by
  by_cases h0 : 0 ≤ n ∧ n ≤ 6
  · obtain ⟨h0, h1⟩ := h0
    have hb : ∀ hi : Int, hi + 1 = 2 ^ n.toNat → inB 0 hi s = setB n s := fun hi h => inB_setB n hi s h0 h1 h
    generalize setB n s = b at *
    have HB := Lib.hid hb
    clear hb
    rcases seven n h0 h1 with rfl | rfl | rfl | rfl | rfl | rfl | rfl
    all_goals
      clear h0 h1
      go_enter Tryz.func57, Tryz.ntmps57
      go_wp2_with fail
      refine (in_b _ _ _ true (by decide) _).mono ?_
      rintro e w' ⟨rfl, rfl⟩
      go_wp2_with fail
      refine (in_b _ _ _ b (HB.out _ (by decide)) _).mono ?_
      rintro e w' ⟨rfl, rfl⟩
      go_wp2
      go_ret
      exact ⟨rfl, rfl⟩
  · have hb : setB n s = false := by
      unfold setB; rw [decide_eq_false_iff_not]; intro h; exact h0 ⟨h.1, h.2.1⟩
    have hq : inB 0 6 n = false := inB_false h0
    rw [hb]
    clear hb h0
    go_enter Tryz.func57, Tryz.ntmps57
    go_wp2_with fail
    refine (in_b _ _ _ false hq _).mono ?_
    rintro e w' ⟨rfl, rfl⟩
    go_wp2
    go_ret
    exact ⟨rfl, rfl⟩

end Go.Proofs.YtenpcjmhlnalcaaGreat
