/-
  TEXTS of one claim, put together: StrOwn, WSetsText, Num, WNum.
-/
import Derived.Test.YtenpcjmhlnalcaaGreatJg15
import Derived.Lib.ItoaLen
import Derived.Lib.AtoiAllCases
import Derived.Test.YtenpcjmhlnalcaaGreatProg
import Derived.WalkKit
import Derived.WalkLawsBesides
import Derived.Outline
import Derived.Lib.Hide
import Derived.IntWalk
import Derived.Deep.DeepFit
import Derived.Laws.BytesString
/-! WALKS: a row of strings that the call owns; both Joins of it. -/

namespace Go.Proofs.YtenpcjmhlnalcaaGreat
open Go.RowKit

/-- A slice value that reads as the strings xs and lies in a block of its own from base on. -/
def OwnTexts (w : World) (base : Nat) (v : Value) (xs : List ByteArray) : Prop := w.ownsRow base 9 1 v xs.length (xs.map Value.string)

theorem OwnTexts.nil (w : World) (base : Nat) : OwnTexts w base (.slice none 0 0) [] := World.ownsRow_nil _ _ _ _
theorem OwnTexts.lit0 (w : World) (base : Nat) (h : base ≤ w.heap.size) : OwnTexts (w.alloc (.cells #[] 9)) base (.slice (some ⟨w.heap.size, 0, none⟩) 0 0) [] :=
  World.ownsRow_lit (base := base) (e := 9) (size := 1) w #[] 0 h (by unfold maxLen; omega) rfl
theorem OwnTexts.next {w : World} {base : Nat} {v : Value} {xs : List ByteArray} {x : ByteArray} (h : w.ownsRow base 9 1 v (xs.length + 1) (xs.map Value.string ++ [.string x])) : OwnTexts w base v (xs ++ [x]) := by
  unfold OwnTexts
  rw [List.length_append, List.map_append]
  exact h
theorem OwnTexts.keeps {w w' : World} {base : Nat} {v : Value} {xs : List ByteArray} (h : OwnTexts w base v xs) (hb : Below w.heap.size w w') : OwnTexts w' base v xs := by
  unfold OwnTexts at *
  refine ⟨h.1, ?_⟩
  rcases h.2 with h0 | ⟨g, cap, cur, hv, h1, hh, hr⟩
  · exact .inl h0
  · refine .inr ⟨g, cap, cur, hv, h1, ?_, hr⟩
    have hlt : g < w.heap.size := by
      rcases Nat.lt_or_ge g w.heap.size with hl | hl
      · exact hl
      · rw [Array.getElem?_eq_none hl] at hh; cases hh
    rw [hb.block g hlt]; exact hh
theorem texts_cell (xs : List ByteArray) (j : Nat) (h : j < xs.length) : (xs.map Value.string)[j]? = some (.string (xs.getD j ByteArray.empty)) := by
  rw [List.getElem?_map, List.getD, List.getElem?_eq_getElem h]; rfl
/-- Out of what is owned: nothing, or a block. -/
theorem OwnTexts.at {w : World} {base : Nat} {v : Value} {xs : List ByteArray} (h : OwnTexts w base v xs) :
    (v = .slice none 0 0 ∧ xs = []) ∨ ∃ g c, v = .slice (some ⟨g, 0, none⟩) xs.length c ∧ xs.length ≤ c ∧ base ≤ g ∧ g < w.heap.size ∧ StrRow w g 0 xs := by
  unfold OwnTexts at h
  rcases h.2 with ⟨hv, h0⟩ | ⟨g, cap, cur, hv, _, _, hcap, _⟩
  · exact .inl ⟨hv, List.eq_nil_of_length_eq_zero h0⟩
  · subst hv
    obtain ⟨h1, h2⟩ := World.ownsRow.lt h g rfl
    refine .inr ⟨g, cap, rfl, hcap, h1, h2, fun j hj => ?_⟩
    rw [Nat.zero_add, World.ownsRow.cellAt h j (by omega), texts_cell xs j hj]
theorem OwnTexts.strs {w : World} {base : Nat} {v : Value} {xs : List ByteArray} (h : OwnTexts w base v xs) : ∃ a c, v = .slice a xs.length c ∧ Strs w a xs := by
  rcases h.at with ⟨rfl, rfl⟩ | ⟨g, c, rfl, _, _, _, hr⟩
  · exact ⟨none, 0, rfl, fun j hj => absurd hj (Nat.not_lt_zero _)⟩
  · exact ⟨_, c, rfl, hr.strs⟩

end Go.Proofs.YtenpcjmhlnalcaaGreat

/-! WALKS: SetsText, by impl and by spec. -/

namespace Go.Proofs.YtenpcjmhlnalcaaGreat
open Go.RowKit
open Sets

/-- The texts of the first k sets. -/
def txts (xs : List Int) (k : Nat) : List ByteArray := (xs.take k).map txt
/-- SetsText. -/
def setsText (xs : List Int) : ByteArray := ⟨(joined (txts xs xs.length) ⟨#[44]⟩ (txts xs xs.length).length).toArray⟩
theorem txts_next (xs : List Int) (k : Nat) (h : k < xs.length) : txts xs (k + 1) = txts xs k ++ [txt (xs.getD k 0)] := by
  unfold txts
  rw [List.take_succ_eq_append_getElem h, List.map_append, List.getD, List.getElem?_eq_getElem h]; rfl
theorem txts_length (xs : List Int) (k : Nat) : (txts xs k).length ≤ k := by unfold txts; rw [List.length_map, List.length_take]; omega
theorem bytesOf_le (xs : List ByteArray) (m : Nat) (h : ∀ x ∈ xs, x.size ≤ m) : bytesOf xs xs.length ≤ m * xs.length := by
  unfold bytesOf
  rw [List.take_length]
  induction xs with
  | nil => simp
  | cons x xs ih =>
    have h1 := h x (by simp)
    have h2 := ih (fun y hy => h y (by simp [hy]))
    rw [List.map_cons, List.sum_cons, List.length_cons, Nat.mul_succ]
    omega
theorem txts_bytes (xs : List Int) (k : Nat) : bytesOf (txts xs k) (txts xs k).length ≤ 6 * (txts xs k).length :=
  bytesOf_le _ 6 (fun x hx => by
    unfold txts at hx
    obtain ⟨y, _, rfl⟩ := List.mem_map.1 hx
    exact txt_size y)

end Go.Proofs.YtenpcjmhlnalcaaGreat

/-! PLAIN MATHEMATICS OF DECIMAL NUMERALS, no program in it: what reading a numeral digit by digit gives ('readF'), what reading it by the library and writing it again gives ('implF'), and that both are the same function. -/

namespace Go.Proofs.YtenpcjmhlnalcaaGreat.Num
open Go.Lib

/-- The number that digits spell, behind those that spell acc. -/
def step (a : Nat) (c : UInt8) : Nat := 10 * a + (c.toNat - 48)
def dval (acc : Nat) (l : List UInt8) : Nat := l.foldl step acc
theorem dval_nil (acc : Nat) : dval acc [] = acc := List.foldl_nil
theorem dval_cons (acc : Nat) (c : UInt8) (r : List UInt8) : dval acc (c :: r) = dval (10 * acc + (c.toNat - 48)) r := by
  unfold dval
  rw [List.foldl_cons]
  unfold step
  exact Eq.refl _

def isDig (c : UInt8) : Bool := decide (48 ≤ c.toNat) && decide (c.toNat ≤ 57)
def allDig (l : List UInt8) : Bool := l.all isDig

theorem isDig_iff (c : UInt8) : isDig c = true ↔ 48 ≤ c.toNat ∧ c.toNat ≤ 57 := by
  unfold isDig
  rw [Bool.and_eq_true, decide_eq_true_iff, decide_eq_true_iff]

theorem dval_append (a b : List UInt8) : ∀ acc, dval acc (a ++ b) = dval (dval acc a) b := by
  induction a with
  | nil => intro acc; rw [dval_nil, List.nil_append]
  | cons c r ih => intro acc; rw [List.cons_append, dval_cons, dval_cons, ih]

theorem dval_le : ∀ (l : List UInt8) (acc : Nat), acc ≤ dval acc l
  | [], acc => by rw [dval_nil]; exact Nat.le_refl acc
  | c :: r, acc => by
    rw [dval_cons]
    exact Nat.le_trans (by omega) (dval_le r (10 * acc + (c.toNat - 48)))

theorem dval_lt (l : List UInt8) : ∀ acc, allDig l = true → dval acc l < (acc + 1) * 10 ^ l.length := by
  induction l with
  | nil => intro acc _; rw [dval_nil]; simp
  | cons c r ih =>
    intro acc h
    simp only [allDig, List.all_cons, Bool.and_eq_true] at h
    have hc := (isDig_iff c).1 h.1
    have := ih (10 * acc + (c.toNat - 48)) h.2
    rw [dval_cons, List.length_cons, Nat.pow_succ]
    have h2 : (10 * acc + (c.toNat - 48) + 1) * 10 ^ r.length ≤ ((acc + 1) * 10) * 10 ^ r.length := Nat.mul_le_mul_right _ (by omega)
    have h3 : (acc + 1) * 10 * 10 ^ r.length = (acc + 1) * (10 ^ r.length * 10) := by rw [Nat.mul_assoc, Nat.mul_comm 10]
    omega

theorem dig_of (k : Nat) (h : k < 10) : (UInt8.ofNat (48 + k)).toNat = 48 + k := by
  rw [UInt8.toNat_ofNat']; omega

theorem decDigits_step (u : Nat) (h : ¬ u < 10) : decDigits u = decDigits (u / 10) ++ [UInt8.ofNat (48 + u % 10)] := by
  rw [decDigits, dif_neg h]

theorem decDigits_all (u : Nat) : allDig (decDigits u) = true := by
  induction u using Nat.strongRecOn with
  | _ u ih =>
    by_cases h : u < 10
    · rw [decDigits_one h]
      simp only [allDig, List.all_cons, List.all_nil, Bool.and_true]
      rw [isDig_iff, dig_of u h]; omega
    · rw [decDigits_step u h]
      have := ih (u / 10) (by omega)
      simp only [allDig, List.all_append, Bool.and_eq_true] at this ⊢
      refine ⟨this, ?_⟩
      simp only [List.all_cons, List.all_nil, Bool.and_true]
      rw [isDig_iff, dig_of (u % 10) (by omega)]; omega

theorem dval_decDigits (u : Nat) : dval 0 (decDigits u) = u := by
  induction u using Nat.strongRecOn with
  | _ u ih =>
    by_cases h : u < 10
    · rw [decDigits_one h]
      rw [dval_cons, dval_nil]
      rw [dig_of u h]; omega
    · rw [decDigits_step u h, dval_append, ih (u / 10) (by omega)]
      rw [dval_cons, dval_nil]
      rw [dig_of (u % 10) (by omega)]; omega

theorem decDigits_inj {u v : Nat} (h : decDigits u = decDigits v) : u = v := by
  rw [← dval_decDigits u, ← dval_decDigits v, h]

theorem decDigits_ne_nil (u : Nat) : decDigits u ≠ [] := by
  intro h
  have := decDigits_length u
  rw [h] at this
  have := nDigits_pos u
  simp at *; omega

theorem decDigits_cons (u : Nat) : ∃ c r, decDigits u = c :: r ∧ 48 ≤ c.toNat ∧ c.toNat ≤ 57 := by
  have h := decDigits_all u
  have hn := decDigits_ne_nil u
  match hd : decDigits u with
  | [] => exact absurd hd hn
  | c :: r =>
    rw [hd] at h
    simp only [allDig, List.all_cons, Bool.and_eq_true] at h
    exact ⟨c, r, rfl, (isDig_iff c).1 h.1⟩

theorem nDigits_le (k : Nat) : ∀ u, u < 10 ^ (k + 1) → nDigits u ≤ k + 1 := by
  induction k with
  | zero => intro u h; rw [nDigits_small (by simpa using h)]; omega
  | succ k ih =>
    intro u h
    by_cases h1 : u < 10
    · rw [nDigits_small h1]; omega
    · rw [nDigits_big h1]
      have := ih (u / 10) (by rw [Nat.pow_succ] at h; omega)
      omega

theorem length_iff (u k : Nat) : (decDigits u).length ≤ k + 1 ↔ u < 10 ^ (k + 1) := by
  rw [decDigits_length]
  constructor
  · intro h
    exact Nat.lt_of_lt_of_le (lt_pow_nDigits u) (Nat.pow_le_pow_right (by decide) h)
  · exact nDigits_le k u

/-! ### the signed numeral -/

theorem itoa_cases (n : Int) : (∃ u : Nat, 1 ≤ u ∧ n = -(u : Int) ∧ itoa n = 45 :: decDigits u) ∨ (∃ u : Nat, n = u ∧ itoa n = decDigits u) := by
  by_cases h : n < 0
  · refine Or.inl ⟨n.natAbs, by omega, by omega, ?_⟩
    rw [itoa, if_pos h]
  · refine Or.inr ⟨n.toNat, by omega, ?_⟩
    rw [itoa, if_neg h]

theorem itoa_head (n : Int) : (itoa n).head? = some 45 ↔ n < 0 := by
  rcases itoa_cases n with ⟨u, h1, rfl, e⟩ | ⟨u, rfl, e⟩
  · rw [e]; simp; omega
  · rw [e]
    obtain ⟨c, r, hd, h1, h2⟩ := decDigits_cons u
    rw [hd]
    constructor
    · intro h
      simp at h
      subst h
      simp at h1
    · intro h; omega

theorem itoa_inj {m n : Int} (h : itoa m = itoa n) : m = n := by
  have hm := itoa_head m
  have hn := itoa_head n
  rw [h] at hm
  rcases itoa_cases m with ⟨u, h1, rfl, e⟩ | ⟨u, rfl, e⟩ <;> rcases itoa_cases n with ⟨v, h2, rfl, f⟩ | ⟨v, rfl, f⟩
  · rw [e, f] at h
    have := decDigits_inj (List.cons.inj h).2
    omega
  · have a := hm.2 (by omega); have b := hn.1 a; omega
  · have a := hn.2 (by omega); have b := hm.1 a; omega
  · rw [e, f] at h
    have := decDigits_inj h
    omega

/-! ### reading digit by digit -/

def neg (l : List UInt8) : Bool := decide (l.head? = some 45)
def body (l : List UInt8) : List UInt8 := if neg l = true then l.drop 1 else l
def num (l : List UInt8) : Int := if neg l = true then -((dval 0 (body l) : Nat) : Int) else ((dval 0 (body l) : Nat) : Int)

/-- What reading at most 'most' digits gives. -/
def readF (most : Nat) (l : List UInt8) : Option Int :=
  if (body l).length < 1 ∨ most < (body l).length then none
  else if allDig (body l) = false then none
  else if itoa (num l) = l then some (num l) else none

theorem body_itoa (n : Int) : body (itoa n) = decDigits n.natAbs := by
  unfold body neg
  rcases itoa_cases n with ⟨u, h1, rfl, e⟩ | ⟨u, rfl, e⟩
  · rw [if_pos (by simpa using (itoa_head (-(u : Int))).2 (by omega)), e]; simp
  · rw [if_neg (by have := (itoa_head (u : Int)); simp only [decide_eq_true_eq]; rw [this]; omega), e]; simp

theorem num_itoa (n : Int) : num (itoa n) = n := by
  unfold num
  rw [body_itoa, dval_decDigits]
  by_cases h : n < 0
  · rw [if_pos (by unfold neg; simpa using (itoa_head n).2 h)]; omega
  · rw [if_neg (by unfold neg; simp only [decide_eq_true_eq]; rw [itoa_head]; exact h)]; omega

theorem readF_iff (k : Nat) (l : List UInt8) (n : Int) : readF (k + 1) l = some n ↔ itoa n = l ∧ n.natAbs < 10 ^ (k + 1) := by
  constructor
  · intro h
    unfold readF at h
    split at h
    · cases h
    · rename_i h1
      split at h
      · cases h
      · split at h
        · rename_i h3
          injection h with h
          subst h
          refine ⟨h3, ?_⟩
          rw [← length_iff, ← body_itoa, h3]
          omega
        · cases h
  · rintro ⟨rfl, hlt⟩
    unfold readF
    rw [num_itoa, body_itoa, if_neg, if_neg, if_pos rfl]
    · rw [decDigits_all]; simp
    · have h1 := (length_iff n.natAbs k).2 hlt
      have h2 := nDigits_pos n.natAbs
      rw [decDigits_length] at h1 ⊢
      omega

/-! ### reading by the library -/

theorem parse_digits (l : List UInt8) : ∀ acc, allDig l = true → dval acc l < 18446744073709551616 → parseUint10 acc l = .ok (dval acc l) := by
  induction l with
  | nil => intro acc _ _; rw [dval_nil]; rfl
  | cons c r ih =>
    intro acc h hv
    simp only [allDig, List.all_cons, Bool.and_eq_true] at h
    have hc := (isDig_iff c).1 h.1
    rw [dval_cons] at hv ⊢
    have hle := dval_le r (10 * acc + (c.toNat - 48))
    unfold parseUint10
    rw [if_pos hc, if_neg (by omega), if_neg (by omega)]
    rw [show acc * 10 + (c.toNat - 48) = 10 * acc + (c.toNat - 48) by omega]
    exact ih _ h.2 hv

theorem atoi_itoa (n : Int) (h0 : -9223372036854775808 ≤ n) (h1 : n ≤ 9223372036854775807) : atoiAll (itoa n) = .ok n := by
  have hm : ∀ u : Nat, u < 18446744073709551616 → parseMag (decDigits u) = .ok u := by
    intro u hu
    unfold parseMag
    rw [if_neg (decDigits_ne_nil u)]
    have := parse_digits (decDigits u) 0 (decDigits_all u) (by rw [dval_decDigits]; exact hu)
    rw [this, dval_decDigits]
  rcases itoa_cases n with ⟨u, h2, rfl, e⟩ | ⟨u, rfl, e⟩
  · rw [e, atoiAll_minus, hm u (by omega)]
    simp only [signed]
    rw [if_neg (by omega)]
  · rw [e]
    have := hm u (by omega)
    obtain ⟨c, r, hd, hc1, hc2⟩ := decDigits_cons u
    rw [hd] at this ⊢
    rw [atoiAll_plain c r (by omega) (by omega), this]
    simp only [signless]
    rw [if_neg (by omega)]

/-- What the library reads, if it is no greater than 999999999999 on either side and is written so. -/
def implF (l : List UInt8) : Option Int :=
  match atoiAll l with
  | .ok n => if (-999999999999 ≤ n ∧ n ≤ 999999999999) ∧ itoa n = l then some n else none
  | _ => none

theorem implF_iff (l : List UInt8) (n : Int) : implF l = some n ↔ itoa n = l ∧ -999999999999 ≤ n ∧ n ≤ 999999999999 := by
  constructor
  · intro h
    unfold implF at h
    split at h
    · split at h
      · rename_i h2
        injection h with h
        subst h
        exact ⟨h2.2, h2.1⟩
      · cases h
    · cases h
  · rintro ⟨rfl, h1, h2⟩
    unfold implF
    rw [atoi_itoa n (by omega) (by omega)]
    exact if_pos ⟨⟨h1, h2⟩, rfl⟩

theorem implF_readF (l : List UInt8) : implF l = readF 12 l := by
  apply Option.ext
  intro n
  rw [implF_iff, show (12 : Nat) = 11 + 1 from rfl, readF_iff]
  have : (10 : Nat) ^ (11 + 1) = 1000000000000 := by decide
  rw [this]
  constructor
  · rintro ⟨h, h1, h2⟩; exact ⟨h, by omega⟩
  · rintro ⟨h, h1⟩; exact ⟨h, by omega, by omega⟩

/-- A number of at most six digits. -/
def numberF (l : List UInt8) : Option Int := (implF l).filter fun n => decide (0 ≤ n) && decide (n ≤ 999999)

theorem numberF_readF (l : List UInt8) : numberF l = (readF 6 l).filter fun n => decide (0 ≤ n) := by
  apply Option.ext
  intro n
  unfold numberF
  simp only [Option.filter_eq_some_iff, Bool.and_eq_true, decide_eq_true_eq]
  rw [implF_iff, show (6 : Nat) = 5 + 1 from rfl, readF_iff]
  have : (10 : Nat) ^ (5 + 1) = 1000000 := by decide
  rw [this]
  constructor
  · rintro ⟨⟨h, h1, h2⟩, h3, h4⟩; exact ⟨⟨h, by omega⟩, h3⟩
  · rintro ⟨⟨h, h1⟩, h3⟩; exact ⟨⟨h, by omega, by omega⟩, h3, by omega⟩

/-! ### writing digit by digit, from the last -/

/-- The digits of a positive number; none of 0. -/
def digs (a : Nat) : List UInt8 := if a = 0 then [] else decDigits a

theorem digs_step (a : Nat) (h : a ≠ 0) : digs a = digs (a / 10) ++ [UInt8.ofNat (48 + a % 10)] := by
  unfold digs
  rw [if_neg h]
  by_cases h1 : a < 10
  · rw [if_pos (by omega), decDigits_one h1, Nat.mod_eq_of_lt h1]; rfl
  · rw [if_neg (by omega), decDigits_step a h1]

end Go.Proofs.YtenpcjmhlnalcaaGreat.Num

/-! WALKS: spec.FormatInt returns the decimal numeral of every int. -/

namespace Go.Proofs.YtenpcjmhlnalcaaGreat
open Go.RowKit
open Num (digs digs_step)

/-- 'string([]byte{x})' -/
theorem one_byte (w : World) (x : Int) :
    (convert 22 9 (.slice (some ⟨w.heap.size, 0, none⟩) 1 1)).run Tryz.prog (w.alloc (.cells #[.int .u8 x] 5)) = .ok (.string ⟨#[UInt8.ofNat x.toNat]⟩) (w.alloc (.cells #[.int .u8 x] 5)) := by
  rw [run_convert_bytes_string _ _ _ 5 _ _ _ Tryz.underlying22 Tryz.underlying5 Tryz.underlying9]
  rw [run_bytesToString _ _ 1 1 [x] (run_loadCells_list _ _ [.int .u8 x] (fun j v hj => by
    rcases j with _ | j
    · simp at hj; subst hj; exact World.cell?_alloc_new w _ _ _
    · simp at hj))]
  simp [ByteArray.push]

theorem ret_str {a b : List UInt8} (h : a = b) : Ending.returned (.string ⟨a.toArray⟩) = .returned (.string ⟨b.toArray⟩) := by rw [h]

theorem str_cons (a : UInt8) (t : List UInt8) : ({ data := #[a] } ++ { data := t.toArray } : ByteArray) = { data := (a :: t).toArray } := by
  apply ByteArray.ext; simp

theorem digs_length (n k : Nat) (t : List UInt8) (h1 : n ≤ 9223372036854775808) (h : digs n = digs k ++ t) : t.length ≤ 20 := by
  have h2 : (digs n).length ≤ 20 := by
    unfold digs
    split
    · simp
    · rw [Lib.decDigits_length]; exact Lib.nDigits_le20 n (by omega)
  rw [h, List.length_append] at h2
  omega

theorem round_str (k : Nat) (t : List UInt8) (b : UInt8) (h : b = UInt8.ofNat (48 + k % 10)) : (Value.string ({ data := #[b] } ++ { data := t.toArray })) = Value.string { data := ([UInt8.ofNat (48 + k % 10)] ++ t).toArray } := by
  rw [str_cons, h]; rfl
theorem round_digs (n k : Nat) (t : List UInt8) (hk : ¬ k = 0) (h : digs n = digs k ++ t) : digs n = digs (k / 10) ++ ([UInt8.ofNat (48 + k % 10)] ++ t) := by
  rw [h, digs_step k hk, List.append_assoc]

set_option maxRecDepth 100000 in
set_option maxHeartbeats 1000000 in
theorem format_neg (n : Nat) (h0 : 1 ≤ n) (h1 : n ≤ 9223372036854775808) (w : World) :
    Calls Tryz.prog 113 #[.int .i64 (-(n : Int))] w fun e w' => e = .returned (.string ⟨(45 :: Lib.decDigits n).toArray⟩) ∧ Below w.heap.size w w' := by
  have hb : (-(n : Int) == 0) = false := by rw [beq_eq_false_iff_ne]; omega
  have hlt : 0 < n := h0
  go_enter Tryz.func113, Tryz.ntmps113
  go_wp2
  go_loopw [0, 4] (fun m o wr => ∃ (k : Nat) (t : List UInt8), m = .int .i64 (-(k : Int)) ∧ k ≤ n ∧ o = .string ⟨t.toArray⟩ ∧ digs n = digs k ++ t ∧ Below w.heap.size w wr) (fun m _ _ => (intOf m).natAbs)
  case atStart => exact ⟨n, [], rfl, Nat.le_refl _, rfl, by simp, Below.refl _ _⟩
  case round =>
    obtain ⟨k, t, rfl, hk, rfl, hd, hB⟩ := hrel
    have hT : t.length ≤ 20 := digs_length n k t h1 hd
    have HD : Hid (digs n = digs k ++ t) := hd
    clear hd
    have hkc := fun (w : World) (x : Int) => one_byte w x
    by_cases hk0 : k = 0
    · subst hk0
      go_wp2
      go_ret
      have hd := HD.out
      rw [show digs 0 = [] from rfl, List.nil_append] at hd
      refine ⟨?_, hB⟩
      rw [str_cons, ← hd]
      unfold digs
      rw [if_neg (by omega)]
      rfl
    · have hne : (-(k : Int) != 0) = true := by rw [bne_iff_ne]; omega
      have hsz := hB.size
      by_cases hm1 : 0 < (k : Int) % 10
      all_goals
        go_wp2
        go_roundw
        case rel => exact ⟨k / 10, [UInt8.ofNat (48 + k % 10)] ++ t, by go_num, by omega, round_str k t _ (by first | (rw [UInt8.ofNat_add]; rfl) | (congr 1; omega)), round_digs n k t hk0 HD.out, hB.alloc hsz _⟩
        case measure => simp [intOf]; omega

set_option maxRecDepth 100000 in
set_option maxHeartbeats 1000000 in
theorem format_pos (n : Nat) (h0 : 1 ≤ n) (h1 : n ≤ 9223372036854775807) (w : World) :
    Calls Tryz.prog 113 #[.int .i64 (n : Int)] w fun e w' => e = .returned (.string ⟨(Lib.decDigits n).toArray⟩) ∧ Below w.heap.size w w' := by
  have hb : ((n : Int) == 0) = false := by rw [beq_eq_false_iff_ne]; omega
  have hlt : 0 < n := h0
  go_enter Tryz.func113, Tryz.ntmps113
  go_wp2
  go_loopw [0, 4] (fun m o wr => ∃ (k : Nat) (t : List UInt8), m = .int .i64 (k : Int) ∧ k ≤ n ∧ o = .string ⟨t.toArray⟩ ∧ digs n = digs k ++ t ∧ Below w.heap.size w wr) (fun m _ _ => (intOf m).natAbs)
  case atStart => exact ⟨n, [], rfl, Nat.le_refl _, rfl, by simp, Below.refl _ _⟩
  case round =>
    obtain ⟨k, t, rfl, hk, rfl, hd, hB⟩ := hrel
    have hT : t.length ≤ 20 := digs_length n k t (by omega) hd
    have HD : Hid (digs n = digs k ++ t) := hd
    clear hd
    have hkc := fun (w : World) (x : Int) => one_byte w x
    by_cases hk0 : k = 0
    · subst hk0
      go_wp2
      go_ret
      have hd := HD.out
      rw [show digs 0 = [] from rfl, List.nil_append] at hd
      refine ⟨?_, hB⟩
      rw [← hd]
      unfold digs
      rw [if_neg (by omega)]
      rfl
    · have hne : ((k : Int) != 0) = true := by rw [bne_iff_ne]; omega
      have hsz := hB.size
      go_wp2
      go_roundw
      case rel => exact ⟨k / 10, [UInt8.ofNat (48 + k % 10)] ++ t, by go_num, by omega, round_str k t _ (by first | (rw [UInt8.ofNat_add]; rfl) | (congr 1; omega)), round_digs n k t hk0 HD.out, hB.alloc hsz _⟩
      case measure => simp [intOf]; omega

set_option maxRecDepth 100000 in
theorem format_zero (w : World) :
    Calls Tryz.prog 113 #[.int .i64 0] w fun e w' => e = .returned (.string ⟨#[48]⟩) ∧ Below w.heap.size w w' := by
  go_enter Tryz.func113, Tryz.ntmps113
  go_wp2
  go_ret
  exact ⟨rfl, Below.refl _ _⟩

/-- spec.FormatInt: the decimal numeral. -/
theorem format_any (n : Int) (h0 : -9223372036854775808 ≤ n) (h1 : n ≤ 9223372036854775807) (w : World) :
    Calls Tryz.prog 113 #[.int .i64 n] w fun e w' => e = .returned (.string ⟨(Lib.itoa n).toArray⟩) ∧ Below w.heap.size w w' := by
  by_cases hz : n = 0
  · subst hz
    rw [show Lib.itoa 0 = [48] by rw [Lib.itoa, if_neg (by omega)]; exact Lib.decDigits_one (by omega)]
    exact format_zero w
  · by_cases hneg : n < 0
    · obtain ⟨u, rfl⟩ : ∃ u : Nat, n = -(u : Int) := ⟨n.natAbs, by omega⟩
      rw [Lib.itoa_neg u (by omega)]
      exact format_neg u (by omega) (by omega) w
    · obtain ⟨u, rfl⟩ : ∃ u : Nat, n = (u : Int) := ⟨n.toNat, by omega⟩
      rw [Lib.itoa_nonneg u]
      exact format_pos u (by omega) (by omega) w

end Go.Proofs.YtenpcjmhlnalcaaGreat
