/-
  TEXTS of one claim, put together: Pieces, CxParse, WParseSet, WStr.
-/
import Derived.Lib.Split
import Derived.Lib.SplitLaws
import Derived.Lib.IndexBytes
import Derived.Lib.IndexLaws
import Derived.Lib.CountLaws
import Derived.Lib.Join
import Derived.Test.YtenpcjmhlnalcaaGreatJg17
import Derived.Test.YtenpcjmhlnalcaaGreatJg11
import Derived.Lib.IndexMore
import Derived.Test.YtenpcjmhlnalcaaGreatJg15
import Derived.Test.YtenpcjmhlnalcaaGreatJg16
import Derived.Deep.QuietTactic
import Derived.BigQuiet
import Derived.BigRegion
import Derived.Deep.RegionHeld3
import Derived.WalkSmall
/-! PLAIN: a text cut at every occurrence of one byte; the library's cut at a separator of one byte is the same. -/

namespace Go.Proofs.YtenpcjmhlnalcaaGreat.Pieces
open Go.Lib

/-- p laid ahead of the first piece. -/
def onto (p : List UInt8) : List (List UInt8) → List (List UInt8)
  | h :: t => (p ++ h) :: t
  | [] => [p]

def pieces (b : UInt8) : List UInt8 → List (List UInt8)
  | [] => [[]]
  | c :: r => if c = b then [] :: pieces b r else onto [c] (pieces b r)

theorem onto_onto (p q : List UInt8) (x : List (List UInt8)) : onto p (onto q x) = onto (p ++ q) x := by
  cases x with
  | nil => rfl
  | cons h t => simp [onto]
theorem onto_nil (x : List (List UInt8)) (h : x ≠ []) : onto [] x = x := by
  cases x with
  | nil => exact absurd rfl h
  | cons h t => rfl
theorem pieces_ne (b : UInt8) (l : List UInt8) : pieces b l ≠ [] := by
  cases l with
  | nil => simp [pieces]
  | cons c r =>
    unfold pieces
    split
    · simp
    · cases pieces b r <;> simp [onto]
theorem pieces_nil (b : UInt8) : pieces b [] = [[]] := rfl
theorem pieces_hit (b : UInt8) (r : List UInt8) : pieces b (b :: r) = [] :: pieces b r := by
  rw [pieces, if_pos rfl]
theorem pieces_miss (b c : UInt8) (r : List UInt8) (h : c ≠ b) : pieces b (c :: r) = onto [c] (pieces b r) := by
  rw [pieces, if_neg h]
theorem pieces_length (b : UInt8) (l : List UInt8) : (pieces b l).length ≤ l.length + 1 := by
  induction l with
  | nil => simp [pieces]
  | cons c r ih =>
    unfold pieces
    split
    · simp; omega
    · have : (onto [c] (pieces b r)).length = (pieces b r).length := by
        have := pieces_ne b r
        cases h : pieces b r with
        | nil => exact absurd h this
        | cons x y => rfl
      simp; omega

/-- A run without the byte, then the byte, then the rest. -/
theorem pieces_run (b : UInt8) (r : List UInt8) : ∀ p : List UInt8, (∀ c ∈ p, c ≠ b) → pieces b (p ++ b :: r) = p :: pieces b r := by
  intro p
  induction p with
  | nil => intro _; exact pieces_hit b r
  | cons c p ih =>
    intro h
    rw [List.cons_append, pieces_miss b c _ (h c (by simp)), ih (fun x hx => h x (by simp [hx]))]
    rfl
theorem pieces_none (b : UInt8) : ∀ p : List UInt8, (∀ c ∈ p, c ≠ b) → pieces b p = [p] := by
  intro p
  induction p with
  | nil => intro _; rfl
  | cons c p ih =>
    intro h
    rw [pieces_miss b c _ (h c (by simp)), ih (fun x hx => h x (by simp [hx]))]
    rfl

theorem split_pieces (b : UInt8) : ∀ (k : Nat) (l : List UInt8), l.length ≤ k → splitK [b] 0 (count l [b]) l = pieces b l := by
  intro k
  induction k with
  | zero =>
    intro l h
    obtain rfl : l = [] := List.eq_nil_of_length_eq_zero (by omega)
    have : index [] [b] = -1 := by rw [index_one]; rfl
    rw [count_miss this]; rfl
  | succ k ih =>
    intro l h
    by_cases hm : indexByte l b = -1
    · have hi : index l [b] = -1 := by rw [index_one]; exact hm
      rw [count_miss hi, pieces_none b l]
      · rfl
      · intro c hc e
        obtain ⟨j, hj⟩ := List.mem_iff_getElem?.1 hc
        exact indexByte_none hm j (by rw [hj, e])
    · have hge := indexByte_ge l b
      obtain ⟨i, hi⟩ : ∃ i : Nat, indexByte l b = i := ⟨(indexByte l b).toNat, by omega⟩
      have hix : index l [b] = i := by rw [index_one]; exact hi
      obtain ⟨h1, h2⟩ := indexByte_some hi
      have hlt : i < l.length := (List.getElem?_eq_some_iff.1 h1).1
      have hsplit : l = l.take i ++ b :: l.drop (i + 1) := by
        have e := List.take_append_drop i l
        rw [List.drop_eq_getElem_cons hlt] at e
        have : l[i] = b := (List.getElem?_eq_some_iff.1 h1).2
        rw [this] at e
        exact e.symm
      rw [count_hit (by simp) hix, Nat.add_comm 1]
      have hne : ¬ (index l [b] == -1) = true := by rw [hix]; simp
      rw [splitK, if_neg hne, hix]
      show l.take (i + 0) :: splitK [b] 0 (count (l.drop (i + 1)) [b]) (l.drop (i + 1)) = pieces b l
      rw [ih (l.drop (i + 1)) (by rw [List.length_drop]; omega), Nat.add_zero]
      conv => rhs; rw [hsplit]
      rw [pieces_run]
      intro c hc e
      obtain ⟨j, hj⟩ := List.mem_iff_getElem?.1 hc
      have hj2 : j < i := by
        have := (List.getElem?_eq_some_iff.1 hj).1
        rw [List.length_take] at this
        omega
      rw [List.getElem?_take, if_pos hj2] at hj
      exact h2 j hj2 (by rw [hj, e])

/-- The pieces as strings. -/
def strs (b : UInt8) (s : ByteArray) : List ByteArray := (pieces b s.data.toList).map fun l => ⟨l.toArray⟩

theorem strs_length (b : UInt8) (s : ByteArray) : (strs b s).length ≤ s.size + 1 := by
  unfold strs
  rw [List.length_map]
  have := pieces_length b s.data.toList
  rw [Array.length_toList] at this
  exact this
theorem strs_ne (b : UInt8) (s : ByteArray) : (strs b s).length ≠ 0 := by
  unfold strs
  rw [List.length_map]
  have := pieces_ne b s.data.toList
  intro h
  exact this (List.eq_nil_of_length_eq_zero h)

theorem of_data (xs : List ByteArray) (ys : List (List UInt8)) (h : xs.map (·.data.toList) = ys) : xs = ys.map fun l => ⟨l.toArray⟩ := by
  subst h
  rw [List.map_map]
  conv => lhs; rw [← List.map_id xs]
  apply List.map_congr_left
  intro x _
  rfl

theorem splitB_strs (b : UInt8) (s : ByteArray) : splitB ⟨#[b]⟩ 0 (countB s ⟨#[b]⟩) s = strs b s := by
  unfold strs
  apply of_data
  rw [splitB_data]
  exact split_pieces b _ s.data.toList (Nat.le_refl _)
theorem countB_strs (b : UInt8) (s : ByteArray) : countB s ⟨#[b]⟩ + 1 = (strs b s).length := by
  rw [← splitB_strs, splitB_all ⟨#[b]⟩ (Nat.le_refl 1) 0 _ s rfl]

/-! ### the loop -/

/-- What the loop holds when it comes to place k, the open piece beginning at f. -/
def Inv (b : UInt8) (l : List UInt8) (f k : Nat) (done : List (List UInt8)) : Prop :=
  if k = l.length + 1 then done = pieces b l else pieces b l = done ++ onto ((l.drop f).take (k - f)) (pieces b (l.drop k))

theorem inv_start (b : UInt8) (l : List UInt8) : Inv b l 0 0 [] := by
  unfold Inv
  rw [if_neg (by omega), List.nil_append]
  simp [onto_nil _ (pieces_ne b l)]

theorem inv_hit (b : UInt8) (l : List UInt8) (f k : Nat) (done : List (List UInt8)) (hk : k < l.length) (hb : l[k] = b) (h : Inv b l f k done) :
    Inv b l (k + 1) (k + 1) (done ++ [(l.drop f).take (k - f)]) := by
  unfold Inv at h ⊢
  rw [if_neg (by omega)] at h ⊢
  rw [h, List.drop_eq_getElem_cons hk, hb, pieces_hit, Nat.sub_self, List.take_zero, onto_nil _ (pieces_ne _ _)]
  simp [onto]

theorem inv_end (b : UInt8) (l : List UInt8) (f : Nat) (done : List (List UInt8)) (h : Inv b l f l.length done) (g : Nat) :
    Inv b l g (l.length + 1) (done ++ [(l.drop f).take (l.length - f)]) := by
  unfold Inv at h ⊢
  rw [if_neg (by omega)] at h
  rw [if_pos rfl, h, List.drop_length, pieces_nil]
  simp [onto]

theorem inv_skip (b : UInt8) (l : List UInt8) (f k : Nat) (done : List (List UInt8)) (hf : f ≤ k) (hk : k < l.length) (hb : l[k] ≠ b) (h : Inv b l f k done) :
    Inv b l f (k + 1) done := by
  unfold Inv at h ⊢
  rw [if_neg (by omega)] at h ⊢
  rw [h, List.drop_eq_getElem_cons hk, pieces_miss b _ _ hb, onto_onto]
  congr 2
  rw [show k + 1 - f = (k - f) + 1 by omega, List.take_succ_eq_append_getElem (by rw [List.length_drop]; omega), List.getElem_drop]
  congr 3
  omega

theorem inv_done (b : UInt8) (l : List UInt8) (f : Nat) (done : List (List UInt8)) (h : Inv b l f (l.length + 1) done) : done = pieces b l := by
  unfold Inv at h
  rwa [if_pos rfl] at h

/-! ### joined again -/

theorem join_pieces (b : UInt8) (l : List UInt8) : join (pieces b l) [b] = l := by
  induction l with
  | nil => rw [pieces_nil, join_one]
  | cons c r ih =>
    have hne := pieces_ne b r
    match hp : pieces b r with
    | [] => exact absurd hp hne
    | x :: y =>
      rw [hp] at ih
      rw [join_cons] at ih
      by_cases h : c = b
      · subst h
        rw [pieces_hit, hp, join_cons]
        unfold joinTail at ih ⊢
        rw [List.map_cons, List.flatten_cons, List.nil_append, List.append_assoc, ih]
        rfl
      · rw [pieces_miss b c r h, hp]
        unfold onto
        rw [join_cons, List.append_assoc, ih]
        rfl

theorem pieces_free (b : UInt8) (l : List UInt8) : ∀ p ∈ pieces b l, ∀ c ∈ p, c ≠ b := by
  induction l with
  | nil => intro p hp c hc; simp [pieces_nil] at hp; subst hp; simp at hc
  | cons d r ih =>
    intro p hp c hc
    by_cases h : d = b
    · subst h
      rw [pieces_hit] at hp
      rcases List.mem_cons.1 hp with rfl | hp
      · simp at hc
      · exact ih p hp c hc
    · rw [pieces_miss b d r h] at hp
      have hne := pieces_ne b r
      match hq : pieces b r with
      | [] => exact absurd hq hne
      | x :: y =>
        rw [hq] at hp ih
        unfold onto at hp
        rcases List.mem_cons.1 hp with rfl | hp
        · rcases List.mem_append.1 hc with hc | hc
          · simp at hc; subst hc; exact h
          · exact ih x (by simp) c hc
        · exact ih p (by simp [hp]) c hc

theorem strs_piece (b : UInt8) (s : ByteArray) (j : Nat) (hj : j < (strs b s).length) : (strs b ((strs b s).getD j ByteArray.empty)).length = 1 := by
  have hmem : (strs b s).getD j ByteArray.empty ∈ strs b s := by
    rw [List.getD, List.getElem?_eq_getElem hj]; exact List.getElem_mem hj
  generalize (strs b s).getD j ByteArray.empty = x at hmem
  unfold strs at hmem
  obtain ⟨p, hp, rfl⟩ := List.mem_map.1 hmem
  unfold strs
  rw [List.length_map, pieces_none b _ (pieces_free b _ p hp)]
  rfl

theorem pieces_sum (b : UInt8) (l : List UInt8) : ((pieces b l).map List.length).sum ≤ l.length := by
  induction l with
  | nil => simp [pieces_nil]
  | cons c r ih =>
    by_cases h : c = b
    · subst h
      rw [pieces_hit]; simp; omega
    · rw [pieces_miss b c r h]
      have hne := pieces_ne b r
      match hq : pieces b r with
      | [] => exact absurd hq hne
      | x :: y =>
        rw [hq] at ih
        unfold onto
        simp at ih ⊢
        omega

theorem strs_sizes (b : UInt8) (s : ByteArray) : ((strs b s).map ByteArray.size).sum ≤ s.size := by
  have h := pieces_sum b s.data.toList
  rw [Array.length_toList] at h
  unfold strs
  rw [List.map_map]
  have e : (ByteArray.size ∘ fun l : List UInt8 => (⟨l.toArray⟩ : ByteArray)) = List.length := by
    funext l; show l.toArray.size = l.length; simp
  rw [e]; exact h

theorem strs_data (b : UInt8) (s : ByteArray) : (strs b s).map (·.data.toList) = pieces b s.data.toList := by
  unfold strs
  rw [List.map_map]
  conv => rhs; rw [← List.map_id (pieces b s.data.toList)]
  rfl

theorem le_sum : ∀ (l : List Nat) (x : Nat), x ∈ l → x ≤ l.sum
  | [], x, h => by simp at h
  | y :: r, x, h => by
    rcases List.mem_cons.1 h with rfl | h
    · simp
    · have := le_sum r x h; simp; omega

theorem piece_size (b : UInt8) (s : ByteArray) (j : Nat) (hj : j < (strs b s).length) : ((strs b s).getD j ByteArray.empty).size ≤ s.size := by
  have h := strs_sizes b s
  have hmem : ((strs b s).getD j ByteArray.empty).size ∈ (strs b s).map ByteArray.size := by
    rw [List.getD, List.getElem?_eq_getElem hj]; exact List.mem_map.2 ⟨_, List.getElem_mem hj, rfl⟩
  have := le_sum _ _ hmem
  omega

end Go.Proofs.YtenpcjmhlnalcaaGreat.Pieces

/-! THE TEXT OF A COMPLEX, read: both ways give the complex whose text it is. -/

namespace Go.Proofs.YtenpcjmhlnalcaaGreat
open Go.RowKit
open Sets
open Lib (join itoa)
open Pieces (pieces pieces_run pieces_none join_pieces)

/-! ### bytes of numbers and letters -/

theorem itoa_bytes (n : Int) : ∀ c ∈ itoa n, c.toNat = 45 ∨ (48 ≤ c.toNat ∧ c.toNat ≤ 57) := by
  intro c hc
  have hd : ∀ u, ∀ c ∈ Lib.decDigits u, 48 ≤ c.toNat ∧ c.toNat ≤ 57 := fun u c hc => by
    have := Num.decDigits_all u
    unfold Num.allDig at this
    exact (Num.isDig_iff c).1 (List.all_eq_true.1 this c hc)
  rcases Num.itoa_cases n with ⟨u, _, _, h⟩ | ⟨u, _, h⟩
  · rw [h] at hc
    rcases List.mem_cons.1 hc with rfl | hc
    · exact Or.inl rfl
    · exact Or.inr (hd u c hc)
  · rw [h] at hc
    exact Or.inr (hd u c hc)
theorem text_bytes (x : Int) : ∀ c ∈ text x, c.toNat = 45 ∨ (97 ≤ c.toNat ∧ c.toNat ≤ 102) := by
  intro c hc
  cases h : okZ x with
  | false => unfold text at hc; rw [if_neg (by rw [h]; simp)] at hc; simp at hc
  | true =>
    obtain ⟨s, rfl, hs⟩ := okZ_cast x h
    have H : ∀ s : Fin 64, ∀ c ∈ text (s.val : Int), c.toNat = 45 ∨ (97 ≤ c.toNat ∧ c.toNat ≤ 102) := by decide +kernel
    exact H ⟨s, hs⟩ c hc
theorem itoa_no (n : Int) : ∀ c ∈ itoa n, c ≠ 58 := fun c hc e => by
  have := itoa_bytes n c hc
  rw [e] at this
  revert this; decide
theorem text_no44 (x : Int) : ∀ c ∈ text x, c ≠ 44 := fun c hc e => by
  have := text_bytes x c hc
  rw [e] at this
  revert this; decide
theorem text_no58 (x : Int) : ∀ c ∈ text x, c ≠ 58 := fun c hc e => by
  have := text_bytes x c hc
  rw [e] at this
  revert this; decide
theorem text_ne (x : Int) (h : okZ x = true) : text x ≠ [] := by
  obtain ⟨s, rfl, hs⟩ := okZ_cast x h
  have H : ∀ s : Fin 64, text (s.val : Int) ≠ [] := by decide +kernel
  exact H ⟨s, hs⟩

/-! ### joined and cut -/

theorem join_cons2 (x y : List UInt8) (r : List (List UInt8)) (b : UInt8) : join (x :: y :: r) [b] = x ++ b :: join (y :: r) [b] := by
  rw [Lib.join_cons, Lib.join_cons]
  unfold Lib.joinTail
  rw [List.map_cons, List.flatten_cons]
  simp
theorem pieces_join (b : UInt8) : ∀ (L : List (List UInt8)), L ≠ [] → (∀ p ∈ L, ∀ c ∈ p, c ≠ b) → pieces b (join L [b]) = L
  | [], h, _ => absurd rfl h
  | [x], _, h => by rw [Lib.join_one]; exact pieces_none b x (h x (by simp))
  | x :: y :: r, _, h => by
    rw [join_cons2, pieces_run b _ x (h x (by simp)), pieces_join b (y :: r) (by simp) (fun p hp => h p (by simp [hp]))]
theorem join_bytes (b : UInt8) (q : UInt8 → Prop) (hb : q b) : ∀ (L : List (List UInt8)), (∀ p ∈ L, ∀ c ∈ p, q c) → ∀ c ∈ join L [b], q c
  | [], _, c, hc => by rw [Lib.join_nil] at hc; simp at hc
  | [x], h, c, hc => by rw [Lib.join_one] at hc; exact h x (by simp) c hc
  | x :: y :: r, h, c, hc => by
    rw [join_cons2] at hc
    rcases List.mem_append.1 hc with hc | hc
    · exact h x (by simp) c hc
    · rcases List.mem_cons.1 hc with rfl | hc
      · exact hb
      · exact join_bytes b q hb (y :: r) (fun p hp => h p (by simp [hp])) c hc
theorem join_ne (b : UInt8) (x : List UInt8) (r : List (List UInt8)) (h : x ≠ []) : join (x :: r) [b] ≠ [] := by
  rw [Lib.join_cons]
  intro e
  exact h (List.append_eq_nil_iff.1 e).1

/-- The texts of the facets. -/
def facets (xs : List Int) : List UInt8 := join (xs.map text) [44]
/-- The text of a complex. -/
def whole (n : Int) (xs : List Int) : List UInt8 := itoa n ++ 58 :: facets xs

theorem facets_no58 (xs : List Int) : ∀ c ∈ facets xs, c ≠ 58 :=
  join_bytes 44 (fun c => c ≠ 58) (by decide) _ fun p hp c hc => by
    obtain ⟨x, _, rfl⟩ := List.mem_map.1 hp
    exact text_no58 x c hc
theorem facets_pieces (xs : List Int) (h : xs ≠ []) : pieces 44 (facets xs) = xs.map text :=
  pieces_join 44 _ (by simpa using h) fun p hp c hc => by
    obtain ⟨x, _, rfl⟩ := List.mem_map.1 hp
    exact text_no44 x c hc
theorem facets_ne (xs : List Int) (h : xs ≠ []) (ho : allOk xs = true) : facets xs ≠ [] := by
  match xs, h, ho with
  | x :: r, _, ho =>
    unfold facets
    rw [List.map_cons]
    exact join_ne 44 _ _ (text_ne x (by unfold allOk at ho; exact List.all_eq_true.1 ho x (by simp)))
theorem whole_pieces (n : Int) (xs : List Int) : pieces 58 (whole n xs) = [itoa n, facets xs] := by
  unfold whole
  rw [pieces_run 58 _ _ (itoa_no n), pieces_none 58 _ (facets_no58 xs)]

/-! ### spec's way -/

def asInt (s : Nat) : Int := s

/-- The sets of a list of texts, where each is one. -/
def specSets (l : List UInt8) : Option (List Int) := if l = [] then some [] else (pieces 44 l).mapM fun p => (parseS p).map asInt
/-- spec's ParseComplex. -/
def specP (l : List UInt8) : Option (Int × List Int) :=
  match pieces 58 l with
  | [p0, p1] => (specSets p1).bind fun xs => (Num.readF 12 p0).bind fun n => if isC n xs = true then some (n, xs) else none
  | _ => none

theorem mapM_texts : ∀ (L : List (List UInt8)) (xs : List Int), (L.mapM fun p => (parseS p).map asInt) = some xs → L = xs.map text
  | [], xs, h => by
    have : xs = [] := by simpa using h.symm
    subst this; rfl
  | p :: L, xs, h => by
    rw [List.mapM_cons] at h
    simp only [bind, pure, Option.bind_eq_some_iff, Option.map_eq_some_iff, Option.some.injEq] at h
    obtain ⟨_, ⟨s, hs, rfl⟩, ys, hy, rfl⟩ := h
    rw [List.map_cons, mapM_texts L ys hy, show text (asInt s) = p from (parseS_sound p s hs).2]
theorem texts_mapM : ∀ (xs : List Int), allOk xs = true → ((xs.map text).mapM fun p => (parseS p).map asInt) = some xs
  | [], _ => rfl
  | x :: xs, h => by
    have h' : okZ x = true ∧ allOk xs = true := by
      unfold allOk at *; rw [List.all_cons, Bool.and_eq_true] at h; exact h
    obtain ⟨s, rfl, hs⟩ := okZ_cast x h'.1
    rw [List.map_cons, List.mapM_cons, texts_mapM xs h'.2, show parseS (text (s : Int)) = some s from parseS_text ⟨s, hs⟩]
    rfl

theorem specSets_iff (l : List UInt8) (xs : List Int) (ho : allOk xs = true) : specSets l = some xs ↔ facets xs = l := by
  unfold specSets
  constructor
  · intro h
    split at h
    · rename_i e
      have : xs = [] := by simpa using h.symm
      subst this; rw [e]; rfl
    · have := mapM_texts _ _ h
      unfold facets
      rw [← this]; exact join_pieces 44 l
  · rintro rfl
    by_cases hx : xs = []
    · subst hx; rfl
    · rw [if_neg (facets_ne xs hx ho), facets_pieces xs hx]
      exact texts_mapM xs ho

theorem two_pieces {b : UInt8} {l p0 p1 : List UInt8} (h : pieces b l = [p0, p1]) : l = p0 ++ b :: p1 := by
  have := join_pieces b l
  rw [h, join_cons2, Lib.join_one] at this
  exact this.symm

theorem specP_iff (l : List UInt8) (n : Int) (xs : List Int) : specP l = some (n, xs) ↔ isC n xs = true ∧ whole n xs = l := by
  constructor
  · intro h
    unfold specP at h
    split at h
    · rename_i p0 p1 hp
      simp only [Option.bind_eq_some_iff] at h
      obtain ⟨ys, h1, m, h2, h3⟩ := h
      split at h3
      · rename_i hc
        cases h3
        refine ⟨hc, ?_⟩
        have e1 := (specSets_iff p1 xs (isC_ok hc)).1 h1
        have e0 := ((Num.readF_iff 11 p0 n).1 h2).1
        unfold whole
        rw [e1, e0]; exact (two_pieces hp).symm
      · cases h3
    · cases h
  · rintro ⟨hc, rfl⟩
    unfold specP
    rw [whole_pieces]
    have hn := isC_n hc
    have h0 : Num.readF 12 (itoa n) = some n := (Num.readF_iff 11 _ n).2 ⟨rfl, by
      have : (10 : Nat) ^ (11 + 1) = 1000000000000 := by decide
      omega⟩
    simp only [(specSets_iff (facets xs) xs (isC_ok hc)).2 rfl, h0, Option.bind_some, if_pos hc]

/-! ### impl's way -/

/-- The sets among a list of texts. -/
def implSets (L : List (List UInt8)) : List Int := L.filterMap fun p => (parse p).map asInt
/-- impl's number. -/
def implN (l : List UInt8) : Int := (Num.numberF l).getD 0
/-- impl's ParseComplex. -/
def implP (l : List UInt8) : Option (Int × List Int) :=
  (made (implN (Lib.cut l [58]).1) (implSets (pieces 44 (Lib.cut l [58]).2.1))).filter fun c => decide (whole c.1 c.2 = l)

theorem implSets_texts : ∀ (xs : List Int), allOk xs = true → implSets (xs.map text) = xs
  | [], _ => rfl
  | x :: xs, h => by
    have h' : okZ x = true ∧ allOk xs = true := by
      unfold allOk at *; rw [List.all_cons, Bool.and_eq_true] at h; exact h
    obtain ⟨s, rfl, hs⟩ := okZ_cast x h'.1
    have ih := implSets_texts xs h'.2
    unfold implSets at *
    rw [List.map_cons, List.filterMap_cons, parse_same, show parseS (text (s : Int)) = some s from parseS_text ⟨s, hs⟩, Option.map_some]
    simp only [ih]
    rfl
theorem implSets_facets (xs : List Int) (ho : allOk xs = true) : implSets (pieces 44 (facets xs)) = xs := by
  by_cases hx : xs = []
  · subst hx
    show implSets [[]] = []
    decide
  · rw [facets_pieces xs hx]; exact implSets_texts xs ho
theorem cut_whole (n : Int) (xs : List Int) : Lib.cut (whole n xs) [58] = (itoa n, facets xs, true) := by
  have hi : Lib.index (whole n xs) [58] = ((itoa n).length : Int) := by
    rw [Lib.index_one]
    have hb : (whole n xs)[(itoa n).length]? = some 58 := by unfold whole; rw [List.getElem?_append_right (Nat.le_refl _)]; simp
    by_cases hm : Lib.indexByte (whole n xs) 58 = -1
    · exact absurd hb (Lib.indexByte_none hm _)
    · have hge := Lib.indexByte_ge (whole n xs) 58
      obtain ⟨i, hi⟩ : ∃ i : Nat, Lib.indexByte (whole n xs) 58 = i := ⟨(Lib.indexByte (whole n xs) 58).toNat, by omega⟩
      obtain ⟨h1, h2⟩ := Lib.indexByte_some hi
      rw [hi]
      congr 1
      rcases Nat.lt_trichotomy i (itoa n).length with h | h | h
      · exfalso
        unfold whole at h1
        rw [List.getElem?_append_left h] at h1
        exact itoa_no n 58 (List.mem_of_getElem? h1) rfl
      · exact h
      · exact absurd hb (h2 _ h)
  unfold Lib.cut
  rw [if_pos (by rw [hi]; omega), hi]
  unfold whole
  simp

theorem implN_itoa (n : Int) (h1 : 1 ≤ n) (h2 : n ≤ 6) : implN (itoa n) = n := by
  unfold implN
  have hp : (10 : Nat) ^ (5 + 1) = 1000000 := by decide
  have hr : Num.readF 6 (itoa n) = some n := (Num.readF_iff 5 (itoa n) n).2 ⟨rfl, by omega⟩
  rw [Num.numberF_readF, hr]
  rw [Option.filter_some, if_pos (by simpa using (by omega : (0 : Int) ≤ n))]
  rfl
theorem implP_iff (l : List UInt8) (n : Int) (xs : List Int) : implP l = some (n, xs) ↔ isC n xs = true ∧ whole n xs = l := by
  unfold implP
  rw [Option.filter_eq_some_iff]
  constructor
  · rintro ⟨h, hw⟩
    refine ⟨?_, of_decide_eq_true hw⟩
    cases hs : setsOf (implN (Lib.cut l [58]).1) (implSets (pieces 44 (Lib.cut l [58]).2.1)) with
    | false => rw [made_no hs] at h; cases h
    | true =>
      rw [made_yes hs] at h
      cases h
      exact made_isC hs
  · rintro ⟨hc, rfl⟩
    refine ⟨?_, decide_eq_true rfl⟩
    have hn := isC_n hc
    rw [cut_whole, implN_itoa n hn.1 hn.2, implSets_facets xs (isC_ok hc)]
    rw [made_yes ((setsOf_iff n xs).2 ⟨(inB_iff _ _ _).2 hn, isC_le hc, isC_set hc⟩), maximal_self hc]
theorem parse_both (l : List UInt8) : implP l = specP l := by
  apply Option.ext
  rintro ⟨n, xs⟩
  rw [implP_iff, specP_iff]

/-! ### against ComplexText -/

theorem cxText_data (n : Int) (xs : List Int) (h : isC n xs = true) : (cxText n xs).data.toList = whole n xs := by
  unfold cxText whole facets setsText
  rw [if_pos h]
  have e : joined (txts xs xs.length) ⟨#[44]⟩ (txts xs xs.length).length = join (xs.map text) [44] := by
    unfold joined txts
    rw [List.take_length, List.take_length, List.map_map]
    congr 1
  rw [e]
  simp [ByteArray.data_append]

end Go.Proofs.YtenpcjmhlnalcaaGreat

/-! WALKS: ParseSet, by impl and by spec. -/

namespace Go.Proofs.YtenpcjmhlnalcaaGreat
open Go.RowKit
open Sets

/-- The first k bytes. -/
def pre (s : ByteArray) (k : Nat) : List UInt8 := s.data.toList.take k
theorem pre_next (s : ByteArray) (k : Nat) (h : k < s.size) : pre s (k + 1) = pre s k ++ [s[k]] := by
  unfold pre
  rw [List.take_succ_eq_append_getElem (by simpa using h)]; rfl
theorem pre_all (s : ByteArray) : pre s s.size = s.data.toList := by
  unfold pre
  apply List.take_of_length_le
  rw [Array.length_toList]
  exact Nat.le_refl _

theorem or_bit (g i : Nat) (hg : g < 64) (hi : i < 6) : bits BinOp.or IntKind.i64 (g : Int) (wrap64 (2 ^ i)) = ((g ||| 2 ^ i : Nat) : Int) := by
  have : ∀ t : Fin 64, ∀ u : Fin 6, bits BinOp.or IntKind.i64 (t.val : Int) (wrap64 (2 ^ u.val)) = ((t.val ||| 2 ^ u.val : Nat) : Int) := by decide +kernel
  exact this ⟨g, hg⟩ ⟨i, hi⟩
theorem bytes_eq {a b : ByteArray} (h : a.data.toList = b.data.toList) : a = b := by
  cases a; cases b; congr 1; exact Array.toList_inj.1 h
theorem str_ne {a b : ByteArray} (h : ¬ a = b) : (a.toList == b.toList) = false := by
  rw [beq_eq_false_iff_ne, ByteArray.toList_eq, ByteArray.toList_eq]
  intro e; exact h (bytes_eq e)
theorem parse_yes (l : List UInt8) (h : text (gather l : Int) = l) : parse l = some (gather l) := by unfold parse; rw [if_pos h]
theorem parse_no (l : List UInt8) (h : ¬ text (gather l : Int) = l) : parse l = none := by unfold parse; rw [if_neg h]

theorem shr_ne (r i : Nat) : ((r : Int) / 2 ^ i != 0) = decide (¬ r < 2 ^ i) := by
  have e : (r : Int) / 2 ^ i = ((r / 2 ^ i : Nat) : Int) := by simp
  have hp : 0 < 2 ^ i := Nat.two_pow_pos i
  rw [e, Bool.eq_iff_iff, decide_eq_true_iff, bne_iff_ne]
  constructor
  · intro h hlt
    rw [Nat.div_eq_of_lt hlt] at h
    exact h rfl
  · intro h e0
    apply h
    have : r / 2 ^ i = 0 := by omega
    exact (Nat.div_eq_zero_iff_lt hp).1 this
theorem add_bit (r i : Nat) (hr : r < 64) (hi : i < 6) : wrap64 ((r : Int) + wrap64 (2 ^ i)) = ((r + 2 ^ i : Nat) : Int) := by
  have : ∀ t : Fin 64, ∀ u : Fin 6, wrap64 ((t.val : Int) + wrap64 (2 ^ u.val)) = ((t.val + 2 ^ u.val : Nat) : Int) := by decide +kernel
  exact this ⟨r, hr⟩ ⟨i, hi⟩
theorem drop_at (s : ByteArray) (k : Nat) (h : k < s.size) : s.data.toList.drop k = s[k] :: s.data.toList.drop (k + 1) := by
  rw [List.drop_eq_getElem_cons (by simpa using h)]; rfl
theorem drop_all (s : ByteArray) : s.data.toList.drop s.size = [] := by
  apply List.drop_eq_nil_of_le
  rw [Array.length_toList]
  exact Nat.le_refl _

set_option maxRecDepth 100000 in
set_option maxHeartbeats 2000000 in
theorem specParse_any (s : ByteArray) (hs : s.size ≤ 9223372036854775807) (w : World) : Calls Tryz.prog 105 #[.string s] w fun e w' => e = .returned (.tuple #[.int .i64 (((parseS s.data.toList).getD 0 : Nat) : Int), .bool (parseS s.data.toList).isSome]) ∧ Below w.heap.size w w' := by
  by_cases h0 : s = ⟨#[]⟩
  · subst h0
    go_enter Tryz.func105, Tryz.ntmps105
    go_wp2
    refine wp_loop_rounds 1 ?_
    rw [rounds_succ]
    go_wp2
    go_ret2
    exact ⟨rfl, Below.refl _ _⟩
  · by_cases h1 : s = ⟨#[45]⟩
    · subst h1
      clear h0
      go_enter Tryz.func105, Tryz.ntmps105
      go_wp2
      refine wp_loop_rounds 1 ?_
      rw [rounds_succ]
      go_wp2
      go_ret2
      exact ⟨rfl, Below.refl _ _⟩
    · have hp : parseS s.data.toList = scan s.data.toList 0 := by
        unfold parseS
        rw [if_neg (fun e => h0 (bytes_eq e)), if_neg (fun e => h1 (bytes_eq e))]
      have hn0 : (s.toList == []) = false := by have h := str_ne h0; rw [ByteArray.toList_eq (⟨#[]⟩ : ByteArray)] at h; exact h
      have hn1 : (s.toList == [45]) = false := by have h := str_ne h1; rw [ByteArray.toList_eq (⟨#[45]⟩ : ByteArray)] at h; exact h
      have HP := Lib.hid hp
      clear hp h0 h1
      go_enter Tryz.func105, Tryz.ntmps105
      go_wp2
      go_loop [4, 5] (fun g i => ∃ k r : Nat, k ≤ s.size ∧ i = .int .i64 (k : Int) ∧ g = .int .i64 (r : Int) ∧ r < 64 ∧ scan s.data.toList 0 = scan (s.data.toList.drop k) r) (fun _ i => s.size - (intOf i).toNat)
      case atStart => exact ⟨0, 0, Nat.zero_le _, rfl, rfl, by omega, rfl⟩
      case round =>
        obtain ⟨k, r, hk, rfl, rfl, hr, he⟩ := hrel
        have HE := Lib.hid he
        clear he
        by_cases hlt : k < s.size
        · have hd := drop_at s k hlt
          have HD := Lib.hid hd
          clear hd
          have hcb : s[k].toNat ≤ 255 := by have := s[k].toNat_lt; omega
          by_cases hin : 97 ≤ s[k].toNat ∧ s[k].toNat < 103
          · obtain ⟨h1, h2⟩ := hin
            go_wp2_with fail
            refine (in_b _ _ _ true (inB_true (by omega) (by omega)) _).mono ?_
            rintro e w' ⟨rfl, rfl⟩
            by_cases hr2 : r < 2 ^ (s[k].toNat - 97)
            · have hq := (shr_ne r (s[k].toNat - 97)).trans (decide_eq_false (not_not_intro hr2))
              have hsc : scan (s[k] :: s.data.toList.drop (k + 1)) r = scan (s.data.toList.drop (k + 1)) (r + 2 ^ (s[k].toNat - 97)) := by
                conv => lhs; unfold scan
                rw [if_pos ⟨h1, h2, hr2⟩]
              have HS := Lib.hid hsc
              have HR := Lib.hid hr2
              clear hsc hr2
              go_wp2
              go_round
              case rel =>
                have hpw : 2 ^ (s[k].toNat - 97) ≤ 32 := Nat.pow_le_pow_right (by decide) (show s[k].toNat - 97 ≤ 5 by omega)
                have hlt2 := HR.out
                exact ⟨k + 1, r + 2 ^ (s[k].toNat - 97), by omega, by go_num, by rw [add_bit r _ hr (by omega)], by omega, by rw [HE.out, HD.out, HS.out]⟩
              case measure => simp [intOf]; omega
            · have hq := (shr_ne r (s[k].toNat - 97)).trans (decide_eq_true hr2)
              have hsc : scan (s[k] :: s.data.toList.drop (k + 1)) r = none := by
                unfold scan; rw [if_neg (fun h => hr2 h.2.2)]
              have HS := Lib.hid hsc
              clear hsc hr2
              go_wp2
              go_ret2
              refine ⟨?_, Below.refl _ _⟩
              rw [HP.out, HE.out, HD.out, HS.out]
              rfl
          · go_wp2_with fail
            refine (in_b _ _ _ false (inB_false (by omega)) _).mono ?_
            rintro e w' ⟨rfl, rfl⟩
            go_wp2
            go_ret2
            refine ⟨?_, Below.refl _ _⟩
            have : scan (s[k] :: s.data.toList.drop (k + 1)) r = none := by
              unfold scan; rw [if_neg (by omega)]
            rw [HP.out, HE.out, HD.out, this]
            rfl
        · have E := Lib.hid (show k = s.size by omega)
          go_wp2
          go_ret2
          refine ⟨?_, Below.refl _ _⟩
          rw [HP.out, HE.out, E.out, drop_all]
          rfl

end Go.Proofs.YtenpcjmhlnalcaaGreat

/-! WALKS: the laws' own helpers on slices of strings: equal rows, the marks, what is held. -/

namespace Go.Proofs.YtenpcjmhlnalcaaGreat
open Go.RowKit

/-- The mark of a number from 1 on. -/
def mk (k : Nat) : ByteArray := ⟨(109 :: Lib.decDigits k).toArray⟩
def marks (k n : Nat) : List ByteArray := (List.range n).map fun j => mk (k + j)
theorem marks_length (k n : Nat) : (marks k n).length = n := by simp [marks]
theorem marks_at (k n j : Nat) (h : j < n) : (marks k n).getD j ByteArray.empty = mk (k + j) := by
  simp [marks, List.getD, h]

/-! ### as the laws call them -/

end Go.Proofs.YtenpcjmhlnalcaaGreat
