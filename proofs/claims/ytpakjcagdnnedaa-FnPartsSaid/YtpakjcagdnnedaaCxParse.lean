/-
  THE TEXT OF A COMPLEX, read: both ways give the complex whose text it is.
-/
import Derived.Test.YtpakjcagdnnedaaTxt
import Derived.Test.YtpakjcagdnnedaaPieces
import Derived.Test.YtpakjcagdnnedaaWCx6
import Derived.Lib.IndexMore
namespace Go.Proofs.Ytpakjcagdnnedaa
open Go.RowKit
open Sets
open Lib (join itoa)
open Pieces (pieces pieces_run pieces_none join_pieces)

/-! ### bytes of numbers and letters -/

theorem itoa_bytes (n : Int) : ∀ c ∈ itoa n, c.toNat = 45 ∨ (48 ≤ c.toNat ∧ c.toNat ≤ 57) := by
  intro c hc
  have hd : ∀ u, ∀ c ∈ Lib.decDigits u, 48 ≤ c.toNat ∧ c.toNat ≤ 57 := fun u c hc => by
    have := Num.decDigits_all u
    unfold Num.allDig at this
    exact (Num.isDig_iff c).1 (List.all_eq_true.1 this c hc)
  rcases Num.itoa_cases n with ⟨u, _, _, h⟩ | ⟨u, _, h⟩
  · rw [h] at hc
    rcases List.mem_cons.1 hc with rfl | hc
    · exact Or.inl rfl
    · exact Or.inr (hd u c hc)
  · rw [h] at hc
    exact Or.inr (hd u c hc)
theorem text_bytes (x : Int) : ∀ c ∈ text x, c.toNat = 45 ∨ (97 ≤ c.toNat ∧ c.toNat ≤ 102) := by
  intro c hc
  cases h : okZ x with
  | false => unfold text at hc; rw [if_neg (by rw [h]; simp)] at hc; simp at hc
  | true =>
    obtain ⟨s, rfl, hs⟩ := okZ_cast x h
    have H : ∀ s : Fin 64, ∀ c ∈ text (s.val : Int), c.toNat = 45 ∨ (97 ≤ c.toNat ∧ c.toNat ≤ 102) := by decide +kernel
    exact H ⟨s, hs⟩ c hc
theorem itoa_no (n : Int) : ∀ c ∈ itoa n, c ≠ 58 := fun c hc e => by
  have := itoa_bytes n c hc
  rw [e] at this
  revert this; decide
theorem text_no44 (x : Int) : ∀ c ∈ text x, c ≠ 44 := fun c hc e => by
  have := text_bytes x c hc
  rw [e] at this
  revert this; decide
theorem text_no58 (x : Int) : ∀ c ∈ text x, c ≠ 58 := fun c hc e => by
  have := text_bytes x c hc
  rw [e] at this
  revert this; decide
theorem text_ne (x : Int) (h : okZ x = true) : text x ≠ [] := by
  obtain ⟨s, rfl, hs⟩ := okZ_cast x h
  have H : ∀ s : Fin 64, text (s.val : Int) ≠ [] := by decide +kernel
  exact H ⟨s, hs⟩

/-! ### joined and cut -/

theorem join_cons2 (x y : List UInt8) (r : List (List UInt8)) (b : UInt8) : join (x :: y :: r) [b] = x ++ b :: join (y :: r) [b] := by
  rw [Lib.join_cons, Lib.join_cons]
  unfold Lib.joinTail
  rw [List.map_cons, List.flatten_cons]
  simp
theorem pieces_join (b : UInt8) : ∀ (L : List (List UInt8)), L ≠ [] → (∀ p ∈ L, ∀ c ∈ p, c ≠ b) → pieces b (join L [b]) = L
  | [], h, _ => absurd rfl h
  | [x], _, h => by rw [Lib.join_one]; exact pieces_none b x (h x (by simp))
  | x :: y :: r, _, h => by
    rw [join_cons2, pieces_run b _ x (h x (by simp)), pieces_join b (y :: r) (by simp) (fun p hp => h p (by simp [hp]))]
theorem join_bytes (b : UInt8) (q : UInt8 → Prop) (hb : q b) : ∀ (L : List (List UInt8)), (∀ p ∈ L, ∀ c ∈ p, q c) → ∀ c ∈ join L [b], q c
  | [], _, c, hc => by rw [Lib.join_nil] at hc; simp at hc
  | [x], h, c, hc => by rw [Lib.join_one] at hc; exact h x (by simp) c hc
  | x :: y :: r, h, c, hc => by
    rw [join_cons2] at hc
    rcases List.mem_append.1 hc with hc | hc
    · exact h x (by simp) c hc
    · rcases List.mem_cons.1 hc with rfl | hc
      · exact hb
      · exact join_bytes b q hb (y :: r) (fun p hp => h p (by simp [hp])) c hc
theorem join_ne (b : UInt8) (x : List UInt8) (r : List (List UInt8)) (h : x ≠ []) : join (x :: r) [b] ≠ [] := by
  rw [Lib.join_cons]
  intro e
  exact h (List.append_eq_nil_iff.1 e).1

/-- The texts of the facets. -/
def facets (xs : List Int) : List UInt8 := join (xs.map text) [44]
/-- The text of a complex. -/
def whole (n : Int) (xs : List Int) : List UInt8 := itoa n ++ 58 :: facets xs

theorem facets_no58 (xs : List Int) : ∀ c ∈ facets xs, c ≠ 58 :=
  join_bytes 44 (fun c => c ≠ 58) (by decide) _ fun p hp c hc => by
    obtain ⟨x, _, rfl⟩ := List.mem_map.1 hp
    exact text_no58 x c hc
theorem facets_pieces (xs : List Int) (h : xs ≠ []) : pieces 44 (facets xs) = xs.map text :=
  pieces_join 44 _ (by simpa using h) fun p hp c hc => by
    obtain ⟨x, _, rfl⟩ := List.mem_map.1 hp
    exact text_no44 x c hc
theorem facets_ne (xs : List Int) (h : xs ≠ []) (ho : allOk xs = true) : facets xs ≠ [] := by
  match xs, h, ho with
  | x :: r, _, ho =>
    unfold facets
    rw [List.map_cons]
    exact join_ne 44 _ _ (text_ne x (by unfold allOk at ho; exact List.all_eq_true.1 ho x (by simp)))
theorem whole_pieces (n : Int) (xs : List Int) : pieces 58 (whole n xs) = [itoa n, facets xs] := by
  unfold whole
  rw [pieces_run 58 _ _ (itoa_no n), pieces_none 58 _ (facets_no58 xs)]

/-! ### spec's way -/

def asInt (s : Nat) : Int := s

/-- The sets of a list of texts, where each is one. -/
def specSets (l : List UInt8) : Option (List Int) := if l = [] then some [] else (pieces 44 l).mapM fun p => (parseS p).map asInt
/-- spec's ParseComplex. -/
def specP (l : List UInt8) : Option (Int × List Int) :=
  match pieces 58 l with
  | [p0, p1] => (specSets p1).bind fun xs => (Num.readF 12 p0).bind fun n => if isC n xs = true then some (n, xs) else none
  | _ => none

theorem mapM_texts : ∀ (L : List (List UInt8)) (xs : List Int), (L.mapM fun p => (parseS p).map asInt) = some xs → L = xs.map text
  | [], xs, h => by
    have : xs = [] := by simpa using h.symm
    subst this; rfl
  | p :: L, xs, h => by
    rw [List.mapM_cons] at h
    simp only [bind, pure, Option.bind_eq_some_iff, Option.map_eq_some_iff, Option.some.injEq] at h
    obtain ⟨_, ⟨s, hs, rfl⟩, ys, hy, rfl⟩ := h
    rw [List.map_cons, mapM_texts L ys hy, show text (asInt s) = p from (parseS_sound p s hs).2]
theorem texts_mapM : ∀ (xs : List Int), allOk xs = true → ((xs.map text).mapM fun p => (parseS p).map asInt) = some xs
  | [], _ => rfl
  | x :: xs, h => by
    have h' : okZ x = true ∧ allOk xs = true := by
      unfold allOk at *; rw [List.all_cons, Bool.and_eq_true] at h; exact h
    obtain ⟨s, rfl, hs⟩ := okZ_cast x h'.1
    rw [List.map_cons, List.mapM_cons, texts_mapM xs h'.2, show parseS (text (s : Int)) = some s from parseS_text ⟨s, hs⟩]
    rfl

theorem specSets_iff (l : List UInt8) (xs : List Int) (ho : allOk xs = true) : specSets l = some xs ↔ facets xs = l := by
  unfold specSets
  constructor
  · intro h
    split at h
    · rename_i e
      have : xs = [] := by simpa using h.symm
      subst this; rw [e]; rfl
    · have := mapM_texts _ _ h
      unfold facets
      rw [← this]; exact join_pieces 44 l
  · rintro rfl
    by_cases hx : xs = []
    · subst hx; rfl
    · rw [if_neg (facets_ne xs hx ho), facets_pieces xs hx]
      exact texts_mapM xs ho

theorem two_pieces {b : UInt8} {l p0 p1 : List UInt8} (h : pieces b l = [p0, p1]) : l = p0 ++ b :: p1 := by
  have := join_pieces b l
  rw [h, join_cons2, Lib.join_one] at this
  exact this.symm

theorem specP_iff (l : List UInt8) (n : Int) (xs : List Int) : specP l = some (n, xs) ↔ isC n xs = true ∧ whole n xs = l := by
  constructor
  · intro h
    unfold specP at h
    split at h
    · rename_i p0 p1 hp
      simp only [Option.bind_eq_some_iff] at h
      obtain ⟨ys, h1, m, h2, h3⟩ := h
      split at h3
      · rename_i hc
        cases h3
        refine ⟨hc, ?_⟩
        have e1 := (specSets_iff p1 xs (isC_ok hc)).1 h1
        have e0 := ((Num.readF_iff 11 p0 n).1 h2).1
        unfold whole
        rw [e1, e0]; exact (two_pieces hp).symm
      · cases h3
    · cases h
  · rintro ⟨hc, rfl⟩
    unfold specP
    rw [whole_pieces]
    have hn := isC_n hc
    have h0 : Num.readF 12 (itoa n) = some n := (Num.readF_iff 11 _ n).2 ⟨rfl, by
      have : (10 : Nat) ^ (11 + 1) = 1000000000000 := by decide
      omega⟩
    simp only [(specSets_iff (facets xs) xs (isC_ok hc)).2 rfl, h0, Option.bind_some, if_pos hc]

/-! ### impl's way -/

/-- The sets among a list of texts. -/
def implSets (L : List (List UInt8)) : List Int := L.filterMap fun p => (parse p).map asInt
/-- impl's number. -/
def implN (l : List UInt8) : Int := (Num.numberF l).getD 0
/-- impl's ParseComplex. -/
def implP (l : List UInt8) : Option (Int × List Int) :=
  (made (implN (Lib.cut l [58]).1) (implSets (pieces 44 (Lib.cut l [58]).2.1))).filter fun c => decide (whole c.1 c.2 = l)

theorem implSets_texts : ∀ (xs : List Int), allOk xs = true → implSets (xs.map text) = xs
  | [], _ => rfl
  | x :: xs, h => by
    have h' : okZ x = true ∧ allOk xs = true := by
      unfold allOk at *; rw [List.all_cons, Bool.and_eq_true] at h; exact h
    obtain ⟨s, rfl, hs⟩ := okZ_cast x h'.1
    have ih := implSets_texts xs h'.2
    unfold implSets at *
    rw [List.map_cons, List.filterMap_cons, parse_same, show parseS (text (s : Int)) = some s from parseS_text ⟨s, hs⟩, Option.map_some]
    simp only [ih]
    rfl
theorem implSets_facets (xs : List Int) (ho : allOk xs = true) : implSets (pieces 44 (facets xs)) = xs := by
  by_cases hx : xs = []
  · subst hx
    show implSets [[]] = []
    decide
  · rw [facets_pieces xs hx]; exact implSets_texts xs ho
theorem cut_whole (n : Int) (xs : List Int) : Lib.cut (whole n xs) [58] = (itoa n, facets xs, true) := by
  have hi : Lib.index (whole n xs) [58] = ((itoa n).length : Int) := by
    rw [Lib.index_one]
    have hb : (whole n xs)[(itoa n).length]? = some 58 := by unfold whole; rw [List.getElem?_append_right (Nat.le_refl _)]; simp
    by_cases hm : Lib.indexByte (whole n xs) 58 = -1
    · exact absurd hb (Lib.indexByte_none hm _)
    · have hge := Lib.indexByte_ge (whole n xs) 58
      obtain ⟨i, hi⟩ : ∃ i : Nat, Lib.indexByte (whole n xs) 58 = i := ⟨(Lib.indexByte (whole n xs) 58).toNat, by omega⟩
      obtain ⟨h1, h2⟩ := Lib.indexByte_some hi
      rw [hi]
      congr 1
      rcases Nat.lt_trichotomy i (itoa n).length with h | h | h
      · exfalso
        unfold whole at h1
        rw [List.getElem?_append_left h] at h1
        exact itoa_no n 58 (List.mem_of_getElem? h1) rfl
      · exact h
      · exact absurd hb (h2 _ h)
  unfold Lib.cut
  rw [if_pos (by rw [hi]; omega), hi]
  unfold whole
  simp

theorem implN_itoa (n : Int) (h1 : 1 ≤ n) (h2 : n ≤ 6) : implN (itoa n) = n := by
  unfold implN
  have hp : (10 : Nat) ^ (5 + 1) = 1000000 := by decide
  have hr : Num.readF 6 (itoa n) = some n := (Num.readF_iff 5 (itoa n) n).2 ⟨rfl, by omega⟩
  rw [Num.numberF_readF, hr]
  rw [Option.filter_some, if_pos (by simpa using (by omega : (0 : Int) ≤ n))]
  rfl
theorem implP_iff (l : List UInt8) (n : Int) (xs : List Int) : implP l = some (n, xs) ↔ isC n xs = true ∧ whole n xs = l := by
  unfold implP
  rw [Option.filter_eq_some_iff]
  constructor
  · rintro ⟨h, hw⟩
    refine ⟨?_, of_decide_eq_true hw⟩
    cases hs : setsOf (implN (Lib.cut l [58]).1) (implSets (pieces 44 (Lib.cut l [58]).2.1)) with
    | false => rw [made_no hs] at h; cases h
    | true =>
      rw [made_yes hs] at h
      cases h
      exact made_isC hs
  · rintro ⟨hc, rfl⟩
    refine ⟨?_, decide_eq_true rfl⟩
    have hn := isC_n hc
    rw [cut_whole, implN_itoa n hn.1 hn.2, implSets_facets xs (isC_ok hc)]
    rw [made_yes ((setsOf_iff n xs).2 ⟨(inB_iff _ _ _).2 hn, isC_le hc, isC_set hc⟩), maximal_self hc]
theorem parse_both (l : List UInt8) : implP l = specP l := by
  apply Option.ext
  rintro ⟨n, xs⟩
  rw [implP_iff, specP_iff]

/-! ### against ComplexText -/

theorem cxText_data (n : Int) (xs : List Int) (h : isC n xs = true) : (cxText n xs).data.toList = whole n xs := by
  unfold cxText whole facets setsText
  rw [if_pos h]
  have e : joined (txts xs xs.length) ⟨#[44]⟩ (txts xs xs.length).length = join (xs.map text) [44] := by
    unfold joined txts
    rw [List.take_length, List.take_length, List.map_map]
    congr 1
  rw [e]
  simp [ByteArray.data_append]

end Go.Proofs.Ytpakjcagdnnedaa
