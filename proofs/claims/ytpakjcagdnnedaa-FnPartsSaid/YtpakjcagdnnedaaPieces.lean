/-
  PLAIN: a text cut at every occurrence of one byte; the library's cut at a separator of one byte is the same.
-/
import Derived.Lib.Split
import Derived.Lib.SplitLaws
import Derived.Lib.IndexBytes
import Derived.Lib.IndexLaws
import Derived.Lib.CountLaws
import Derived.Lib.Join
namespace Go.Proofs.Ytpakjcagdnnedaa.Pieces
open Go.Lib

/-- p laid ahead of the first piece. -/
def onto (p : List UInt8) : List (List UInt8) → List (List UInt8)
  | h :: t => (p ++ h) :: t
  | [] => [p]

def pieces (b : UInt8) : List UInt8 → List (List UInt8)
  | [] => [[]]
  | c :: r => if c = b then [] :: pieces b r else onto [c] (pieces b r)

theorem onto_onto (p q : List UInt8) (x : List (List UInt8)) : onto p (onto q x) = onto (p ++ q) x := by
  cases x with
  | nil => rfl
  | cons h t => simp [onto]
theorem onto_nil (x : List (List UInt8)) (h : x ≠ []) : onto [] x = x := by
  cases x with
  | nil => exact absurd rfl h
  | cons h t => rfl
theorem pieces_ne (b : UInt8) (l : List UInt8) : pieces b l ≠ [] := by
  cases l with
  | nil => simp [pieces]
  | cons c r =>
    unfold pieces
    split
    · simp
    · cases pieces b r <;> simp [onto]
theorem pieces_nil (b : UInt8) : pieces b [] = [[]] := rfl
theorem pieces_hit (b : UInt8) (r : List UInt8) : pieces b (b :: r) = [] :: pieces b r := by
  rw [pieces, if_pos rfl]
theorem pieces_miss (b c : UInt8) (r : List UInt8) (h : c ≠ b) : pieces b (c :: r) = onto [c] (pieces b r) := by
  rw [pieces, if_neg h]
theorem pieces_length (b : UInt8) (l : List UInt8) : (pieces b l).length ≤ l.length + 1 := by
  induction l with
  | nil => simp [pieces]
  | cons c r ih =>
    unfold pieces
    split
    · simp; omega
    · have : (onto [c] (pieces b r)).length = (pieces b r).length := by
        have := pieces_ne b r
        cases h : pieces b r with
        | nil => exact absurd h this
        | cons x y => rfl
      simp; omega

/-- A run without the byte, then the byte, then the rest. -/
theorem pieces_run (b : UInt8) (r : List UInt8) : ∀ p : List UInt8, (∀ c ∈ p, c ≠ b) → pieces b (p ++ b :: r) = p :: pieces b r := by
  intro p
  induction p with
  | nil => intro _; exact pieces_hit b r
  | cons c p ih =>
    intro h
    rw [List.cons_append, pieces_miss b c _ (h c (by simp)), ih (fun x hx => h x (by simp [hx]))]
    rfl
theorem pieces_none (b : UInt8) : ∀ p : List UInt8, (∀ c ∈ p, c ≠ b) → pieces b p = [p] := by
  intro p
  induction p with
  | nil => intro _; rfl
  | cons c p ih =>
    intro h
    rw [pieces_miss b c _ (h c (by simp)), ih (fun x hx => h x (by simp [hx]))]
    rfl

theorem split_pieces (b : UInt8) : ∀ (k : Nat) (l : List UInt8), l.length ≤ k → splitK [b] 0 (count l [b]) l = pieces b l := by
  intro k
  induction k with
  | zero =>
    intro l h
    obtain rfl : l = [] := List.eq_nil_of_length_eq_zero (by omega)
    have : index [] [b] = -1 := by rw [index_one]; rfl
    rw [count_miss this]; rfl
  | succ k ih =>
    intro l h
    by_cases hm : indexByte l b = -1
    · have hi : index l [b] = -1 := by rw [index_one]; exact hm
      rw [count_miss hi, pieces_none b l]
      · rfl
      · intro c hc e
        obtain ⟨j, hj⟩ := List.mem_iff_getElem?.1 hc
        exact indexByte_none hm j (by rw [hj, e])
    · have hge := indexByte_ge l b
      obtain ⟨i, hi⟩ : ∃ i : Nat, indexByte l b = i := ⟨(indexByte l b).toNat, by omega⟩
      have hix : index l [b] = i := by rw [index_one]; exact hi
      obtain ⟨h1, h2⟩ := indexByte_some hi
      have hlt : i < l.length := (List.getElem?_eq_some_iff.1 h1).1
      have hsplit : l = l.take i ++ b :: l.drop (i + 1) := by
        have e := List.take_append_drop i l
        rw [List.drop_eq_getElem_cons hlt] at e
        have : l[i] = b := (List.getElem?_eq_some_iff.1 h1).2
        rw [this] at e
        exact e.symm
      rw [count_hit (by simp) hix, Nat.add_comm 1]
      have hne : ¬ (index l [b] == -1) = true := by rw [hix]; simp
      rw [splitK, if_neg hne, hix]
      show l.take (i + 0) :: splitK [b] 0 (count (l.drop (i + 1)) [b]) (l.drop (i + 1)) = pieces b l
      rw [ih (l.drop (i + 1)) (by rw [List.length_drop]; omega), Nat.add_zero]
      conv => rhs; rw [hsplit]
      rw [pieces_run]
      intro c hc e
      obtain ⟨j, hj⟩ := List.mem_iff_getElem?.1 hc
      have hj2 : j < i := by
        have := (List.getElem?_eq_some_iff.1 hj).1
        rw [List.length_take] at this
        omega
      rw [List.getElem?_take, if_pos hj2] at hj
      exact h2 j hj2 (by rw [hj, e])

/-- The pieces as strings. -/
def strs (b : UInt8) (s : ByteArray) : List ByteArray := (pieces b s.data.toList).map fun l => ⟨l.toArray⟩

theorem strs_length (b : UInt8) (s : ByteArray) : (strs b s).length ≤ s.size + 1 := by
  unfold strs
  rw [List.length_map]
  have := pieces_length b s.data.toList
  rw [Array.length_toList] at this
  exact this
theorem strs_ne (b : UInt8) (s : ByteArray) : (strs b s).length ≠ 0 := by
  unfold strs
  rw [List.length_map]
  have := pieces_ne b s.data.toList
  intro h
  exact this (List.eq_nil_of_length_eq_zero h)

theorem of_data (xs : List ByteArray) (ys : List (List UInt8)) (h : xs.map (·.data.toList) = ys) : xs = ys.map fun l => ⟨l.toArray⟩ := by
  subst h
  rw [List.map_map]
  conv => lhs; rw [← List.map_id xs]
  apply List.map_congr_left
  intro x _
  rfl

theorem splitB_strs (b : UInt8) (s : ByteArray) : splitB ⟨#[b]⟩ 0 (countB s ⟨#[b]⟩) s = strs b s := by
  unfold strs
  apply of_data
  rw [splitB_data]
  exact split_pieces b _ s.data.toList (Nat.le_refl _)
theorem countB_strs (b : UInt8) (s : ByteArray) : countB s ⟨#[b]⟩ + 1 = (strs b s).length := by
  rw [← splitB_strs, splitB_all ⟨#[b]⟩ (Nat.le_refl 1) 0 _ s rfl]

/-! ### the loop -/

/-- What the loop holds when it comes to place k, the open piece beginning at f. -/
def Inv (b : UInt8) (l : List UInt8) (f k : Nat) (done : List (List UInt8)) : Prop :=
  if k = l.length + 1 then done = pieces b l else pieces b l = done ++ onto ((l.drop f).take (k - f)) (pieces b (l.drop k))

theorem inv_start (b : UInt8) (l : List UInt8) : Inv b l 0 0 [] := by
  unfold Inv
  rw [if_neg (by omega), List.nil_append]
  simp [onto_nil _ (pieces_ne b l)]

theorem inv_hit (b : UInt8) (l : List UInt8) (f k : Nat) (done : List (List UInt8)) (hk : k < l.length) (hb : l[k] = b) (h : Inv b l f k done) :
    Inv b l (k + 1) (k + 1) (done ++ [(l.drop f).take (k - f)]) := by
  unfold Inv at h ⊢
  rw [if_neg (by omega)] at h ⊢
  rw [h, List.drop_eq_getElem_cons hk, hb, pieces_hit, Nat.sub_self, List.take_zero, onto_nil _ (pieces_ne _ _)]
  simp [onto]

theorem inv_end (b : UInt8) (l : List UInt8) (f : Nat) (done : List (List UInt8)) (h : Inv b l f l.length done) (g : Nat) :
    Inv b l g (l.length + 1) (done ++ [(l.drop f).take (l.length - f)]) := by
  unfold Inv at h ⊢
  rw [if_neg (by omega)] at h
  rw [if_pos rfl, h, List.drop_length, pieces_nil]
  simp [onto]

theorem inv_skip (b : UInt8) (l : List UInt8) (f k : Nat) (done : List (List UInt8)) (hf : f ≤ k) (hk : k < l.length) (hb : l[k] ≠ b) (h : Inv b l f k done) :
    Inv b l f (k + 1) done := by
  unfold Inv at h ⊢
  rw [if_neg (by omega)] at h ⊢
  rw [h, List.drop_eq_getElem_cons hk, pieces_miss b _ _ hb, onto_onto]
  congr 2
  rw [show k + 1 - f = (k - f) + 1 by omega, List.take_succ_eq_append_getElem (by rw [List.length_drop]; omega), List.getElem_drop]
  congr 3
  omega

theorem inv_done (b : UInt8) (l : List UInt8) (f : Nat) (done : List (List UInt8)) (h : Inv b l f (l.length + 1) done) : done = pieces b l := by
  unfold Inv at h
  rwa [if_pos rfl] at h

/-! ### joined again -/

theorem join_pieces (b : UInt8) (l : List UInt8) : join (pieces b l) [b] = l := by
  induction l with
  | nil => rw [pieces_nil, join_one]
  | cons c r ih =>
    have hne := pieces_ne b r
    match hp : pieces b r with
    | [] => exact absurd hp hne
    | x :: y =>
      rw [hp] at ih
      rw [join_cons] at ih
      by_cases h : c = b
      · subst h
        rw [pieces_hit, hp, join_cons]
        unfold joinTail at ih ⊢
        rw [List.map_cons, List.flatten_cons, List.nil_append, List.append_assoc, ih]
        rfl
      · rw [pieces_miss b c r h, hp]
        unfold onto
        rw [join_cons, List.append_assoc, ih]
        rfl

theorem pieces_free (b : UInt8) (l : List UInt8) : ∀ p ∈ pieces b l, ∀ c ∈ p, c ≠ b := by
  induction l with
  | nil => intro p hp c hc; simp [pieces_nil] at hp; subst hp; simp at hc
  | cons d r ih =>
    intro p hp c hc
    by_cases h : d = b
    · subst h
      rw [pieces_hit] at hp
      rcases List.mem_cons.1 hp with rfl | hp
      · simp at hc
      · exact ih p hp c hc
    · rw [pieces_miss b d r h] at hp
      have hne := pieces_ne b r
      match hq : pieces b r with
      | [] => exact absurd hq hne
      | x :: y =>
        rw [hq] at hp ih
        unfold onto at hp
        rcases List.mem_cons.1 hp with rfl | hp
        · rcases List.mem_append.1 hc with hc | hc
          · simp at hc; subst hc; exact h
          · exact ih x (by simp) c hc
        · exact ih p (by simp [hp]) c hc

theorem strs_piece (b : UInt8) (s : ByteArray) (j : Nat) (hj : j < (strs b s).length) : (strs b ((strs b s).getD j ByteArray.empty)).length = 1 := by
  have hmem : (strs b s).getD j ByteArray.empty ∈ strs b s := by
    rw [List.getD, List.getElem?_eq_getElem hj]; exact List.getElem_mem hj
  generalize (strs b s).getD j ByteArray.empty = x at hmem
  unfold strs at hmem
  obtain ⟨p, hp, rfl⟩ := List.mem_map.1 hmem
  unfold strs
  rw [List.length_map, pieces_none b _ (pieces_free b _ p hp)]
  rfl

theorem pieces_sum (b : UInt8) (l : List UInt8) : ((pieces b l).map List.length).sum ≤ l.length := by
  induction l with
  | nil => simp [pieces_nil]
  | cons c r ih =>
    by_cases h : c = b
    · subst h
      rw [pieces_hit]; simp; omega
    · rw [pieces_miss b c r h]
      have hne := pieces_ne b r
      match hq : pieces b r with
      | [] => exact absurd hq hne
      | x :: y =>
        rw [hq] at ih
        unfold onto
        simp at ih ⊢
        omega

theorem strs_sizes (b : UInt8) (s : ByteArray) : ((strs b s).map ByteArray.size).sum ≤ s.size := by
  have h := pieces_sum b s.data.toList
  rw [Array.length_toList] at h
  unfold strs
  rw [List.map_map]
  have e : (ByteArray.size ∘ fun l : List UInt8 => (⟨l.toArray⟩ : ByteArray)) = List.length := by
    funext l; show l.toArray.size = l.length; simp
  rw [e]; exact h

theorem strs_data (b : UInt8) (s : ByteArray) : (strs b s).map (·.data.toList) = pieces b s.data.toList := by
  unfold strs
  rw [List.map_map]
  conv => rhs; rw [← List.map_id (pieces b s.data.toList)]
  rfl

theorem le_sum : ∀ (l : List Nat) (x : Nat), x ∈ l → x ≤ l.sum
  | [], x, h => by simp at h
  | y :: r, x, h => by
    rcases List.mem_cons.1 h with rfl | h
    · simp
    · have := le_sum r x h; simp; omega

theorem piece_size (b : UInt8) (s : ByteArray) (j : Nat) (hj : j < (strs b s).length) : ((strs b s).getD j ByteArray.empty).size ≤ s.size := by
  have h := strs_sizes b s
  have hmem : ((strs b s).getD j ByteArray.empty).size ∈ (strs b s).map ByteArray.size := by
    rw [List.getD, List.getElem?_eq_getElem hj]; exact List.mem_map.2 ⟨_, List.getElem_mem hj, rfl⟩
  have := le_sum _ _ hmem
  omega

end Go.Proofs.Ytpakjcagdnnedaa.Pieces
