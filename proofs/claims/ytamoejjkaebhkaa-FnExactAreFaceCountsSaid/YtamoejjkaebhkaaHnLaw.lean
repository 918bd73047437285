/-
  H NUMBERS, of no program: what chapter 10's law says of them.
-/
import Derived.Test.YtamoejjkaebhkaaHn
namespace Go.Proofs.Ytamoejjkaebhkaa.Hn
open Sets

theorem all_few : ∀ k : Fin 7, cnt k.val (ord fun _ => true) ≤ 20 := by decide +kernel
theorem cnt_few (n : Int) (xs : List Int) (k : Nat) : cnt k (faces n xs) ≤ 20 := by
  unfold faces
  split
  · rcases Nat.lt_or_ge k 7 with h | h
    · refine Nat.le_trans ?_ (all_few ⟨k, h⟩)
      rw [ord_filter]
      unfold cnt
      rw [List.countP_filter]
      apply List.countP_mono_left
      intro x _ hx
      rw [Bool.and_eq_true] at hx
      exact hx.1
    · have : cnt k (ord (inF xs)) = 0 := by
        unfold cnt
        rw [List.countP_eq_zero]
        intro x _ e
        rw [beq_iff_eq] at e
        have := pc_le x.toNat
        omega
      omega
  · exact Nat.zero_le _
theorem counts_few (n : Int) (xs : List Int) (j : Nat) : 0 ≤ (counts (faces n xs)).getD j 0 ∧ (counts (faces n xs)).getD j 0 ≤ 20 := by
  rcases Nat.lt_or_ge j (top (faces n xs)) with h | h
  · rw [counts_at _ j h]
    have := cnt_few n xs j
    omega
  · rw [List.getD, List.getElem?_eq_none (by rw [counts_length]; exact h)]
    exact ⟨Int.le_refl _, by decide⟩
theorem counts_le7 (L : List Int) : (counts L).length ≤ 7 := by rw [counts_length]; exact top_le L

theorem r2 : List.range 2 = [0, 1] := rfl
theorem r3 : List.range 3 = [0, 1, 2] := rfl
theorem r4 : List.range 4 = [0, 1, 2, 3] := rfl
theorem r5 : List.range 5 = [0, 1, 2, 3, 4] := rfl
theorem r6 : List.range 6 = [0, 1, 2, 3, 4, 5] := rfl
theorem r7 : List.range 7 = [0, 1, 2, 3, 4, 5, 6] := rfl

theorem short (P : List Int → Prop) (h0 : P []) (h1 : ∀ a, P [a]) (h2 : ∀ a b, P [a, b]) (h3 : ∀ a b c, P [a, b, c]) (h4 : ∀ a b c d, P [a, b, c, d]) (h5 : ∀ a b c d e, P [a, b, c, d, e]) (h6 : ∀ a b c d e f, P [a, b, c, d, e, f]) (h7 : ∀ a b c d e f g, P [a, b, c, d, e, f, g]) : ∀ L : List Int, L.length ≤ 7 → P L
  | [], _ => h0
  | [a], _ => h1 a
  | [a, b], _ => h2 a b
  | [a, b, c], _ => h3 a b c
  | [a, b, c, d], _ => h4 a b c d
  | [a, b, c, d, e], _ => h5 a b c d e
  | [a, b, c, d, e, f], _ => h6 a b c d e f
  | [a, b, c, d, e, f, g], _ => h7 a b c d e f g
  | _ :: _ :: _ :: _ :: _ :: _ :: _ :: _ :: _, h => by simp at h

/-- From h numbers back. -/
theorem back : ∀ L : List Int, L.length ≤ 7 → hsums 1 (hsums (-1) L) = L := by
  apply short
  · rfl
  all_goals
    intros
    simp [hsums, r2, r3, r4, r5, r6, r7, hs, pw, ch]
    try omega
/-- The h numbers are near. -/
theorem near : ∀ L : List Int, L.length ≤ 7 → (∀ j, 0 ≤ L.getD j 0 ∧ L.getD j 0 ≤ 20) → nearB (hsums (-1) L) = true := by
  apply short
  · intro _; rfl
  · intro a H
    have h0 := H 0
    simp at h0
    simp [nearB, hsums, hs, pw, ch]; omega
  · intro a b H
    have h0 := H 0; have h1 := H 1
    simp at h0 h1
    simp [nearB, hsums, r2, hs, pw, ch]; omega
  · intro a b c H
    have h0 := H 0; have h1 := H 1; have h2 := H 2
    simp at h0 h1 h2
    simp [nearB, hsums, r3, hs, pw, ch]; omega
  · intro a b c d H
    have h0 := H 0; have h1 := H 1; have h2 := H 2; have h3 := H 3
    simp at h0 h1 h2 h3
    simp [nearB, hsums, r4, hs, pw, ch]; omega
  · intro a b c d e H
    have h0 := H 0; have h1 := H 1; have h2 := H 2; have h3 := H 3; have h4 := H 4
    simp at h0 h1 h2 h3 h4
    simp [nearB, hsums, r5, hs, pw, ch]; omega
  · intro a b c d e f H
    have h0 := H 0; have h1 := H 1; have h2 := H 2; have h3 := H 3; have h4 := H 4; have h5 := H 5
    simp at h0 h1 h2 h3 h4 h5
    simp [nearB, hsums, r6, hs, pw, ch]; omega
  · intro a b c d e f g H
    have h0 := H 0; have h1 := H 1; have h2 := H 2; have h3 := H 3; have h4 := H 4; have h5 := H 5; have h6 := H 6
    simp at h0 h1 h2 h3 h4 h5 h6
    simp [nearB, hsums, r7, hs, pw, ch]; omega
/-- The first h number is the first count. -/
theorem first (s : Int) (L : List Int) (h : 0 < L.length) : (hsums s L).getD 0 0 = L.getD 0 0 := by
  rw [hsums_at s L 0 h]
  simp [hs, pw, ch_zero]
/-- The last one is the signed sum. -/
theorem last : ∀ L : List Int, L.length ≤ 7 → 0 < L.length → topZ (hsums (-1) L) = (2 * (((L.length - 1) % 2 : Nat) : Int) - 1) * ssumK L L.length := by
  apply short
  · intro h; simp at h
  all_goals
    intros
    simp [topZ, hsums, r2, r3, r4, r5, r6, r7, hs, pw, ch, ssumK, sgn]
    try omega

theorem hnum_length (n : Int) (xs : List Int) : (hnum n xs).length = (counts (faces n xs)).length := hsums_length _ _
theorem hnum_le7 (n : Int) (xs : List Int) : (hnum n xs).length ≤ 7 := by rw [hnum_length]; exact counts_le7 _
theorem hnum_near (n : Int) (xs : List Int) : nearB (hnum n xs) = true := near _ (counts_le7 _) (counts_few n xs)
theorem hnum_back (n : Int) (xs : List Int) : fromH (hnum n xs) = counts (faces n xs) := by
  unfold fromH
  have hl := hnum_le7 n xs
  have hn := hnum_near n xs
  have hb : hsums 1 (hnum n xs) = counts (faces n xs) := back _ (counts_le7 _)
  by_cases h : 0 < (hnum n xs).length
  · rw [if_pos ⟨h, hl, hn⟩, hb]
  · rw [if_neg (fun e => h e.1)]
    rw [hnum_length] at h
    exact (List.eq_nil_of_length_eq_zero (by omega)).symm
theorem hnum_top (n : Int) (xs : List Int) (h : 0 < (hnum n xs).length) : topZ (hnum n xs) = (2 * ((((hnum n xs).length - 1) % 2 : Nat) : Int) - 1) * eul (faces n xs) := by
  rw [hnum_length] at h ⊢
  rw [← counts_signed]
  exact last _ (counts_le7 _) h
theorem hnum_first (n : Int) (xs : List Int) (h : 0 < (hnum n xs).length) : (hnum n xs).getD 0 0 = 1 := by
  rw [hnum_length] at h
  have e := first (-1) _ h
  unfold hnum
  rw [e]
  rw [counts_length] at h
  rw [counts_at _ 0 h]
  have hne : faces n xs ≠ [] := by
    intro e0
    rw [e0] at h
    simp [top] at h
  unfold faces at hne ⊢
  split at hne
  · rename_i hC
    rw [if_pos hC]
    have h0 : inF xs 0 = true := by
      rcases List.exists_mem_of_ne_nil _ hne with ⟨x, hx⟩
      obtain ⟨s, rfl, hs, hp⟩ := (mem_ord _ _).1 hx
      unfold inF at hp ⊢
      rw [List.any_eq_true] at hp ⊢
      obtain ⟨f, hf, _⟩ := hp
      exact ⟨f, hf, by simp [sub]⟩
    have e1 : cnt 0 (ord (inF xs)) = ([0] : List Int).countP fun x => inF xs x.toNat := by
      have e : (ord fun _ => true).filter (fun x => pc x.toNat == 0) = [0] := by decide +kernel
      rw [← e, List.countP_filter, ord_filter (inF xs)]
      unfold cnt
      rw [List.countP_filter]
      apply List.countP_congr
      intro x _
      rw [Bool.and_comm]
    rw [e1]
    simp [h0]
  · exact absurd rfl hne
theorem fromH_le (h : List Int) : (fromH h).length ≤ 1048576 := by
  unfold fromH
  split
  · rename_i e; rw [hsums_length]; omega
  · simp
theorem hnum_le (n : Int) (xs : List Int) : (hnum n xs).length ≤ 1048576 := Nat.le_trans (hnum_le7 n xs) (by decide)
theorem gnum_le (n : Int) (xs : List Int) : (gnum (hnum n xs)).length ≤ 1048576 := by
  have h7 := hnum_le7 n xs
  rcases Nat.eq_zero_or_pos (hnum n xs).length with e | e
  · rw [List.eq_nil_of_length_eq_zero e]; simp [gnum]
  · rw [gnum_length _ e]; omega

end Go.Proofs.Ytamoejjkaebhkaa.Hn
