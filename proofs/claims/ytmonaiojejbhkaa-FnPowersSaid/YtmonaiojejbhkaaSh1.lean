/-
  SHELLINGS, of no program: the new faces of a facet, intervals, counts; where no new face has k points, none has more.
-/
import Derived.Test.YtmonaiojejbhkaaJg2
namespace Go.Proofs.Ytmonaiojejbhkaa.Sh
open Sets Hn

/-- A set without a point. -/
def less (s i : Nat) : Nat := s ^^^ 2 ^ i
theorem less_bit (s i j : Nat) (h : s.testBit i = true) : (less s i).testBit j = (s.testBit j && !decide (j = i)) := by
  unfold less
  rw [Nat.testBit_xor, Nat.testBit_two_pow]
  by_cases e : i = j
  · subst e; rw [h]; simp
  · rw [decide_eq_false e, Bool.xor_false, decide_eq_false (fun h => e h.symm)]; simp
theorem less_sub (s i : Nat) (h : s.testBit i = true) : sub (less s i) s = true := by
  rw [sub_iff]; intro j hj
  rw [less_bit s i j h, Bool.and_eq_true] at hj
  exact hj.1
theorem sub_less (t s i : Nat) (h : s.testBit i = true) : sub t (less s i) = true ↔ sub t s = true ∧ t.testBit i = false := by
  rw [sub_iff, sub_iff]
  constructor
  · intro e
    refine ⟨fun j hj => ?_, ?_⟩
    · have := e j hj
      rw [less_bit s i j h, Bool.and_eq_true] at this
      exact this.1
    · rw [Bool.eq_false_iff]; intro k
      have := e i k
      rw [less_bit s i i h] at this
      simp at this
  · rintro ⟨e, k⟩ j hj
    rw [less_bit s i j h, e j hj]
    have : j ≠ i := by intro q; subst q; rw [k] at hj; cases hj
    simp [this]
theorem less_minus (s i : Nat) (h : s.testBit i = true) (hs : s < 64) (hi : i < 6) : s - 2 ^ i = less s i := by
  have h2 : 2 ^ i < 64 := Nat.pow_lt_pow_right (by decide) hi
  have : sub (2 ^ i) s = true := by
    rw [sub_iff]; intro j hj
    rw [Nat.testBit_two_pow] at hj
    have : i = j := of_decide_eq_true hj
    rw [← this]; exact h
  exact take_away s (2 ^ i) hs h2 this

/-- Is the facet without the point a face before? -/
def newQ (B : List Int) (s i : Nat) : Bool := s.testBit i && inF B (less s i)
/-- The points below n of that kind. -/
def newTo (B : List Int) (s : Nat) : Nat → Nat
  | 0 => 0
  | n + 1 => newTo B s n ||| if newQ B s n = true then 2 ^ n else 0
/-- The least new face. -/
def newN (B : List Int) (s : Nat) : Nat := newTo B s 6
theorem newTo_bit (B : List Int) (s : Nat) : ∀ n j, (newTo B s n).testBit j = (decide (j < n) && newQ B s j)
  | 0, j => by simp [newTo]
  | n + 1, j => by
    rw [newTo, Nat.testBit_or, newTo_bit B s n j]
    by_cases e : j = n
    · subst e
      rw [decide_eq_false (Nat.lt_irrefl j), decide_eq_true (Nat.lt_succ_self j)]
      cases h : newQ B s j with
      | false => simp
      | true => simp
    · have h0 : (if newQ B s n = true then 2 ^ n else 0).testBit j = false := by
        split
        · rw [Nat.testBit_two_pow, decide_eq_false (fun h => e h.symm)]
        · exact Nat.zero_testBit j
      rw [h0, Bool.or_false]
      congr 1
      rw [decide_eq_decide]; omega
theorem newTo_lt (B : List Int) (s : Nat) : ∀ n, n ≤ 6 → newTo B s n < 64
  | 0, _ => by show (0 : Nat) < 64; decide
  | n + 1, h => by
    rw [newTo]
    have h1 := newTo_lt B s n (by omega)
    have h2 : (if newQ B s n = true then 2 ^ n else 0) < 64 := by
      split
      · exact Nat.pow_lt_pow_right (a := 2) (m := n) (n := 6) (by decide) (by omega)
      · decide
    exact Nat.or_lt_two_pow (n := 6) h1 h2
theorem newN_lt (B : List Int) (s : Nat) : newN B s < 64 := newTo_lt B s 6 (by omega)
theorem bit_lt {s i : Nat} (hs : s < 64) (h : s.testBit i = true) : i < 6 := by
  rcases Nat.lt_or_ge i 6 with k | k
  · exact k
  · rw [Nat.testBit_lt_two_pow (Nat.lt_of_lt_of_le hs (Nat.pow_le_pow_right (n := 2) (by decide) k))] at h
    cases h
theorem newN_bit (B : List Int) {s : Nat} (hs : s < 64) (j : Nat) : (newN B s).testBit j = newQ B s j := by
  unfold newN
  rw [newTo_bit]
  cases h : newQ B s j with
  | false => rw [Bool.and_false]
  | true =>
    unfold newQ at h
    rw [Bool.and_eq_true] at h
    rw [decide_eq_true (bit_lt hs h.1)]; rfl
theorem newN_sub (B : List Int) {s : Nat} (hs : s < 64) : sub (newN B s) s = true := by
  rw [sub_iff]; intro j hj
  rw [newN_bit B hs, newQ, Bool.and_eq_true] at hj
  exact hj.1
/-- Can the facet follow? -/
def fitsB (B : List Int) (s : Nat) : Bool := !inF B (newN B s)
/-- What is asked of one facet before. -/
theorem fits_each (B : List Int) {s : Nat} (hs : s < 64) : fitsB B s = B.all fun b => !sub (newN B s) (b.toNat &&& s) := by
  unfold fitsB inF
  rw [List.not_any_eq_all_not]
  congr 1
  funext b
  rw [sub_and, newN_sub B hs, Bool.and_true]
theorem inF_trans {B : List Int} {s t : Nat} (h : sub s t = true) (k : inF B t = true) : inF B s = true := by
  rw [inF_iff] at *
  obtain ⟨f, hf, e⟩ := k
  exact ⟨f, hf, sub_trans h e⟩
/-- Which faces of the facet are new. -/
theorem old_iff {B : List Int} {s : Nat} (hs : s < 64) (hf : fitsB B s = true) (t : Nat) (ht : sub t s = true) : inF B t = true ↔ sub (newN B s) t = false := by
  constructor
  · intro h
    rw [Bool.eq_false_iff]; intro k
    unfold fitsB at hf
    rw [inF_trans k h] at hf
    cases hf
  · intro h
    have : ∃ i, (newN B s).testBit i = true ∧ t.testBit i = false := by
      apply Classical.byContradiction
      intro hn
      rw [Bool.eq_false_iff] at h
      apply h
      rw [sub_iff]
      intro i hi
      cases e : t.testBit i with
      | true => rfl
      | false => exact absurd ⟨i, hi, e⟩ hn
    obtain ⟨i, h1, h2⟩ := this
    rw [newN_bit B hs, newQ, Bool.and_eq_true] at h1
    exact inF_trans ((sub_less t s i h1.1).2 ⟨ht, h2⟩) h1.2
/-- The interval of a facet. -/
def between (r s t : Nat) : Bool := sub r t && sub t s
theorem inF_snoc (B : List Int) (x : Int) (t : Nat) : inF (B ++ [x]) t = (inF B t || sub t x.toNat) := by
  unfold inF; rw [List.any_append]; simp
theorem step_iff {B : List Int} {x : Int} (hs : x.toNat < 64) (hf : fitsB B x.toNat = true) (t : Nat) : inF (B ++ [x]) t = (inF B t || between (newN B x.toNat) x.toNat t) ∧ (inF B t && between (newN B x.toNat) x.toNat t) = false := by
  rw [inF_snoc]
  unfold between
  cases ht : sub t x.toNat with
  | false => simp
  | true =>
    have h := old_iff hs hf t ht
    cases h1 : inF B t with
    | true => rw [h.1 h1]; simp
    | false =>
      cases h2 : sub (newN B x.toNat) t with
      | true => simp
      | false => rw [h.2 h2] at h1; cases h1

/-! ### orders of facets -/
/-- The least new faces, in order. -/
def news (L : List Int) : List Int := (List.range L.length).map fun k => (newN (L.take k) (L.getD k 0).toNat : Int)
def shellB (L : List Int) : Bool := (List.range L.length).all fun k => fitsB (L.take k) (L.getD k 0).toNat
theorem news_length (L : List Int) : (news L).length = L.length := by simp [news]
theorem at_snoc {α : Type} (f : List Int → Int → α) (L : List Int) (x : Int) : (List.range (L ++ [x]).length).map (fun k => f ((L ++ [x]).take k) ((L ++ [x]).getD k 0)) = (List.range L.length).map (fun k => f (L.take k) (L.getD k 0)) ++ [f L x] := by
  rw [List.length_append, List.length_singleton, List.range_succ, List.map_append]
  congr 1
  · apply List.map_congr_left
    intro k hk
    rw [List.mem_range] at hk
    rw [List.take_append_of_le_length (by omega), List.getD, List.getElem?_append_left hk, List.getD]
  · rw [List.map_cons, List.map_nil, List.take_append_of_le_length (Nat.le_refl _), List.take_length, List.getD, List.getElem?_append_right (Nat.le_refl _)]
    simp
theorem news_snoc (L : List Int) (x : Int) : news (L ++ [x]) = news L ++ [(newN L x.toNat : Int)] := at_snoc (fun B y => (newN B y.toNat : Int)) L x
theorem shellB_snoc (L : List Int) (x : Int) : shellB (L ++ [x]) = (shellB L && fitsB L x.toNat) := by
  have h := at_snoc (fun B y => fitsB B y.toNat) L x
  have e : ∀ M : List Int, shellB M = ((List.range M.length).map fun k => fitsB (M.take k) (M.getD k 0).toNat).all id := by
    intro M; rw [List.all_map]; rfl
  rw [e, h, List.all_append, ← e]
  simp
theorem shellB_nil : shellB [] = true := rfl
theorem snoc_ind (P : List Int → Prop) (h0 : P []) (h1 : ∀ L x, P L → P (L ++ [x])) (L : List Int) : P L := by
  have : ∀ M : List Int, P M.reverse := by
    intro M
    induction M with
    | nil => exact h0
    | cons x M ih => rw [List.reverse_cons]; exact h1 _ _ ih
  have h := this L.reverse
  rwa [List.reverse_reverse] at h

/-- All facets are sets of points. -/
def Under (L : List Int) : Prop := ∀ x ∈ L, x.toNat < 64
theorem Under.snoc {L : List Int} {x : Int} (h : Under (L ++ [x])) : Under L ∧ x.toNat < 64 :=
  ⟨fun y hy => h y (List.mem_append_left _ hy), h x (List.mem_append_right _ (List.mem_singleton.2 rfl))⟩

/-- Points of a set as a list are no more than its size: two points that r lacks. -/
theorem two_more : ∀ r t : Fin 64, pc r.val + 2 ≤ pc t.val → ∃ i j : Fin 6, i ≠ j ∧ (t.val.testBit i.val && !r.val.testBit i.val) = true ∧ (t.val.testBit j.val && !r.val.testBit j.val) = true := by decide +kernel
/-- Where the new faces have at most m points, a set of m + 2 points or more all of whose parts are faces is a face. -/
theorem no_missing (m : Nat) : ∀ L : List Int, Under L → shellB L = true → (∀ r ∈ news L, pc r.toNat ≤ m) → ∀ t, t < 64 → m + 2 ≤ pc t → (∀ i, t.testBit i = true → inF L (less t i) = true) → inF L t = true := by
  refine snoc_ind _ ?_ ?_
  · intro _ _ _ t ht hm h
    exfalso
    obtain ⟨i, j, _, hi, _⟩ := two_more 0 ⟨t, ht⟩ (by show pc 0 + 2 ≤ pc t; rw [pc_zero]; omega)
    rw [Bool.and_eq_true] at hi
    have := h i.val hi.1
    cases this
  · intro L x ih hU hS hR t ht hm h
    obtain ⟨hU1, hx⟩ := hU.snoc
    rw [shellB_snoc, Bool.and_eq_true] at hS
    have hR1 : ∀ r ∈ news L, pc r.toNat ≤ m := fun r hr => hR r (by rw [news_snoc]; exact List.mem_append_left _ hr)
    have hR2 : pc (newN L x.toNat) ≤ m := hR (newN L x.toNat : Int) (by rw [news_snoc]; exact List.mem_append_right _ (List.mem_singleton.2 rfl))
    have hst := step_iff hx hS.2
    cases hc : sub (newN L x.toNat) t with
    | true =>
      obtain ⟨i, j, hne, hi, hj⟩ := two_more ⟨newN L x.toNat, newN_lt _ _⟩ ⟨t, ht⟩ (by show pc (newN L x.toNat) + 2 ≤ pc t; omega)
      rw [Bool.and_eq_true, Bool.not_eq_true'] at hi hj
      have key : ∀ i : Nat, t.testBit i = true → (newN L x.toNat).testBit i = false → sub (less t i) x.toNat = true := by
        intro i h1 h2
        have h3 := h i h1
        have h4 : sub (newN L x.toNat) (less t i) = true := (sub_less _ t i h1).2 ⟨hc, h2⟩
        rw [inF_snoc, Bool.or_eq_true] at h3
        rcases h3 with h3 | h3
        · exfalso
          have h5 := hS.2
          unfold fitsB at h5
          rw [inF_trans h4 h3] at h5
          cases h5
        · exact h3
      have k1 := key i.val hi.1 hi.2
      have k2 := key j.val hj.1 hj.2
      rw [inF_snoc, Bool.or_eq_true]
      right
      rw [sub_iff] at k1 k2 ⊢
      intro q hq
      by_cases e : q = i.val
      · apply k2
        rw [less_bit t j.val q hj.1, hq]
        have : q ≠ j.val := by intro e2; exact hne (Fin.ext (e ▸ e2))
        simp [this]
      · apply k1
        rw [less_bit t i.val q hi.1, hq]
        simp [e]
    | false =>
      rw [inF_snoc, ih hU1 hS.1 hR1 t ht hm ?_]
      · rfl
      · intro i hi
        have h3 := h i hi
        rw [(hst (less t i)).1, Bool.or_eq_true] at h3
        rcases h3 with h3 | h3
        · exact h3
        · exfalso
          unfold between at h3
          rw [Bool.and_eq_true] at h3
          rw [sub_trans h3.1 (less_sub t i hi)] at hc
          cases hc
/-- Where none has k points, none has more. -/
theorem none_above (k : Nat) (hk : 1 ≤ k) : ∀ L : List Int, Under L → shellB L = true → (∀ r ∈ news L, pc r.toNat ≠ k) → ∀ r ∈ news L, pc r.toNat < k := by
  refine snoc_ind _ ?_ ?_
  · intro _ _ _ r hr; simp [news] at hr
  · intro L x ih hU hS hR r hr
    obtain ⟨hU1, hx⟩ := hU.snoc
    rw [shellB_snoc, Bool.and_eq_true] at hS
    have h1 := ih hU1 hS.1 (fun r hr => hR r (by rw [news_snoc]; exact List.mem_append_left _ hr))
    rw [news_snoc, List.mem_append, List.mem_singleton] at hr
    rcases hr with hr | hr
    · exact h1 r hr
    · have h2 := hR r (by rw [news_snoc, hr]; exact List.mem_append_right _ (List.mem_singleton.2 rfl))
      rcases Nat.lt_trichotomy (pc r.toNat) k with h3 | h3 | h3
      · exact h3
      · exact absurd h3 h2
      · exfalso
        have e : r.toNat = newN L x.toNat := by rw [hr]; rfl
        rw [e] at h3
        have h4 := no_missing (k - 1) L hU1 hS.1 (fun r hr => by have := h1 r hr; omega) (newN L x.toNat) (newN_lt _ _) (by omega) (fun i hi => by
          have h5 := newN_sub L hx
          refine (old_iff hx hS.2 (less (newN L x.toNat) i) (sub_trans (less_sub _ i hi) h5)).2 ?_
          rw [Bool.eq_false_iff]; intro h6
          have := ((sub_less (newN L x.toNat) (newN L x.toNat) i hi).1 h6).2
          rw [hi] at this; cases this)
        have h5 := hS.2
        unfold fitsB at h5
        rw [h4] at h5
        cases h5

/-! ### counts -/
theorem cnt_ord (k : Nat) (p : Nat → Bool) : cnt k (ord p) = (ord fun _ => true).countP fun x => p x.toNat && (pc x.toNat == k) := by
  rw [ord_filter p]
  unfold cnt
  rw [List.countP_filter]
  apply List.countP_congr
  intro x _
  rw [Bool.and_comm]
theorem count_or (p q : Int → Bool) : ∀ L : List Int, (∀ x ∈ L, (p x && q x) = false) → L.countP (fun x => p x || q x) = L.countP p + L.countP q
  | [], _ => rfl
  | x :: L, h => by
    rw [List.countP_cons, List.countP_cons, List.countP_cons, count_or p q L (fun y hy => h y (List.mem_cons_of_mem _ hy))]
    have := h x (List.mem_cons_self ..)
    cases h1 : p x <;> cases h2 : q x
    · simp
    · simp; omega
    · simp; omega
    · rw [h1, h2] at this; cases this
theorem between_count : ∀ s : Fin 64, ∀ r : Fin 64, sub r.val s.val = true → ∀ k : Fin 7, cnt k.val (ord (between r.val s.val)) = if pc r.val ≤ k.val then ch (pc s.val - pc r.val) (k.val - pc r.val) else 0 := by decide +kernel

/-- How many new faces have i points. -/
def hOf (L : List Int) (i : Nat) : Nat := cnt i (news L)
/-- The sum by binomial numbers. -/
def hsN (r : Nat → Nat) (d k : Nat) : Nat → Nat
  | 0 => 0
  | m + 1 => hsN r d k m + r m * ch (d - m) (k - m)
theorem hsN_zero (d k : Nat) : ∀ m, hsN (fun _ => 0) d k m = 0
  | 0 => rfl
  | m + 1 => by rw [hsN, hsN_zero d k m]; simp
theorem hsN_one (r r' : Nat → Nat) (c d k : Nat) (h : ∀ i, r' i = r i + if c = i then 1 else 0) : ∀ m, hsN r' d k m = hsN r d k m + if c < m then ch (d - c) (k - c) else 0
  | 0 => by simp [hsN]
  | m + 1 => by
    rw [hsN, hsN, hsN_one r r' c d k h m, h m]
    by_cases e : c = m
    · subst e
      rw [if_pos rfl, if_neg (Nat.lt_irrefl c), if_pos (Nat.lt_succ_self c), Nat.add_mul]
      omega
    · rw [if_neg e]
      by_cases e2 : c < m
      · rw [if_pos e2, if_pos (by omega)]; simp; omega
      · rw [if_neg e2, if_neg (by omega)]; simp
/-- THE COUNTS OF A SHELLING whose facets have d points. -/
theorem shell_counts (d k : Nat) (hk : k < 7) : ∀ L : List Int, Under L → shellB L = true → (∀ x ∈ L, pc x.toNat = d) → cnt k (ord (inF L)) = hsN (hOf L) d k (k + 1) := by
  refine snoc_ind _ ?_ ?_
  · intro _ _ _
    have e : hOf [] = fun _ => 0 := rfl
    rw [e, hsN_zero, cnt_ord, List.countP_eq_zero]
    intro x _
    simp [inF]
  · intro L x ih hU hS hd
    obtain ⟨hU1, hx⟩ := hU.snoc
    rw [shellB_snoc, Bool.and_eq_true] at hS
    have hst := step_iff hx hS.2
    have h1 := ih hU1 hS.1 (fun y hy => hd y (List.mem_append_left _ hy))
    have h2 : cnt k (ord (inF (L ++ [x]))) = cnt k (ord (inF L)) + cnt k (ord (between (newN L x.toNat) x.toNat)) := by
      rw [cnt_ord, cnt_ord, cnt_ord, ← count_or]
      · apply List.countP_congr
        intro y _
        rw [(hst y.toNat).1, Bool.and_or_distrib_right]
      · intro y _
        have := (hst y.toNat).2
        cases h3 : inF L y.toNat with
        | false => rfl
        | true =>
          rw [h3, Bool.true_and] at this
          rw [this]; simp
    have hs1 := newN_sub L hx
    have h3 := between_count ⟨x.toNat, hx⟩ ⟨newN L x.toNat, newN_lt _ _⟩ hs1 ⟨k, hk⟩
    dsimp only at h3
    rw [h2, h1, h3, hd x (List.mem_append_right _ (List.mem_singleton.2 rfl))]
    rw [hsN_one (hOf L) (hOf (L ++ [x])) (pc (newN L x.toNat)) d k (fun i => by
      unfold hOf
      rw [news_snoc, cnt_snoc]
      rfl) (k + 1)]
    congr 1
    by_cases e : pc (newN L x.toNat) ≤ k
    · rw [if_pos e, if_pos (by omega)]
    · rw [if_neg e, if_neg (by omega)]

end Go.Proofs.Ytmonaiojejbhkaa.Sh
