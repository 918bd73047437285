/-
  TEXTS of one claim, put together: Mx3, Part, Hom1, WWhere.
-/
import Derived.Test.YtenpcjmhlnalcaaJg4
import Derived.Test.YtenpcjmhlnalcaaJg1
import Derived.WalkMore
import Derived.Shelf.Abstract
/-! MEMORY: rows of a matrix exchanged; what a matrix keeps while another row grows. -/

namespace Go.Proofs.Ytenpcjmhlnalcaa
open Go.RowKit

def swapR (R : List (Nat × Nat)) (a d : Nat) : List (Nat × Nat) := (R.set a (R.getD d (0, 0))).set d (R.getD a (0, 0))
theorem swapR_length (R : List (Nat × Nat)) (a d : Nat) : (swapR R a d).length = R.length := by simp [swapR]
theorem swapR_at (R : List (Nat × Nat)) (a d j : Nat) (ha : a < R.length) (hd : d < R.length) : (swapR R a d).getD j (0, 0) = R.getD (if j = d then a else if j = a then d else j) (0, 0) := by
  unfold swapR
  by_cases e : j = d
  · subst e; simp [List.getD, ha, hd]
  · rw [if_neg e]
    by_cases e' : j = a
    · subst e'
      rw [if_pos rfl]
      simp only [List.getD, List.getElem?_set, List.length_set]
      rw [if_neg (fun h => e h.symm)]
      simp [ha]
    · rw [if_neg e']
      simp only [List.getD, List.getElem?_set, List.length_set]
      rw [if_neg (fun h => e h.symm), if_neg (fun h => e' h.symm)]
theorem blk_of_mem {R : List (Nat × Nat)} {g : Nat} (h : g ∈ blks R) : ∃ i, i < R.length ∧ blk R i = g := by
  obtain ⟨⟨a, b⟩, hx, rfl⟩ := List.mem_map.1 h
  obtain ⟨i, hi, hx2⟩ := List.getElem_of_mem hx
  exact ⟨i, hi, by simp [blk, List.getD, List.getElem?_eq_getElem hi, hx2]⟩
def flip2 (a d j : Nat) : Nat := if j = d then a else if j = a then d else j
theorem flip2_lt {a d j m : Nat} (ha : a < m) (hd : d < m) (hj : j < m) : flip2 a d j < m := by unfold flip2; split <;> (try split) <;> assumption
theorem flip2_flip (a d j : Nat) : flip2 a d (flip2 a d j) = j := by
  unfold flip2
  by_cases h1 : j = d
  · subst h1; rw [if_pos rfl]; by_cases h2 : a = j
    · rw [if_pos h2, h2]
    · rw [if_neg h2, if_pos rfl]
  · rw [if_neg h1]
    by_cases h2 : j = a
    · subst h2; rw [if_pos rfl, if_pos rfl]
    · rw [if_neg h2, if_neg h1, if_neg h2]
theorem flip2_inj {a d i j : Nat} (h : flip2 a d i = flip2 a d j) : i = j := by rw [← flip2_flip a d i, h, flip2_flip]
theorem swapR_mem {R : List (Nat × Nat)} {a d : Nat} (ha : a < R.length) (hd : d < R.length) (g : Nat) : g ∈ blks (swapR R a d) ↔ g ∈ blks R := by
  constructor
  · intro h
    obtain ⟨i, hi, rfl⟩ := blk_of_mem h
    rw [swapR_length] at hi
    have := blk_mem (R := R) (flip2_lt ha hd hi)
    rw [show blk (swapR R a d) i = blk R (flip2 a d i) from congrArg Prod.fst (swapR_at R a d i ha hd)]; exact this
  · intro h
    obtain ⟨i, hi, rfl⟩ := blk_of_mem h
    have hlt : flip2 a d i < (swapR R a d).length := by rw [swapR_length]; exact flip2_lt ha hd hi
    have := blk_mem hlt
    rw [show blk (swapR R a d) (flip2 a d i) = blk R (flip2 a d (flip2 a d i)) from congrArg Prod.fst (swapR_at R a d _ ha hd), flip2_flip] at this
    exact this
theorem swapR_nodup {R : List (Nat × Nat)} {a d : Nat} (ha : a < R.length) (hd : d < R.length) (h : (blks R).Nodup) : (blks (swapR R a d)).Nodup := by
  have e : ∀ (Q : List (Nat × Nat)) j, (hj : j < Q.length) → (blks Q)[j]'(by simpa using hj) = blk Q j := fun Q j hj => by simp [blk, blks, List.getD, List.getElem?_eq_getElem hj]
  unfold List.Nodup
  rw [List.pairwise_iff_getElem]
  intro i j hi hj hij he
  have hi' : i < (swapR R a d).length := by simpa using hi
  have hj' : j < (swapR R a d).length := by simpa using hj
  rw [e _ i hi', e _ j hj'] at he
  rw [show blk (swapR R a d) i = blk R (flip2 a d i) from congrArg Prod.fst (swapR_at R a d i ha hd), show blk (swapR R a d) j = blk R (flip2 a d j) from congrArg Prod.fst (swapR_at R a d j ha hd)] at he
  rw [swapR_length] at hi' hj'
  have := flip2_inj (blk_inj h (flip2_lt ha hd hi') (flip2_lt ha hd hj') he)
  omega

/-- Two rows are exchanged. -/
theorem Mx.swap {w : World} {go : Nat} {ao : Option Addr} {R : List (Nat × Nat)} {M : Lin.Mat} (h : Mx w go ao R M) {a d : Nat} (ha : a < M.length) (hd : d < M.length) :
    Mx ((w.setCell ⟨go, a, none⟩ (.slice (some ⟨blk R d, 0, none⟩) (Lin.row M d).length (room R d))).setCell ⟨go, d, none⟩ (.slice (some ⟨blk R a, 0, none⟩) (Lin.row M a).length (room R a))) go ao (swapR R a d) (Lin.swap M a d) := by
  have haR : a < R.length := by rw [h.len]; exact ha
  have hdR : d < R.length := by rw [h.len]; exact hd
  have hrow : ∀ j, Lin.row (Lin.swap M a d) j = Lin.row M (flip2 a d j) := fun j => Lin.swap_row M a d j ha hd
  have hR : ∀ j, (swapR R a d).getD j (0, 0) = R.getD (flip2 a d j) (0, 0) := fun j => swapR_at R a d j haR hdR
  have hsz : ((w.setCell ⟨go, a, none⟩ (.slice (some ⟨blk R d, 0, none⟩) (Lin.row M d).length (room R d))).setCell ⟨go, d, none⟩ (.slice (some ⟨blk R a, 0, none⟩) (Lin.row M a).length (room R a))).heap.size = w.heap.size := by simp [World.setCell]
  refine ⟨by rw [swapR_length, Lin.swap_length]; exact h.len, swapR_nodup haR hdR h.nodup, fun i hi => ?_, fun i hi => ?_, fun hm => h.apart ((swapR_mem haR hdR go).1 hm)⟩
  · rw [Lin.swap_length] at hi
    obtain ⟨h1, h2, h3, h4⟩ := h.out i hi
    refine ⟨h1, by rw [hsz]; exact h2, ?_, by rw [World.frozen?_setCell, World.frozen?_setCell]; exact h4⟩
    simp only [blk, room]
    rw [hrow, hR]
    unfold flip2
    by_cases e : i = d
    · rw [if_pos e, e]
      have hne := (h.out d hd).2.2.1
      by_cases e2 : a = d
      · subst e2
        exact World.cell?_setCell_same _ _ _ (World.cell?_setCell_same _ _ _ hne)
      · exact World.cell?_setCell_same _ _ _ ((World.cell?_setCell_other _ _ _ _ (by simp)).trans hne)
    · rw [if_neg e]
      rw [World.cell?_setCell_other _ _ _ _ (by simp)]
      by_cases e2 : i = a
      · subst e2
        rw [if_pos rfl]
        exact World.cell?_setCell_same _ _ _ h3
      · rw [if_neg e2, World.cell?_setCell_other _ _ _ _ (by simp)]
        exact h3
  · rw [Lin.swap_length] at hi
    obtain ⟨h1, h2⟩ := h.rows _ (flip2_lt ha hd hi)
    simp only [blk] at h1 h2 ⊢
    rw [hrow, hR]
    refine ⟨by rw [hsz]; exact h1, ?_⟩
    refine IntsAt.only (G := [go]) h2 ((Only.set [go] w a (by simp) _).trans (Only.set [go] _ d (by simp) _)) ?_
    rw [List.mem_singleton]
    intro e
    exact h.apart (by rw [← e]; exact blk_mem (R := R) (by rw [h.len]; exact flip2_lt ha hd hi))

theorem Mx.grown {w w' : World} {go : Nat} {ao : Option Addr} {R : List (Nat × Nat)} {M : Lin.Mat} (h : Mx w go ao R M) {b : Option Nat} (hg : w.grownBy w' b) (hb : ∀ g, b = some g → g ≠ go ∧ g ∉ blks R) : Mx w' go ao R M := by
  have hk : ∀ k, k < w.heap.size → (k = go ∨ k ∈ blks R) → w'.heap[k]? = w.heap[k]? := fun k hk hor => hg.block k hk fun e => by
    obtain ⟨h1, h2⟩ := hb k e.symm
    rcases hor with e | e
    · exact h1 e
    · exact h2 e
  refine ⟨h.len, h.nodup, fun i hi => ?_, fun i hi => ?_, h.apart⟩
  · obtain ⟨h1, h2, h3, h4⟩ := h.out i hi
    have e := hk go h2 (.inl rfl)
    exact ⟨h1, Nat.lt_of_lt_of_le h2 hg.size, by rw [World.cell?_of_block (w := w) e]; exact h3, by rw [World.frozen?_of_block (w := w) e]; exact h4⟩
  · obtain ⟨h1, h2⟩ := h.rows i hi
    have e := hk _ h1 (.inr (blk_mem (by rw [h.len]; exact hi)))
    refine ⟨Nat.lt_of_lt_of_le h1 hg.size, fun j hj => ?_⟩
    obtain ⟨q1, q2, q3, q4⟩ := h2 j hj
    exact ⟨q1, Nat.lt_of_lt_of_le q2 hg.size, by rw [World.cell?_of_block (w := w) e]; exact q3, by rw [World.frozen?_of_block (w := w) e]; exact q4⟩
theorem OwnInts.only {w w' : World} {G : List Nat} {base : Nat} {v : Value} {xs : List Int} (h : OwnInts w base v xs) (k : Only G w w') (hv : ∀ g, v.ownBlock = some g → g ∉ G) : OwnInts w' base v xs := by
  unfold OwnInts at *
  refine ⟨h.1, ?_⟩
  rcases h.2 with h0 | ⟨g, cap, cur, hv', h1, hh, hr⟩
  · exact .inl h0
  · refine .inr ⟨g, cap, cur, hv', h1, ?_, hr⟩
    have hlt : g < w.heap.size := by
      rcases Nat.lt_or_ge g w.heap.size with hl | hl
      · exact hl
      · rw [Array.getElem?_eq_none hl] at hh; cases hh
    rw [k.block g hlt (hv g (by rw [hv']; rfl))]; exact hh
theorem Mx.old {w : World} {go : Nat} {ao : Option Addr} {R : List (Nat × Nat)} {M : Lin.Mat} (h : Mx w go ao R M) {g : Nat} (hg : g ∈ blks R) : g < w.heap.size := by
  obtain ⟨i, hi, rfl⟩ := blk_of_mem hg
  exact (h.rows i (by rw [← h.len]; exact hi)).1

end Go.Proofs.Ytenpcjmhlnalcaa

/-! PARTS OF COMPLEXES, of no program: families of sets by predicates, their greatest sets. -/

namespace Go.Proofs.Ytenpcjmhlnalcaa
open Sets

/-! ### subsets by bits -/

theorem sub_iff (a b : Nat) : sub a b = true ↔ ∀ i, a.testBit i = true → b.testBit i = true := by
  unfold sub
  rw [beq_iff_eq]
  constructor
  · intro h i hi
    have := congrArg (fun x => x.testBit i) h
    simp only [Nat.testBit_and] at this
    rw [hi] at this
    simpa using this
  · intro h
    apply Nat.eq_of_testBit_eq
    intro i
    rw [Nat.testBit_and]
    cases ha : a.testBit i with
    | false => rfl
    | true => rw [h i ha]; rfl
theorem sub_refl (a : Nat) : sub a a = true := by unfold sub; simp
theorem sub_trans {a b c : Nat} (h : sub a b = true) (k : sub b c = true) : sub a c = true := by
  rw [sub_iff] at *; exact fun i hi => k i (h i hi)
theorem sub_anti {a b : Nat} (h : sub a b = true) (k : sub b a = true) : a = b := by
  rw [sub_iff] at *
  apply Nat.eq_of_testBit_eq
  intro i
  rw [Bool.eq_iff_iff]
  exact ⟨h i, k i⟩
theorem sub_le {a b : Nat} (h : sub a b = true) : a ≤ b := by
  unfold sub at h
  rw [beq_iff_eq] at h
  rw [← h]; exact Nat.and_le_right
theorem sub_and (t f s : Nat) : sub t (f &&& s) = (sub t f && sub t s) := by
  rw [Bool.eq_iff_iff, Bool.and_eq_true, sub_iff, sub_iff, sub_iff]
  constructor
  · intro h
    refine ⟨fun i hi => ?_, fun i hi => ?_⟩ <;>
    · have := h i hi
      rw [Nat.testBit_and, Bool.and_eq_true] at this
      first | exact this.1 | exact this.2
  · intro h i hi
    rw [Nat.testBit_and, h.1 i hi, h.2 i hi]; rfl
theorem sub_or (t s f : Nat) : sub (t ||| s) f = (sub t f && sub s f) := by
  rw [Bool.eq_iff_iff, Bool.and_eq_true, sub_iff, sub_iff, sub_iff]
  constructor
  · intro h
    refine ⟨fun i hi => h i ?_, fun i hi => h i ?_⟩ <;> (rw [Nat.testBit_or, hi]; simp)
  · intro h i hi
    rw [Nat.testBit_or, Bool.or_eq_true] at hi
    rcases hi with e | e
    · exact h.1 i e
    · exact h.2 i e
/-- No point in common. -/
def apart (t s : Nat) : Bool := t &&& s == 0
theorem apart_iff (t s : Nat) : apart t s = true ↔ ∀ i, ¬(t.testBit i = true ∧ s.testBit i = true) := by
  unfold apart
  rw [beq_iff_eq]
  constructor
  · intro h i ⟨h1, h2⟩
    have := congrArg (fun x => x.testBit i) h
    simp only [Nat.testBit_and, Nat.zero_testBit, h1, h2] at this
    cases this
  · intro h
    apply Nat.eq_of_testBit_eq
    intro i
    rw [Nat.testBit_and, Nat.zero_testBit]
    cases h1 : t.testBit i with
    | false => rfl
    | true =>
      cases h2 : s.testBit i with
      | false => rfl
      | true => exact absurd ⟨h1, h2⟩ (h i)
theorem take_away (f s : Nat) (hf : f < 64) (hs : s < 64) (h : sub s f = true) : f - s = f ^^^ s := by
  have H : ∀ f s : Fin 64, sub s.val f.val = true → f.val - s.val = f.val ^^^ s.val := by decide +kernel
  exact H ⟨f, hf⟩ ⟨s, hs⟩ h
theorem sub_xor (t f s : Nat) (h : sub s f = true) : sub t (f ^^^ s) = (apart t s && sub t f) := by
  rw [sub_iff] at h
  rw [Bool.eq_iff_iff, Bool.and_eq_true, sub_iff, sub_iff, apart_iff]
  constructor
  · intro k
    refine ⟨fun i ⟨h1, h2⟩ => ?_, fun i hi => ?_⟩
    · have := k i h1
      rw [Nat.testBit_xor, h2, h i h2] at this
      cases this
    · have := k i hi
      rw [Nat.testBit_xor] at this
      cases h2 : s.testBit i with
      | true => exact h i h2
      | false => rw [h2] at this; simpa using this
  · rintro ⟨k1, k2⟩ i hi
    rw [Nat.testBit_xor, k2 i hi]
    cases h2 : s.testBit i with
    | true => exact absurd ⟨hi, h2⟩ (k1 i)
    | false => rfl
theorem apart_mono {t u s : Nat} (h : sub t u = true) (k : apart u s = true) : apart t s = true := by
  rw [sub_iff] at h; rw [apart_iff] at *
  exact fun i ⟨h1, h2⟩ => k i ⟨h i h1, h2⟩

/-! ### families closed downwards -/

def Down (q : Nat → Bool) : Prop := ∀ s t, s < 64 → t < 64 → sub s t = true → q t = true → q s = true
theorem inF_iff (xs : List Int) (s : Nat) : inF xs s = true ↔ ∃ f, f ∈ xs ∧ sub s f.toNat = true := by unfold inF; rw [List.any_eq_true]
theorem inF_down (xs : List Int) : Down (inF xs) := fun s t _ _ h k => by
  rw [inF_iff] at *
  obtain ⟨f, hf, e⟩ := k
  exact ⟨f, hf, sub_trans h e⟩
/-- The greatest sets of a family, in order. -/
def maxQ (q : Nat → Bool) : List Int := ord fun s => q s && (List.range 64).all fun t => !(q t && sub s t && t != s)
theorem mem_maxQ (q : Nat → Bool) (x : Int) : x ∈ maxQ q ↔ ∃ s : Nat, x = (s : Int) ∧ s < 64 ∧ q s = true ∧ ∀ t, t < 64 → q t = true → sub s t = true → t = s := by
  unfold maxQ
  rw [mem_ord]
  constructor
  · rintro ⟨s, rfl, hs, h⟩
    rw [Bool.and_eq_true, List.all_eq_true] at h
    refine ⟨s, rfl, hs, h.1, fun t ht h1 h2 => ?_⟩
    have := h.2 t (List.mem_range.2 ht)
    rw [h1, h2] at this
    simpa using this
  · rintro ⟨s, rfl, hs, h1, h2⟩
    refine ⟨s, rfl, hs, ?_⟩
    rw [Bool.and_eq_true, List.all_eq_true]
    refine ⟨h1, fun t ht => ?_⟩
    rw [Bool.not_eq_true', Bool.and_eq_false_iff]
    cases e1 : q t with
    | false => left; rfl
    | true =>
      cases e2 : sub s t with
      | false => left; rfl
      | true => right; rw [h2 t (List.mem_range.1 ht) e1 e2]; simp
theorem maxQ_congr {p q : Nat → Bool} (h : ∀ s, s < 64 → p s = q s) : maxQ p = maxQ q := by
  refine rises_eq _ _ (ord_rises _) (ord_rises _) fun x => ?_
  rw [mem_maxQ, mem_maxQ]
  constructor
  · rintro ⟨s, e, hs, h1, h2⟩
    exact ⟨s, e, hs, by rw [← h s hs]; exact h1, fun t ht k1 k2 => h2 t ht (by rw [h t ht]; exact k1) k2⟩
  · rintro ⟨s, e, hs, h1, h2⟩
    exact ⟨s, e, hs, by rw [h s hs]; exact h1, fun t ht k1 k2 => h2 t ht (by rw [← h t ht]; exact k1) k2⟩
theorem ok_nat {x : Int} {A : List Int} (h : allOk A = true) (hx : x ∈ A) : ∃ s : Nat, x = (s : Int) ∧ s < 64 := by
  unfold allOk at h
  exact okZ_cast x (List.all_eq_true.1 h x hx)
/-- The maximal sets of a list are told by what lies in it. -/
theorem maximal_maxQ (A : List Int) (h : allOk A = true) : maximal A = maxQ (inF A) := by
  refine rises_eq _ _ ?_ (ord_rises _) fun x => ?_
  · unfold maximal best
    exact List.Pairwise.filter _ (order_rises A)
  rw [mem_maxQ]
  unfold maximal best
  rw [List.mem_filter, order_iff A h]
  constructor
  · rintro ⟨hx, hu⟩
    obtain ⟨s, rfl, hs⟩ := ok_nat h hx
    refine ⟨s, rfl, hs, (inF_iff A s).2 ⟨_, hx, sub_refl s⟩, fun t ht h1 h2 => ?_⟩
    obtain ⟨f, hf, e⟩ := (inF_iff A t).1 h1
    obtain ⟨u, rfl, hu64⟩ := ok_nat h hf
    have e : sub t u = true := e
    by_cases hne : u = s
    · subst hne; exact sub_anti e h2
    · unfold unbeaten at hu
      have := List.all_eq_true.1 hu (u : Int) ((order_iff A h _).2 hf)
      rw [Bool.not_eq_true', Bool.and_eq_false_iff] at this
      rcases this with k | k
      · have : (u : Int) = (s : Int) := by simpa using k
        omega
      · have k : sub s u = false := k
        rw [sub_trans h2 e] at k; cases k
  · rintro ⟨s, rfl, hs, h1, h2⟩
    obtain ⟨f, hf, e⟩ := (inF_iff A s).1 h1
    obtain ⟨u, rfl, hu64⟩ := ok_nat h hf
    have e : sub s u = true := e
    have : u = s := h2 u hu64 ((inF_iff A u).2 ⟨_, hf, sub_refl u⟩) e
    subst this
    refine ⟨hf, ?_⟩
    unfold unbeaten
    rw [List.all_eq_true]
    intro y hy
    have hy := (order_iff A h y).1 hy
    obtain ⟨v, rfl, hv⟩ := ok_nat h hy
    rw [Bool.not_eq_true', Bool.and_eq_false_iff]
    by_cases hne : v = u
    · left; subst hne; simp
    · right
      rw [Bool.eq_false_iff]
      intro k
      exact hne (h2 v hv ((inF_iff A v).2 ⟨_, hy, sub_refl v⟩) k)
theorem inF_ord (q : Nat → Bool) (hd : Down q) (t : Nat) (ht : t < 64) : inF (ord q) t = q t := by
  rw [Bool.eq_iff_iff, inF_iff]
  constructor
  · rintro ⟨f, hf, e⟩
    obtain ⟨u, rfl, hu, hq⟩ := (mem_ord q f).1 hf
    exact hd t u ht hu e hq
  · intro h
    exact ⟨(t : Int), (mem_ord q _).2 ⟨t, rfl, ht, h⟩, sub_refl t⟩
theorem ord_ok (q : Nat → Bool) : allOk (ord q) = true := by
  unfold allOk
  rw [List.all_eq_true]
  intro x hx
  obtain ⟨s, rfl, hs, _⟩ := (mem_ord q x).1 hx
  exact (okZ_nat s).2 hs
theorem maximal_ord (q : Nat → Bool) (hd : Down q) : maximal (ord q) = maxQ q := by
  rw [maximal_maxQ _ (ord_ok q)]
  exact maxQ_congr fun s hs => inF_ord q hd s hs
/-- Each set of a family lies in a greatest one. -/
theorem maxQ_above (q : Nat → Bool) : ∀ (m t : Nat), t < 64 → 64 - t ≤ m → q t = true → ∃ u : Nat, u < 64 ∧ (u : Int) ∈ maxQ q ∧ sub t u = true
  | 0, t, ht, hm, _ => by omega
  | m + 1, t, ht, hm, hq => by
    by_cases h : ∀ v, v < 64 → q v = true → sub t v = true → v = t
    · exact ⟨t, ht, (mem_maxQ q _).2 ⟨t, rfl, ht, hq, h⟩, sub_refl t⟩
    · have : ∃ v, v < 64 ∧ q v = true ∧ sub t v = true ∧ v ≠ t := by
        refine Classical.byContradiction fun k => h fun v h1 h2 h3 => Classical.byContradiction fun h4 => k ⟨v, h1, h2, h3, h4⟩
      obtain ⟨v, h1, h2, h3, h4⟩ := this
      have := sub_le h3
      obtain ⟨u, k1, k2, k3⟩ := maxQ_above q m v h1 (by omega) h2
      exact ⟨u, k1, k2, sub_trans h3 k3⟩
theorem inF_maxQ (q : Nat → Bool) (hd : Down q) (t : Nat) (ht : t < 64) : inF (maxQ q) t = q t := by
  rw [Bool.eq_iff_iff, inF_iff]
  constructor
  · rintro ⟨f, hf, e⟩
    obtain ⟨u, rfl, hu, hq, _⟩ := (mem_maxQ q f).1 hf
    exact hd t u ht hu e hq
  · intro h
    obtain ⟨u, _, h2, h3⟩ := maxQ_above q 64 t ht (by omega) h
    exact ⟨_, h2, h3⟩
theorem maxQ_le (q : Nat → Bool) : (maxQ q).length ≤ 64 := ord_le _
theorem maxQ_ok (q : Nat → Bool) : allOk (maxQ q) = true := ord_ok _
/-- A complex is told by its faces. -/
theorem isC_maxQ {n : Int} {xs : List Int} (h : isC n xs = true) : maxQ (inF xs) = xs := by
  rw [← maximal_maxQ xs (isC_ok h), maximal_self h]
theorem maxQ_isC (n : Int) (q : Nat → Bool) (h1 : 1 ≤ n) (h2 : n ≤ 6) (hd : Down q) (h : ∀ s, s < 64 → q s = true → setB n (s : Int) = true) : isC n (maxQ q) = true := by
  rw [← maximal_ord q hd]
  refine isC_maximal n _ h1 h2 fun x hx => ?_
  obtain ⟨s, rfl, hs, hq⟩ := (mem_ord q x).1 hx
  exact h s hs hq
theorem maxQ_faces (n : Int) (q : Nat → Bool) (hd : Down q) (hc : isC n (maxQ q) = true) : faces n (maxQ q) = ord q := by
  unfold faces
  rw [if_pos hc]
  exact ord_congr fun t ht => inF_maxQ q hd t ht
/-- Faces of a complex are sets of its points. -/
theorem setB_sub {n : Int} {s t : Nat} (h : setB n (t : Int) = true) (k : sub s t = true) : setB n (s : Int) = true := by
  rw [setB_iff] at *
  have := sub_le k
  exact ⟨h.1, h.2.1, by omega, by have := h.2.2.2; omega⟩
theorem inF_set {n : Int} {xs : List Int} (h : isC n xs = true) (s : Nat) (k : inF xs s = true) : setB n (s : Int) = true := by
  obtain ⟨f, hf, e⟩ := (inF_iff xs s).1 k
  obtain ⟨t, rfl, _⟩ := ok_nat (isC_ok h) hf
  exact setB_sub (isC_set h _ hf) e

/-! ### the parts -/

def linkQ (xs : List Int) (s t : Nat) : Bool := apart t s && inF xs (t ||| s)
def starQ (xs : List Int) (s t : Nat) : Bool := inF xs (t ||| s)
def delQ (xs : List Int) (s t : Nat) : Bool := inF xs t && !sub s t
def skelQ (xs : List Int) (k : Int) (t : Nat) : Bool := inF xs t && decide ((pc t : Int) ≤ k)
def indQ (xs : List Int) (s t : Nat) : Bool := inF xs t && sub t s
def orQ (xs ys : List Int) (t : Nat) : Bool := inF xs t || inF ys t
def andQ (xs ys : List Int) (t : Nat) : Bool := inF xs t && inF ys t

theorem or_sub {s t : Nat} (h : sub s t = true) (u : Nat) : sub (s ||| u) (t ||| u) = true := by
  rw [sub_or, Bool.and_eq_true, sub_iff, sub_iff]
  rw [sub_iff] at h
  exact ⟨fun i hi => by rw [Nat.testBit_or, h i hi]; rfl, fun i hi => by rw [Nat.testBit_or, hi]; simp⟩
theorem inF_sub {xs : List Int} {s t : Nat} (h : sub s t = true) (k : inF xs t = true) : inF xs s = true := by
  rw [inF_iff] at *
  obtain ⟨f, hf, e⟩ := k
  exact ⟨f, hf, sub_trans h e⟩
theorem starQ_down (xs : List Int) (u : Nat) : Down (starQ xs u) := fun s t _ _ h k => by
  unfold starQ at *
  exact inF_sub (or_sub h u) k
theorem linkQ_down (xs : List Int) (u : Nat) : Down (linkQ xs u) := fun s t hs ht h k => by
  unfold linkQ at *
  rw [Bool.and_eq_true] at *
  exact ⟨apart_mono h k.1, starQ_down xs u s t hs ht h k.2⟩
theorem delQ_down (xs : List Int) (u : Nat) : Down (delQ xs u) := fun s t _ _ h k => by
  unfold delQ at *
  rw [Bool.and_eq_true, Bool.not_eq_true'] at *
  refine ⟨inF_sub h k.1, ?_⟩
  rw [Bool.eq_false_iff]; intro e
  rw [sub_trans e h] at k; cases k.2
theorem pc_sub {s t : Nat} (hs : s < 64) (ht : t < 64) (h : sub s t = true) : pc s ≤ pc t := by
  rcases sub_pc s t hs ht h with e | e
  · omega
  · rw [e]; exact Nat.le_refl _
theorem skelQ_down (xs : List Int) (k : Int) : Down (skelQ xs k) := fun s t hs ht h e => by
  unfold skelQ at *
  rw [Bool.and_eq_true, decide_eq_true_iff] at *
  have := pc_sub hs ht h
  exact ⟨inF_sub h e.1, by omega⟩
theorem indQ_down (xs : List Int) (u : Nat) : Down (indQ xs u) := fun s t _ _ h k => by
  unfold indQ at *
  rw [Bool.and_eq_true] at *
  exact ⟨inF_sub h k.1, sub_trans h k.2⟩
theorem orQ_down (xs ys : List Int) : Down (orQ xs ys) := fun s t _ _ h k => by
  unfold orQ at *
  rw [Bool.or_eq_true] at *
  exact k.imp (inF_sub h) (inF_sub h)
theorem andQ_down (xs ys : List Int) : Down (andQ xs ys) := fun s t _ _ h k => by
  unfold andQ at *
  rw [Bool.and_eq_true] at *
  exact ⟨inF_sub h k.1, inF_sub h k.2⟩

/-- A part: a complex of n points, or none. -/
def partO (ok : Bool) (n : Int) (q : Nat → Bool) : Option (Int × List Int) := if ok = true then some (n, maxQ q) else none
def linkO (n : Int) (xs : List Int) (s : Int) := partO (isC n xs && setB n s) n (linkQ xs s.toNat)
def starO (n : Int) (xs : List Int) (s : Int) := partO (isC n xs && setB n s) n (starQ xs s.toNat)
def delO (n : Int) (xs : List Int) (s : Int) := partO (isC n xs && setB n s) n (delQ xs s.toNat)
def skelO (n : Int) (xs : List Int) (k : Int) := partO (isC n xs && inB 0 6 k) n (skelQ xs k)
def indO (n : Int) (xs : List Int) (s : Int) := partO (isC n xs && setB n s) n (indQ xs s.toNat)
def bothOk (n m : Int) (xs ys : List Int) : Bool := isC n xs && isC m ys && n == m
def unionO (n m : Int) (xs ys : List Int) := partO (bothOk n m xs ys) n (orQ xs ys)
def meetO (n m : Int) (xs ys : List Int) := partO (bothOk n m xs ys) n (andQ xs ys)

end Go.Proofs.Ytenpcjmhlnalcaa

/-! CHAINS of sets of at most six points, of no program: borders, cycles; the border's rank counts cycles; the border of a border is 0. -/

namespace Go.Proofs.Ytenpcjmhlnalcaa
namespace Hom
open Sets Lin

/-- The number of the face t in the border of the face s. -/
def sgn (t s : Nat) : Int := if sub t s = true ∧ pc s = pc t + 1 then 1 - 2 * ((pc (s &&& (s - t - 1)) % 2 : Nat) : Int) else 0
def S (f : Nat → Int) : Int := sm (List.range 64) f
def bd (y : Nat → Int) (t : Nat) : Int := S fun s => sgn t s * y s
/-- The faces of k points. -/
def J (q : Nat → Bool) (k : Nat) : List Nat := (List.range 64).filter fun s => pc s == k && q s

theorem sm_add {α : Type} : ∀ (l : List α) (f g : α → Int), sm l (fun a => f a + g a) = sm l f + sm l g
  | [], _, _ => rfl
  | a :: l, f, g => by
    show f a + g a + sm l (fun a => f a + g a) = f a + sm l f + (g a + sm l g)
    rw [sm_add l f g]; omega
theorem sm_mul {α : Type} (c : Int) : ∀ (l : List α) (f : α → Int), sm l (fun a => c * f a) = c * sm l f
  | [], _ => by simp [sm]
  | a :: l, f => by
    show c * f a + sm l (fun a => c * f a) = c * (f a + sm l f)
    rw [sm_mul c l f]; grind
theorem sm_append {α : Type} (f : α → Int) : ∀ l m : List α, sm (l ++ m) f = sm l f + sm m f
  | [], m => by simp [sm]
  | a :: l, m => by
    show f a + sm (l ++ m) f = f a + sm l f + sm m f
    rw [sm_append f l m]; omega
theorem sm_map {α β : Type} (h : α → β) (f : β → Int) : ∀ l : List α, sm (l.map h) f = sm l fun a => f (h a)
  | [] => rfl
  | a :: l => by
    show f (h a) + sm (l.map h) f = f (h a) + sm l fun a => f (h a)
    rw [sm_map h f l]
theorem sm_swap {α β : Type} (f : α → β → Int) : ∀ (l : List α) (m : List β), sm l (fun a => sm m (f a)) = sm m fun b => sm l fun a => f a b
  | [], m => (sm_zero m _ fun _ _ => rfl).symm
  | a :: l, m => by
    show sm m (f a) + sm l (fun a => sm m (f a)) = sm m fun b => f a b + sm l fun a => f a b
    rw [sm_swap f l m, sm_add]
theorem sm_filter {α : Type} (P : α → Bool) (f : α → Int) : ∀ l : List α, sm (l.filter P) f = sm l fun a => if P a = true then f a else 0
  | [] => rfl
  | a :: l => by
    show _ = (if P a = true then f a else 0) + sm l fun a => if P a = true then f a else 0
    rw [← sm_filter P f l, List.filter_cons]
    split
    · rfl
    · omega
theorem sm_range_add (f : Nat → Int) (a b : Nat) : sm (List.range (a + b)) f = sm (List.range a) f + sm (List.range b) fun s => f (a + s) := by
  rw [List.range_add, sm_append, sm_map]
theorem sm_dvd {α : Type} (p : Int) : ∀ (l : List α) (f g : α → Int), (∀ a ∈ l, p ∣ f a - g a) → p ∣ sm l f - sm l g
  | [], _, _, _ => ⟨0, by simp [sm]⟩
  | a :: l, f, g, h => by
    obtain ⟨k, hk⟩ := h a (List.mem_cons_self ..)
    obtain ⟨m, hm⟩ := sm_dvd p l f g fun b hb => h b (List.mem_cons_of_mem _ hb)
    refine ⟨k + m, ?_⟩
    show f a + sm l f - (g a + sm l g) = p * (k + m)
    grind
theorem sm_count {α : Type} (P : α → Bool) : ∀ l : List α, ((l.filter P).length : Int) = sm l fun a => if P a = true then 1 else 0
  | [] => rfl
  | a :: l => by
    show _ = (if P a = true then 1 else 0) + sm l fun a => if P a = true then 1 else 0
    rw [← sm_count P l, List.filter_cons]
    split
    · rw [List.length_cons]; omega
    · omega

theorem mem_J (q : Nat → Bool) (k s : Nat) : s ∈ J q k ↔ s < 64 ∧ pc s = k ∧ q s = true := by unfold J; rw [List.mem_filter, List.mem_range, Bool.and_eq_true, beq_iff_eq]
theorem J_nodup (q : Nat → Bool) (k : Nat) : (J q k).Nodup := List.nodup_range.filter _

/-- The matrix of the border of the faces of k points, its rank modulo a prime. -/
def bdm (q : Nat → Bool) (k : Nat) : Mat := (J q (k - 1)).map fun t => (J q k).map fun s => sgn t s
def rk (p : Nat) (q : Nat → Bool) (k : Nat) : Nat := if k = 0 then 0 else rank p (bdm q k) (J q k).length
/-- Chains of faces of k points; those without a border. -/
def Chn (p : Nat) (q : Nat → Bool) (k : Nat) (y : Nat → Int) : Prop := Vec p (J q k) y
def Cyc (p : Nat) (q : Nat → Bool) (k : Nat) (y : Nat → Int) : Prop := Vec p (J q k) y ∧ ∀ t, t < 64 → (p : Int) ∣ bd y t

theorem card_chn (p : Nat) (q : Nat → Bool) (k : Nat) : Card (Chn p q k) (p ^ (J q k).length) := card_vec p _ (J_nodup q k)

theorem dot_map (h : Nat → Int) (y : Nat → Int) : ∀ l : List Nat, dot (l.map h) (fun j => y (l.getD j 64)) = sm l fun s => h s * y s
  | [] => rfl
  | a :: l => by
    show h a * y a + dot (l.map h) (fun j => y (l.getD j 64)) = h a * y a + sm l fun s => h s * y s
    rw [dot_map h y l]

theorem vec_getD {l : List Nat} {j : Nat} (h : j < l.length) (d : Nat) : l.getD j d = l[j] := by simp [List.getD, List.getElem?_eq_getElem h]

/-- Vectors by place and vectors by index. -/
theorem card_index {p : Nat} {l : List Nat} (hn : l.Nodup) (h64 : 64 ∉ l) (T : (Nat → Int) → Prop) {c : Nat} (h : Card (fun x => Vec p (List.range l.length) x ∧ T fun s => if s ∈ l then x (l.idxOf s) else 0) c) : Card (fun y => Vec p l y ∧ T y) c := by
  refine h.bij (fun x s => if s ∈ l then x (l.idxOf s) else 0) (fun y j => y (l.getD j 64)) ?_ ?_ ?_ ?_
  · rintro x ⟨hx, ht⟩
    refine ⟨⟨fun s hs => ?_, fun s hs => if_neg hs⟩, ht⟩
    dsimp only; rw [if_pos hs]
    exact hx.1 _ (List.mem_range.2 (List.idxOf_lt_length_of_mem hs))
  · rintro y ⟨hy, ht⟩
    refine ⟨⟨fun j hj => ?_, fun j hj => ?_⟩, ?_⟩
    · have hj' := List.mem_range.1 hj
      dsimp only; rw [vec_getD hj']; exact hy.1 _ (List.getElem_mem hj')
    · dsimp only
      rw [show l.getD j 64 = 64 by simp [List.getD, List.getElem?_eq_none (by rw [List.mem_range] at hj; omega : l.length ≤ j)]]
      exact hy.2 _ h64
    · rw [show (fun s => if s ∈ l then y (l.getD (l.idxOf s) 64) else 0) = y from ?_]; exact ht
      funext s
      by_cases e : s ∈ l
      · rw [if_pos e, vec_getD (List.idxOf_lt_length_of_mem e), List.getElem_idxOf]
      · rw [if_neg e]; exact (hy.2 s e).symm
  · rintro x ⟨hx, _⟩
    funext j
    dsimp only
    by_cases e : j < l.length
    · rw [vec_getD e, if_pos (List.getElem_mem e), hn.idxOf_getElem j e]
    · rw [show l.getD j 64 = 64 by simp [List.getD, List.getElem?_eq_none (by omega : l.length ≤ j)], if_neg h64]
      exact (hx.2 j (fun hm => e (List.mem_range.1 hm))).symm
  · rintro y ⟨hy, _⟩
    funext s
    dsimp only
    by_cases e : s ∈ l
    · rw [if_pos e, vec_getD (List.idxOf_lt_length_of_mem e), List.getElem_idxOf]
    · rw [if_neg e]; exact (hy.2 s e).symm

theorem sgn_zero {t s : Nat} (h : ¬(sub t s = true ∧ pc s = pc t + 1)) : sgn t s = 0 := if_neg h

/-- The border's sum over all sets is that over the faces. -/
theorem bd_faces {p : Nat} {q : Nat → Bool} {k : Nat} {y : Nat → Int} (hy : Vec p (J q k) y) (t : Nat) : bd y t = sm (J q k) fun s => sgn t s * y s := by
  unfold bd S J
  rw [sm_filter]
  refine sm_congr _ _ _ fun s hs => ?_
  split
  · rfl
  · rw [hy.2 s (fun hm => by unfold J at hm; exact absurd (List.mem_filter.1 hm).2 (by assumption))]; simp

/-- The border of a chain lies on faces. -/
theorem bd_off {p : Nat} {q : Nat → Bool} (hq : Down q) {k : Nat} {y : Nat → Int} (hy : Vec p (J q k) y) {t : Nat} (ht : t < 64) (h : ¬(q t = true ∧ pc t + 1 = k)) : bd y t = 0 := by
  rw [bd_faces hy]
  refine sm_zero _ _ fun s hs => ?_
  obtain ⟨h1, h2, h3⟩ := (mem_J q k s).1 hs
  rw [sgn_zero (fun hh => h ⟨hq t s ht h1 hh.1 h3, by omega⟩)]; simp

/-- THE BORDER's RANK COUNTS CYCLES. -/
theorem card_cyc {p : Nat} (hP : IsP p) {q : Nat → Bool} (hq : Down q) (k : Nat) : Card (Cyc p q k) (p ^ ((J q k).length - rk p q k)) ∧ rk p q k ≤ (J q k).length := by
  have h64 : ∀ k, 64 ∉ J q k := fun k h => by have := ((mem_J q k 64).1 h).1; omega
  cases k with
  | zero =>
    refine ⟨?_, Nat.zero_le _⟩
    show Card (Cyc p q 0) (p ^ ((J q 0).length - 0))
    refine (card_chn p q 0).congr fun y => ⟨fun h => ⟨h, fun t ht => ?_⟩, fun h => h.1⟩
    rw [bd_off hq h ht (by omega)]; exact ⟨0, by simp⟩
  | succ k =>
    have hw : ∀ r ∈ bdm q (k + 1), r.length = (J q (k + 1)).length := fun r hr => by
      obtain ⟨t, _, rfl⟩ := List.mem_map.1 hr; rw [List.length_map]
    obtain ⟨hc, hl⟩ := rank_card hP hw
    refine ⟨?_, hl⟩
    refine card_index (J_nodup q (k + 1)) (h64 _) (fun y => ∀ t, t < 64 → (p : Int) ∣ bd y t) (hc.congr fun x => ?_)
    unfold Ker
    refine and_congr_right fun hx => ?_
    have hy : Vec p (J q (k + 1)) fun s => if s ∈ J q (k + 1) then x ((J q (k + 1)).idxOf s) else 0 :=
      ⟨fun s hs => by dsimp only; rw [if_pos hs]; exact hx.1 _ (List.mem_range.2 (List.idxOf_lt_length_of_mem hs)), fun s hs => if_neg hs⟩
    have key : ∀ t, dot ((J q (k + 1)).map fun s => sgn t s) x = bd (fun s => if s ∈ J q (k + 1) then x ((J q (k + 1)).idxOf s) else 0) t := fun t => by
      rw [bd_faces hy, ← dot_map (fun s => sgn t s)]
      refine dot_congr _ _ _ fun j hj => ?_
      rw [List.length_map] at hj
      rw [vec_getD hj, if_pos (List.getElem_mem hj), (J_nodup q (k + 1)).idxOf_getElem j hj]
    constructor
    · intro h t ht
      by_cases e : q t = true ∧ pc t + 1 = k + 1
      · rw [← key]
        exact h _ (List.mem_map.2 ⟨t, (mem_J q _ t).2 ⟨ht, by omega, e.1⟩, rfl⟩)
      · rw [bd_off hq hy ht e]; exact ⟨0, by simp⟩
    · intro h r hr
      obtain ⟨t, ht, rfl⟩ := List.mem_map.1 hr
      rw [key]
      exact h t ((mem_J q _ t).1 ht).1

/-! ### the border of a border -/

theorem sgn_sgn0 : ∀ t u : Fin 64, (sub t.val u.val && pc u.val == pc t.val + 2) = true → (sm (List.range 64) fun s => sgn t.val s * sgn s u.val) = 0 := by decide +kernel
theorem sgn_sgn (t u : Nat) (ht : t < 64) (hu : u < 64) : (sm (List.range 64) fun s => sgn t s * sgn s u) = 0 := by
  by_cases h : (sub t u && pc u == pc t + 2) = true
  · exact sgn_sgn0 ⟨t, ht⟩ ⟨u, hu⟩ h
  · refine sm_zero _ _ fun s _ => ?_
    by_cases h1 : sub t s = true ∧ pc s = pc t + 1
    · by_cases h2 : sub s u = true ∧ pc u = pc s + 1
      · exact absurd (by rw [sub_trans h1.1 h2.1, show pc u = pc t + 2 by omega]; simp) h
      · rw [sgn_zero h2]; simp
    · rw [sgn_zero h1]; simp
theorem bd_bd (y : Nat → Int) {t : Nat} (ht : t < 64) : bd (bd y) t = 0 := by
  unfold bd S
  rw [sm_congr _ _ (fun s => sm (List.range 64) fun u => sgn t s * sgn s u * y u) fun s _ => by
    rw [← sm_mul]; exact sm_congr _ _ _ fun u _ => by grind]
  rw [sm_swap]
  refine sm_zero _ _ fun u hu => ?_
  have := sgn_sgn t u ht (List.mem_range.1 hu)
  rw [sm_congr _ _ (fun s => y u * (sgn t s * sgn s u)) fun s _ => by grind, sm_mul, this]; simp

end Hom
end Go.Proofs.Ytenpcjmhlnalcaa

/-! WALKS: impl.setsWhere: the sets that meet a predicate, in order. -/

namespace Go.Proofs.Ytenpcjmhlnalcaa
open Go.RowKit
open Sets

/-- What is asked of the predicate: at every set, in every later world, it answers p and leaves all as it was. -/
def Pred (g : Nat) (lb : Array Value) (p : Nat → Bool) (w : World) : Prop :=
  ∀ (W : World) (s : Nat), s < 64 → Below w.heap.size w W → Calls Try.prog g (#[.int .i64 (s : Int)] ++ lb) W fun e w' => e = .returned (.bool (p s)) ∧ W = w'
theorem Pred.at {g : Nat} {lb : Array Value} {p : Nat → Bool} {w : World} (h : Pred g lb p w) (W : World) (s : Nat) (b : Bool) (hb : p s = b) (hs : s < 64) (hB : Below w.heap.size w W) :
    Calls Try.prog g (#[.int .i64 (s : Int)] ++ lb) W fun e w' => e = .returned (.bool b) ∧ W = w' := by
  subst hb; exact h W s hs hB

set_option maxRecDepth 100000 in
set_option maxHeartbeats 4000000 in
theorem setsWhere_any (g : Nat) (lb : Array Value) (p : Nat → Bool) (w : World) (eg : ∀ args w, (callFunc g args).run Try.prog w = .ok (.enter g args) w) (hp : Pred g lb p w) :
    Calls Try.prog 64 #[.func (.func g) #[] lb] w fun e w' => ∃ v, e = .returned v ∧ OwnInts w' w.heap.size v (ord p) ∧ Below w.heap.size w w' := by
  obtain ⟨i0, hi, hz0, hz1, hz2⟩ := info_parts info_int
  have HPR := Lib.hid hp
  clear hp
  go_enter Try.func64, Try.ntmps64
  go_wp2
  go_loopw [3, 6] (fun v i wr => ∃ k : Nat, k ≤ 7 ∧ i = .int .i64 (k : Int) ∧ OwnInts wr w.heap.size v (upto p k 0) ∧ Below w.heap.size w wr) (fun _ i _ => 7 - (intOf i).toNat)
  case atStart => exact ⟨0, by omega, rfl, OwnInts.nil _ _, Below.refl _ _⟩
  case round =>
    obtain ⟨k, hk, rfl, hO, hB⟩ := hrel
    have HO := Lib.hid hO
    clear hO
    obtain ⟨wo, rfl⟩ : ∃ wo : World, wo = wr := ⟨_, rfl⟩
    by_cases hlt : k < 7
    · have hlt7 : decide ((k : Int) < 7) = true := by simp; omega
      go_wp2
      go_loopw [3, 9] (fun v i wr => ∃ n : Nat, n ≤ 64 ∧ i = .int .i64 (n : Int) ∧ OwnInts wr w.heap.size v (upto p k n) ∧ Below w.heap.size w wr) (fun _ i _ => 64 - (intOf i).toNat)
      case atStart => exact ⟨0, by omega, rfl, HO.out, hB⟩
      case round =>
        clear hB HO
        obtain ⟨n, hn, rfl, hO, hB⟩ := hrel
        unfold OwnInts at hO
        have HO := Lib.hid hO
        clear hO
        have hsz := hB.size
        have hl := upto_length p k n
        by_cases hln : n < 64
        · have hpn := pc_le n
          by_cases hq : pc n = k
          · have hq' : ((pc n : Int) == (k : Int)) = true := by rw [hq]; simp
            have HQ := Lib.hid hq
            clear hq
            cases hp : p n with
            | true =>
              have HP := Lib.hid hp
              clear hp
              go_wp2_with fail
              refine (implSizeOf_nat n hln _).mono ?_
              rintro e w' ⟨rfl, rfl⟩
              go_wp2_with (first | (at_builtin; refine wpList_append_own _ rfl _ _ 22 rfl w.heap.size 3 i0 (.int .i64 0) 1 8 Try.underlying22 hi hz0 hz1 hz2 rfl (by decide) _ _ _ rfl (HO.out.alloc _) ⟨wr.heap.size, 0, none⟩ 1 1 [.int .i64 (n : Int)] rfl rfl ?c1 ?c2 ?c3 ?c4 ?c5 ?_) | (go_at_fn g; refine (HPR.out.at _ n true HP.out hln hB).mono ?_; rintro e w' ⟨rfl, rfl⟩))
              case c1 => intro j u hj; exact Mem.cell_new wr _ _ j u hj
              case c2 => intro u hu; simp at hu; subst hu; rfl
              case c3 => unfold maxLen; omega
              case c4 => omega
              case c5 => simp; omega
              intro v' w1 hown1 hgrow _
              have hB1 : Below w.heap.size w w1 := (hB.alloc hsz _).grown hgrow (by simp; omega) (fun g hg => (HO.out.lt g hg).1)
              have H1 := Lib.hid hown1
              clear hown1 hgrow
              go_wp2
              go_roundw
              case rel => exact ⟨n + 1, by omega, by go_num, by rw [upto_hit p k n HQ.out HP.out]; exact OwnInts.next H1.out, hB1⟩
              case measure => simp [intOf]; omega
            | false =>
              have HP := Lib.hid hp
              clear hp
              go_wp2_with fail
              refine (implSizeOf_nat n hln _).mono ?_
              rintro e w' ⟨rfl, rfl⟩
              go_wp2_with (go_at_fn g; refine (HPR.out.at _ n false HP.out hln hB).mono ?_; rintro e w' ⟨rfl, rfl⟩)
              go_roundw
              case rel => exact ⟨n + 1, by omega, by go_num, by rw [upto_miss p k n (fun h => by rw [HP.out] at h; simp at h)]; exact HO.out, hB⟩
              case measure => simp [intOf]; omega
          · have hq' : ((pc n : Int) == (k : Int)) = false := by simp; omega
            have HQ := Lib.hid hq
            clear hq
            go_wp2_with fail
            refine (implSizeOf_nat n hln _).mono ?_
            rintro e w' ⟨rfl, rfl⟩
            go_wp2
            go_roundw
            case rel => exact ⟨n + 1, by omega, by go_num, by rw [upto_miss p k n (fun h => HQ.out h.1)]; exact HO.out, hB⟩
            case measure => simp [intOf]; omega
        · have E := Lib.hid (show n = 64 by omega)
          go_wp2
          go_roundw
          case rel =>
            have h2 := HO.out
            rw [E.out, upto_line] at h2
            exact ⟨k + 1, by omega, by go_num, h2, hB⟩
          case measure => simp [intOf]; omega
    · have E := Lib.hid (show k = 7 by omega)
      go_wp2
      go_ret
      have h2 := HO.out
      rw [E.out, upto_end] at h2
      exact ⟨_, rfl, h2, hB⟩

end Go.Proofs.Ytenpcjmhlnalcaa
