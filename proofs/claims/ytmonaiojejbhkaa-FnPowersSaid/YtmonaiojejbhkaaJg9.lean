/-
  TEXTS of one claim, put together: Kk1, Kk2, Kk3, Sh2.
-/
import Derived.Test.YtmonaiojejbhkaaJg1
import Derived.Test.YtmonaiojejbhkaaJg2
import Derived.Test.YtmonaiojejbhkaaSh1
/-! COUNTS OF FACES OF COMPLEXES OF SIX POINTS, of no program: which counts there can be (the theorem of Kruskal and Katona, for six points). -/

namespace Go.Proofs.Ytmonaiojejbhkaa.Kk
open Sets Hn

/-! ### predicates on a list as bits of a number -/
def enc (p : Nat → Bool) : List Nat → Nat
  | [] => 0
  | s :: r => (p s).toNat + 2 * enc p r
theorem enc_lt (p : Nat → Bool) : ∀ L : List Nat, enc p L < 2 ^ L.length
  | [] => by simp [enc]
  | s :: r => by
    have h := enc_lt p r
    have hb : (p s).toNat ≤ 1 := Bool.toNat_le _
    rw [enc, List.length_cons, Nat.pow_succ]
    omega
theorem enc_bit (p : Nat → Bool) : ∀ (L : List Nat) (i : Nat), i < L.length → (enc p L).testBit i = p (L.getD i 0)
  | [], i, h => by simp at h
  | s :: r, 0, _ => by
    rw [enc, Nat.testBit_zero]
    cases hp : p s
    · simp [hp]
    · simp [hp]
  | s :: r, i + 1, h => by
    rw [enc, Nat.testBit_succ]
    have e : ((p s).toNat + 2 * enc p r) / 2 = enc p r := by
      have hb : (p s).toNat ≤ 1 := Bool.toNat_le _
      omega
    rw [e, enc_bit p r i (by simpa using h)]
    rfl
/-- How many of the first f bits are set. -/
def bits : Nat → Nat → Nat
  | 0, _ => 0
  | f + 1, g => g % 2 + bits f (g / 2)
theorem bits_enc (p : Nat → Bool) : ∀ L : List Nat, bits L.length (enc p L) = L.countP p
  | [] => rfl
  | s :: r => by
    have hb : (p s).toNat ≤ 1 := Bool.toNat_le _
    rw [List.length_cons, bits, enc, List.countP_cons]
    rw [show ((p s).toNat + 2 * enc p r) / 2 = enc p r by omega, bits_enc p r]
    cases p s
    · simp
    · simp; omega
/-- Masks that lie within g. -/
def within (g : Nat) : List Nat → Nat
  | [] => 0
  | m :: r => (Nat.beq (Nat.land g m) m).toNat + within g r
theorem within_ge (g : Nat) (q : Nat → Bool) (f : Nat → Nat) : ∀ L : List Nat, (∀ s ∈ L, q s = true → Nat.land g (f s) = f s) → L.countP q ≤ within g (L.map f)
  | [], _ => by simp [within]
  | s :: r, h => by
    have ih := within_ge g q f r (fun t ht => h t (List.mem_cons_of_mem _ ht))
    rw [List.countP_cons, List.map_cons, within]
    cases hq : q s with
    | false => simp only [if_neg Bool.false_ne_true]; omega
    | true =>
      have e := h s (List.mem_cons_self ..) hq
      rw [e]
      have : Nat.beq (f s) (f s) = true := by rw [Nat.beq_eq]
      rw [this]
      simp only [if_true, Bool.toNat_true]
      omega
theorem land_of (g m n : Nat) (hm : m < 2 ^ n) (h : ∀ i, i < n → m.testBit i = true → g.testBit i = true) : Nat.land g m = m := by
  show g &&& m = m
  apply Nat.eq_of_testBit_eq
  intro i
  rw [Nat.testBit_and]
  rcases Nat.lt_or_ge i n with hi | hi
  · cases hb : m.testBit i with
    | false => rw [Bool.and_false]
    | true => rw [h i hi hb]; rfl
  · rw [Nat.testBit_lt_two_pow (Nat.lt_of_lt_of_le hm (Nat.pow_le_pow_right (by decide) hi)), Bool.and_false]

/-- All below n. -/
def every (f : Nat → Bool) : Nat → Bool
  | 0 => true
  | n + 1 => f n && every f n
theorem every_at {f : Nat → Bool} : ∀ {n : Nat}, every f n = true → ∀ i, i < n → f i = true
  | 0, _, i, h => by omega
  | n + 1, h, i, hi => by
    rw [every, Bool.and_eq_true] at h
    rcases Nat.lt_or_eq_of_le (Nat.le_of_lt_succ hi) with e | e
    · exact every_at h.2 i e
    · rw [e]; exact h.1

/-! ### the sets of six points -/
def ones : List Nat := [1, 2, 4, 8, 16, 32]
def twos : List Nat := [3, 5, 6, 9, 10, 12, 17, 18, 20, 24, 33, 34, 36, 40, 48]
def threes : List Nat := [7, 11, 13, 14, 19, 21, 22, 25, 26, 28, 35, 37, 38, 41, 42, 44, 49, 50, 52, 56]
def co (L : List Nat) : List Nat := L.map fun s => 63 - s

theorem cnt_list (k : Nat) (L : List Nat) (h : (ord fun _ => true).filter (fun x => pc x.toNat == k) = L.map Int.ofNat) (p : Nat → Bool) : cnt k (ord p) = L.countP p := by
  have e : cnt k (ord p) = ((ord fun _ => true).filter fun x => pc x.toNat == k).countP fun x => p x.toNat := by
    rw [List.countP_filter, ord_filter p]
    unfold cnt
    rw [List.countP_filter]
    apply List.countP_congr
    intro x _
    rw [Bool.and_comm]
  rw [e, h, List.countP_map]
  rfl
theorem cnt1 (p : Nat → Bool) : cnt 1 (ord p) = ones.countP p := cnt_list 1 ones (by decide +kernel) p
theorem cnt2 (p : Nat → Bool) : cnt 2 (ord p) = twos.countP p := cnt_list 2 twos (by decide +kernel) p
theorem cnt3 (p : Nat → Bool) : cnt 3 (ord p) = threes.countP p := cnt_list 3 threes (by decide +kernel) p
theorem cnt4 (p : Nat → Bool) : cnt 4 (ord p) = (co twos).reverse.countP p := cnt_list 4 (co twos).reverse (by decide +kernel) p
theorem cnt5 (p : Nat → Bool) : cnt 5 (ord p) = (co ones).reverse.countP p := cnt_list 5 (co ones).reverse (by decide +kernel) p
theorem cnt6 (p : Nat → Bool) : cnt 6 (ord p) = [63].countP p := cnt_list 6 [63] (by decide +kernel) p
theorem cnt0 (p : Nat → Bool) : cnt 0 (ord p) = [0].countP p := cnt_list 0 [0] (by decide +kernel) p
theorem count_co (p : Nat → Bool) (L : List Nat) : (co L).reverse.countP p = L.countP fun s => p (63 - s) := by
  rw [List.countP_reverse]
  unfold co
  rw [List.countP_map]
  rfl
theorem count_not (p : Nat → Bool) (L : List Nat) : L.countP (fun s => !p s) = L.length - L.countP p := by
  have h := List.length_eq_countP_add_countP p (l := L)
  have e : L.countP (fun a => decide ¬p a = true) = L.countP fun s => !p s := by
    apply List.countP_congr
    intro x _
    cases p x <;> simp
  rw [e] at h
  omega

/-- The same of five points. -/
def lo1 : List Nat := [1, 2, 4, 8, 16]
def lo2 : List Nat := [3, 5, 6, 9, 10, 12, 17, 18, 20, 24]
def lo3 : List Nat := [7, 11, 13, 14, 19, 21, 22, 25, 26, 28]
theorem twos_split : twos = lo2 ++ lo1.map (32 + ·) := by decide
theorem threes_split : threes = lo3 ++ lo2.map (32 + ·) := by decide
/-- What lies in a set, as a mask over a list. -/
def mask (L : List Nat) (t : Nat) : Nat := enc (fun s => sub s t) L

/-- The most triangles with so many edges. -/
def tmax (e : Nat) : Nat := [0, 0, 0, 1, 1, 2, 4, 4, 5, 7, 10, 10, 11, 13, 16, 20].getD e 0
def pmax (v : Nat) : Nat := [0, 0, 1, 3, 6, 10, 15].getD v 0
theorem masks3 : lo3.map (mask lo2) = [7, 25, 42, 52, 193, 322, 388, 584, 656, 800] := by decide +kernel
theorem masks2 : twos.map (mask ones) = twos := by decide +kernel
theorem masks2l : lo2.map (mask lo1) = lo2 := by decide +kernel

theorem graphs : every (fun a => Nat.ble (within a [7, 25, 42, 52, 193, 322, 388, 584, 656, 800]) (tmax (bits 10 a))) 1024 = true := by decide +kernel
theorem points : every (fun a => Nat.ble (within a twos) (pmax (bits 6 a))) 64 = true := by decide +kernel
theorem points5 : every (fun a => Nat.ble (within a lo2) (pmax (bits 5 a))) 32 = true := by decide +kernel
theorem add_up : ∀ e : Fin 11, ∀ d : Fin 6, tmax e.val + min e.val (pmax d.val) ≤ tmax (e.val + d.val) := by decide +kernel

/-- Of sets whose parts all hold there are few. -/
theorem few (A B : List Nat) (M : List Nat) (mx : Nat → Nat) (hM : B.map (mask A) = M) (hc : every (fun a => Nat.ble (within a M) (mx (bits A.length a))) (2 ^ A.length) = true)
    (p q : Nat → Bool) (h : ∀ t ∈ B, q t = true → ∀ s ∈ A, sub s t = true → p s = true) : B.countP q ≤ mx (A.countP p) := by
  have h1 := within_ge (enc p A) q (mask A) B (fun t ht hq => land_of _ _ A.length (enc_lt _ _) fun i hi hb => by
    rw [enc_bit p A i hi]
    unfold mask at hb
    rw [enc_bit _ A i hi] at hb
    have hm : A.getD i 0 ∈ A := by rw [List.getD, List.getElem?_eq_getElem hi]; exact List.getElem_mem hi
    exact h t ht hq _ hm hb)
  rw [hM] at h1
  have h3 := Nat.le_of_ble_eq_true (every_at hc (enc p A) (enc_lt p A))
  rw [bits_enc p A] at h3
  exact Nat.le_trans h1 h3
theorem few2 (p q : Nat → Bool) (h : ∀ t ∈ twos, q t = true → ∀ s ∈ ones, sub s t = true → p s = true) : twos.countP q ≤ pmax (ones.countP p) :=
  few ones twos twos pmax masks2 points p q h
theorem hi_sub : ∀ s t : Fin 32, sub s.val t.val = true → sub (32 + s.val) (32 + t.val) = true := by decide +kernel
theorem hi_low : ∀ t : Fin 32, sub t.val (32 + t.val) = true := by decide +kernel
theorem few3 (p q : Nat → Bool) (h : ∀ t ∈ threes, q t = true → ∀ s ∈ twos, sub s t = true → p s = true) : threes.countP q ≤ tmax (twos.countP p) := by
  have i1 : ∀ s ∈ lo1, s < 32 := by decide
  have i2 : ∀ s ∈ lo2, s < 32 := by decide
  rw [threes_split, twos_split] at h
  have h1 : lo3.countP q ≤ tmax (lo2.countP p) := few lo2 lo3 [7, 25, 42, 52, 193, 322, 388, 584, 656, 800] tmax masks3 graphs p q (fun t ht hq s hs hst => h t (List.mem_append_left _ ht) hq s (List.mem_append_left _ hs) hst)
  have h2 : lo2.countP (fun s => q (32 + s)) ≤ lo2.countP p := by
    apply List.countP_mono_left
    intro s hs hq
    exact h (32 + s) (List.mem_append_right _ (List.mem_map.2 ⟨s, hs, rfl⟩)) hq s (List.mem_append_left _ hs) (hi_low ⟨s, i2 s hs⟩)
  have h3 : lo2.countP (fun s => q (32 + s)) ≤ pmax (lo1.countP fun s => p (32 + s)) := few lo1 lo2 lo2 pmax masks2l points5 (fun s => p (32 + s)) (fun s => q (32 + s)) (fun t ht hq s hs hst =>
    h (32 + t) (List.mem_append_right _ (List.mem_map.2 ⟨t, ht, rfl⟩)) hq (32 + s) (List.mem_append_right _ (List.mem_map.2 ⟨s, hs, rfl⟩)) (hi_sub ⟨s, i1 s hs⟩ ⟨t, i2 t ht⟩ hst))
  rw [threes_split, twos_split, List.countP_append, List.countP_append, List.countP_map, List.countP_map]
  have he : lo2.countP p ≤ 10 := List.countP_le_length
  have hd : (lo1.countP fun s => p (32 + s)) ≤ 5 := List.countP_le_length
  have ha := add_up ⟨lo2.countP p, by omega⟩ ⟨lo1.countP fun s => p (32 + s), by omega⟩
  dsimp only at ha
  have e1 : List.countP (q ∘ (32 + ·)) lo2 = lo2.countP fun s => q (32 + s) := rfl
  have e2 : List.countP (p ∘ (32 + ·)) lo1 = lo1.countP fun s => p (32 + s) := rfl
  rw [e1, e2]
  omega

theorem ones_lt : ∀ s ∈ ones, s < 64 := by decide
theorem twos_lt : ∀ s ∈ twos, s < 64 := by decide
theorem threes_lt : ∀ s ∈ threes, s < 64 := by decide
theorem co_sub : ∀ s t : Fin 64, sub s.val t.val = true → sub (63 - t.val) (63 - s.val) = true := by decide +kernel
theorem co_down {p : Nat → Bool} (hd : Down p) {s t : Nat} (hs : s < 64) (ht : t < 64) (h : sub s t = true) (hp : p (63 - s) = true) : p (63 - t) = true :=
  hd (63 - t) (63 - s) (by omega) (by omega) (co_sub ⟨s, hs⟩ ⟨t, ht⟩ h) hp

theorem le2 {p : Nat → Bool} (hd : Down p) : cnt 2 (ord p) ≤ pmax (cnt 1 (ord p)) := by
  rw [cnt2, cnt1]
  exact few2 p p (fun t ht hq s hs h => hd s t (ones_lt s hs) (twos_lt t ht) h hq)
theorem le3 {p : Nat → Bool} (hd : Down p) : cnt 3 (ord p) ≤ tmax (cnt 2 (ord p)) := by
  rw [cnt3, cnt2]
  exact few3 p p (fun t ht hq s hs h => hd s t (twos_lt s hs) (threes_lt t ht) h hq)
theorem threes_co (p : Nat → Bool) : threes.countP (fun s => p (63 - s)) = threes.countP p := by
  have e : (co threes).reverse = threes := by decide
  rw [← count_co p threes, e]
theorem le4 {p : Nat → Bool} (hd : Down p) : 20 - cnt 3 (ord p) ≤ tmax (15 - cnt 4 (ord p)) := by
  have h := few3 (fun s => !p (63 - s)) (fun s => !p (63 - s)) (fun t ht hq s hs h => by
    cases hp : p (63 - s) with
    | false => rfl
    | true =>
      have := co_down hd (twos_lt s hs) (threes_lt t ht) h hp
      rw [this] at hq
      cases hq)
  rw [count_not (fun s => p (63 - s)), count_not (fun s => p (63 - s)), threes_co] at h
  rw [cnt3, cnt4, count_co]
  exact h
theorem le5 {p : Nat → Bool} (hd : Down p) : 15 - cnt 4 (ord p) ≤ pmax (6 - cnt 5 (ord p)) := by
  have h := few2 (fun s => !p (63 - s)) (fun s => !p (63 - s)) (fun t ht hq s hs h => by
    cases hp : p (63 - s) with
    | false => rfl
    | true =>
      have := co_down hd (ones_lt s hs) (twos_lt t ht) h hp
      rw [this] at hq
      cases hq)
  rw [count_not (fun s => p (63 - s)), count_not (fun s => p (63 - s))] at h
  rw [cnt4, cnt5, count_co, count_co]
  exact h
theorem le6 {p : Nat → Bool} (hd : Down p) (h : 0 < cnt 6 (ord p)) : cnt 5 (ord p) = 6 := by
  rw [cnt6] at h
  have hp : p 63 = true := by
    rw [List.countP_pos_iff] at h
    obtain ⟨a, ha, hpa⟩ := h
    simp at ha
    rwa [ha] at hpa
  rw [cnt5]
  have : ∀ s ∈ (co ones).reverse, p s = true := fun s hs => hd s 63 ((by decide : ∀ s ∈ (co ones).reverse, s < 64) s hs) (by decide) ((by decide : ∀ s ∈ (co ones).reverse, sub s 63 = true) s hs) hp
  rw [List.countP_eq_length.2 this]
  rfl

end Go.Proofs.Ytmonaiojejbhkaa.Kk

/-! CASCADES AND BOUNDS OF SHADOWS, of no program; counts of complexes of six points are possible ones. -/

namespace Go.Proofs.Ytmonaiojejbhkaa.Kk
open Sets Hn

theorem ch_pos : ∀ (n k : Nat), k ≤ n → 1 ≤ ch n k
  | _, 0, _ => by rw [ch_zero]; exact Nat.le_refl _
  | 0, k + 1, h => by omega
  | n + 1, k + 1, h => by rw [ch_next]; have := ch_pos n k (by omega); omega
theorem ch_full : ∀ n : Nat, ch n n = 1
  | 0 => rfl
  | n + 1 => by rw [ch_next, ch_full n, ch_gt n (n + 1) (by omega)]
theorem ch_grow : ∀ (n k : Nat), 1 ≤ k → k ≤ n → n + 1 ≤ ch n k + k
  | 0, k, h1, h2 => by omega
  | n + 1, 0, h1, _ => by omega
  | n + 1, k + 1, _, h2 => by
    rw [ch_next]
    rcases Nat.lt_or_eq_of_le h2 with h | h
    · have h3 := ch_grow n (k + 1) (by omega) (by omega)
      have h4 := ch_pos n k (by omega)
      omega
    · have : k = n := by omega
      subst this
      rw [ch_full]; omega
theorem ch_up (n i : Nat) (h : 1 ≤ i) : ch n i ≤ ch (n + 1) i := by
  cases i with
  | zero => omega
  | succ i => rw [ch_next]; omega
theorem ch_mono {n m i : Nat} (h : 1 ≤ i) (hm : n ≤ m) : ch n i ≤ ch m i := by
  induction m with
  | zero => have : n = 0 := by omega
            subst this; exact Nat.le_refl _
  | succ m ih =>
    rcases Nat.lt_or_eq_of_le hm with e | e
    · exact Nat.le_trans (ih (by omega)) (ch_up m i h)
    · rw [e]; exact Nat.le_refl _

/-- The greatest a for which there are at most m ways. -/
def grF (m i : Nat) : Nat → Nat → Nat
  | 0, a => a
  | f + 1, a => if ch (a + 1) i ≤ m then grF m i f (a + 1) else a
def gr (m i : Nat) : Nat := grF m i 1001 i
theorem grF_spec (m i : Nat) (hi : 1 ≤ i) : ∀ f a, i ≤ a → ch a i ≤ m → m + i < a + f + 2 → i ≤ grF m i f a ∧ a ≤ grF m i f a ∧ ch (grF m i f a) i ≤ m ∧ m < ch (grF m i f a + 1) i
  | 0, a, h1, h2, h3 => ⟨h1, Nat.le_refl _, h2, by have := ch_grow (a + 1) i hi (by omega); show m < ch (a + 1) i; omega⟩
  | f + 1, a, h1, h2, h3 => by
    rw [grF]
    by_cases e : ch (a + 1) i ≤ m
    · rw [if_pos e]
      have := grF_spec m i hi f (a + 1) (by omega) e (by omega)
      exact ⟨this.1, by omega, this.2.2⟩
    · rw [if_neg e]
      exact ⟨h1, Nat.le_refl _, h2, by omega⟩
theorem gr_spec {m i : Nat} (hi : 1 ≤ i) (hm : 1 ≤ m) (hm2 : m ≤ 1000) : i ≤ gr m i ∧ ch (gr m i) i ≤ m ∧ m < ch (gr m i + 1) i := by
  have := grF_spec m i hi 1001 i (Nat.le_refl _) (by rw [ch_full]; exact hm) (by omega)
  exact ⟨this.1, this.2.2⟩
theorem gr_unique {m i a : Nat} (hi : 1 ≤ i) (hm : 1 ≤ m) (hm2 : m ≤ 1000) (h1 : ch a i ≤ m) (h2 : m < ch (a + 1) i) : gr m i = a := by
  obtain ⟨g0, g1, g2⟩ := gr_spec hi hm hm2
  rcases Nat.lt_trichotomy (gr m i) a with h | h | h
  · have := ch_mono hi (show gr m i + 1 ≤ a by omega); omega
  · exact h
  · have := ch_mono hi (show a + 1 ≤ gr m i by omega); omega

/-- CascadeOf. -/
def casc : Nat → Nat → List Nat
  | 0, _ => []
  | i + 1, m => if m = 0 then [] else gr m (i + 1) :: casc i (m - ch (gr m (i + 1)) (i + 1))
/-- ShadowBound, and the same with both arguments moved by t. -/
def sh (t : Nat) : Nat → Nat → Nat
  | 0, _ => 0
  | i + 1, m => if m = 0 then 0 else ch (gr m (i + 1) + t) (i + 2 * t) + sh t i (m - ch (gr m (i + 1)) (i + 1))
theorem casc_zero (k : Nat) : casc k 0 = [] := by cases k <;> rfl
theorem casc_le : ∀ (k m : Nat), (casc k m).length ≤ k
  | 0, _ => by simp [casc]
  | k + 1, m => by
    rw [casc]; split
    · simp
    · rw [List.length_cons]; have := casc_le k (m - ch (gr m (k + 1)) (k + 1)); omega
/-- The sum of the first j terms over a list. -/
def sumT (f : Nat → Nat → Nat) (L : List Nat) : Nat → Nat
  | 0 => 0
  | j + 1 => sumT f L j + f j (L.getD j 0)
theorem sumT_cons (f : Nat → Nat → Nat) (a : Nat) (L : List Nat) : ∀ j, sumT f (a :: L) (j + 1) = f 0 a + sumT (fun j x => f (j + 1) x) L j
  | 0 => by simp [sumT]
  | j + 1 => by rw [sumT, sumT_cons f a L j, sumT]; simp only [List.getD_cons_succ]; omega
theorem sumT_congr {f g : Nat → Nat → Nat} {L : List Nat} : ∀ {n : Nat}, (∀ j, j < n → f j (L.getD j 0) = g j (L.getD j 0)) → sumT f L n = sumT g L n
  | 0, _ => rfl
  | n + 1, h => by rw [sumT, sumT, sumT_congr (n := n) (fun j hj => h j (by omega)), h n (by omega)]
theorem sh_sum (t : Nat) : ∀ (k m : Nat), sumT (fun j x => ch (x + t) (k - 1 - j + 2 * t)) (casc k m) (casc k m).length = sh t k m
  | 0, _ => rfl
  | k + 1, m => by
    rw [casc, sh]
    by_cases e : m = 0
    · rw [if_pos e, if_pos e]; rfl
    · rw [if_neg e, if_neg e, List.length_cons, sumT_cons, ← sh_sum t k]
      congr 1
      apply sumT_congr
      intro j hj
      show ch _ (k + 1 - 1 - (j + 1) + 2 * t) = _
      rw [show k + 1 - 1 - (j + 1) = k - 1 - j by omega]
theorem casc_sum : ∀ (k m : Nat), 1 ≤ k → m ≤ 1000 → sumT (fun j x => ch x (k - j)) (casc k m) (casc k m).length = m
  | 0, _, h, _ => by omega
  | k + 1, m, _, hm => by
    rw [casc]
    by_cases e : m = 0
    · rw [if_pos e, e]; rfl
    · rw [if_neg e, List.length_cons, sumT_cons]
      obtain ⟨g0, g1, g2⟩ := gr_spec (m := m) (i := k + 1) (by omega) (by omega) hm
      cases k with
      | zero =>
        have c1 : ∀ n, ch n 1 = n := fun n => by
          induction n with
          | zero => rfl
          | succ n ih => rw [ch_next, ch_zero, ih]; omega
        rw [c1] at g1 g2
        have e1 : gr m (0 + 1) = m := by omega
        rw [e1]
        show ch m 1 + 0 = m
        rw [c1]; rfl
      | succ k =>
        have ih := casc_sum (k + 1) (m - ch (gr m (k + 1 + 1)) (k + 1 + 1)) (by omega) (by omega)
        have e2 : sumT (fun j x => ch x (k + 1 + 1 - (j + 1))) (casc (k + 1) (m - ch (gr m (k + 1 + 1)) (k + 1 + 1))) (casc (k + 1) (m - ch (gr m (k + 1 + 1)) (k + 1 + 1))).length = sumT (fun j x => ch x (k + 1 - j)) (casc (k + 1) (m - ch (gr m (k + 1 + 1)) (k + 1 + 1))) (casc (k + 1) (m - ch (gr m (k + 1 + 1)) (k + 1 + 1))).length := by
          apply sumT_congr
          intro j _
          rw [show k + 1 + 1 - (j + 1) = k + 1 - j by omega]
        rw [e2, ih]
        show ch (gr m (k + 1 + 1)) (k + 1 + 1 - 0) + _ = m
        rw [Nat.sub_zero]; omega
/-- What is taken: at least i, and less than what was taken before. -/
theorem casc_at : ∀ (k m j : Nat), m ≤ 1000 → j < (casc k m).length → k - j ≤ (casc k m).getD j 0 ∧ (0 < j → (casc k m).getD j 0 < (casc k m).getD (j - 1) 0)
  | 0, _, j, _, h => by simp [casc] at h
  | k + 1, m, j, hm, h => by
    rw [casc] at h ⊢
    by_cases e : m = 0
    · rw [if_pos e] at h; simp at h
    · rw [if_neg e] at h ⊢
      obtain ⟨g0, g1, g2⟩ := gr_spec (m := m) (i := k + 1) (by omega) (by omega) hm
      cases j with
      | zero => exact ⟨by simpa using g0, fun h => by omega⟩
      | succ j =>
        rw [List.length_cons] at h
        have ih := casc_at k (m - ch (gr m (k + 1)) (k + 1)) j (by omega) (by omega)
        refine ⟨by rw [List.getD_cons_succ, show k + 1 - (j + 1) = k - j by omega]; exact ih.1, fun _ => ?_⟩
        rw [List.getD_cons_succ]
        cases j with
        | zero =>
          show (casc k _).getD 0 0 < gr m (k + 1)
          cases k with
          | zero => simp [casc] at h
          | succ k =>
            rw [casc] at h ⊢
            by_cases e2 : m - ch (gr m (k + 1 + 1)) (k + 1 + 1) = 0
            · rw [if_pos e2] at h; simp at h
            · rw [if_neg e2]
              obtain ⟨q0, q1, q2⟩ := gr_spec (m := m - ch (gr m (k + 1 + 1)) (k + 1 + 1)) (i := k + 1) (by omega) (by omega) (by omega)
              rw [ch_next] at g2
              show gr _ (k + 1) < gr m (k + 1 + 1)
              rcases Nat.lt_or_ge (gr (m - ch (gr m (k + 1 + 1)) (k + 1 + 1)) (k + 1)) (gr m (k + 1 + 1)) with h | h
              · exact h
              · have := ch_mono (i := k + 1) (by omega) h; omega
        | succ j => exact ih.2 (by omega)
/-- All of it is at most 45 if k is at least 2. -/
theorem big46 : ∀ i : Fin 7, 2 ≤ i.val → 1001 ≤ (line 46).getD i.val 0 := by decide +kernel
theorem casc_small (k m j : Nat) (hk : 2 ≤ k) (hk6 : k ≤ 6) (hm : m ≤ 1000) (hj : j < (casc k m).length) : (casc k m).getD j 0 ≤ 45 := by
  have h0 : (casc k m).getD 0 0 ≤ 45 := by
    cases k with
    | zero => omega
    | succ k =>
      rw [casc]
      by_cases e : m = 0
      · rw [if_pos e]; decide
      · rw [if_neg e]
        obtain ⟨g0, g1, g2⟩ := gr_spec (m := m) (i := k + 1) (by omega) (by omega) hm
        show gr m (k + 1) ≤ 45
        rcases Nat.lt_or_ge 45 (gr m (k + 1)) with h | h
        · exfalso
          have h1 := big46 ⟨k + 1, by omega⟩ hk
          have h1 : 1001 ≤ (line 46).getD (k + 1) 0 := h1
          rw [line_get] at h1
          have h2 := ch_mono (i := k + 1) (by omega) (show 46 ≤ gr m (k + 1) by omega)
          omega
        · exact h
  have : ∀ j, j < (casc k m).length → (casc k m).getD j 0 ≤ (casc k m).getD 0 0 := by
    intro j
    induction j with
    | zero => intro _; exact Nat.le_refl _
    | succ j ih =>
      intro h
      have h1 := (casc_at k m (j + 1) hm h).2 (by omega)
      have h2 := ih (by omega)
      simp only [Nat.add_sub_cancel] at h1
      omega
  exact Nat.le_trans (this j hj) h0

end Go.Proofs.Ytmonaiojejbhkaa.Kk

/-! COUNTS OF COMPLEXES OF SIX POINTS ARE POSSIBLE ONES, of no program. -/

namespace Go.Proofs.Ytmonaiojejbhkaa.Kk
open Sets Hn

/-- ShadowBound (t = 0), PowerBound (t = 1). -/
def boundZ (t : Nat) (m k : Int) : Int := if 0 ≤ m ∧ m ≤ 1000 ∧ 1 ≤ k ∧ k ≤ 6 then (sh t k.toNat m.toNat : Int) else -1
theorem boundZ_in {t m k : Nat} (hm : m ≤ 1000) (h1 : 1 ≤ k) (h6 : k ≤ 6) : boundZ t (m : Int) (k : Int) = (sh t k m : Int) := by
  unfold boundZ; rw [if_pos (by omega)]; rfl
/-- What AreFaceCounts asks at the index k. -/
def stepB (L : List Int) (k : Nat) : Bool :=
  decide (1 ≤ L.getD k 0) && decide (L.getD k 0 ≤ 1000) && (if k = 0 then decide (L.getD 0 0 = 1) else decide (boundZ 0 (L.getD k 0) (k : Int) ≤ L.getD (k - 1) 0))
def countsB (L : List Int) : Bool := decide (1 ≤ L.length) && decide (L.length ≤ 7) && (List.range L.length).all (stepB L)
theorem countsB_step {L : List Int} (h : countsB L = true) (k : Nat) (hk : k < L.length) : stepB L k = true := by
  unfold countsB at h
  rw [Bool.and_eq_true, List.all_eq_true] at h
  exact h.2 k (List.mem_range.2 hk)
theorem countsB_length {L : List Int} (h : countsB L = true) : 1 ≤ L.length ∧ L.length ≤ 7 := by
  unfold countsB at h
  rw [Bool.and_eq_true, Bool.and_eq_true] at h
  exact ⟨of_decide_eq_true h.1.1, of_decide_eq_true h.1.2⟩
theorem stepB_iff (L : List Int) (k : Nat) : stepB L k = true ↔ 1 ≤ L.getD k 0 ∧ L.getD k 0 ≤ 1000 ∧ (k = 0 → L.getD 0 0 = 1) ∧ (0 < k → boundZ 0 (L.getD k 0) (k : Int) ≤ L.getD (k - 1) 0) := by
  unfold stepB
  rw [Bool.and_eq_true, Bool.and_eq_true, decide_eq_true_eq, decide_eq_true_eq]
  by_cases e : k = 0
  · rw [if_pos e, decide_eq_true_eq]
    exact ⟨fun h => ⟨h.1.1, h.1.2, fun _ => h.2, fun h' => by omega⟩, fun h => ⟨⟨h.1, h.2.1⟩, h.2.2.1 e⟩⟩
  · rw [if_neg e, decide_eq_true_eq]
    exact ⟨fun h => ⟨h.1.1, h.1.2, fun h' => absurd h' e, fun _ => h.2⟩, fun h => ⟨⟨h.1, h.2.1⟩, h.2.2.2 (by omega)⟩⟩

/-! ### the bounds, checked -/
theorem c2 : ∀ v : Fin 7, ∀ e : Fin 16, e.val ≤ pmax v.val → sh 0 2 e.val ≤ v.val := by decide +kernel
theorem c3 : ∀ e : Fin 16, ∀ f : Fin 21, f.val ≤ tmax e.val → sh 0 3 f.val ≤ e.val := by decide +kernel
theorem c4 : ∀ f : Fin 21, ∀ g : Fin 16, 20 - f.val ≤ tmax (15 - g.val) → sh 0 4 g.val ≤ f.val := by decide +kernel
theorem c5 : ∀ g : Fin 16, ∀ h : Fin 7, 15 - g.val ≤ pmax (6 - h.val) → sh 0 5 h.val ≤ g.val := by decide +kernel
theorem c1 : ∀ v : Fin 7, sh 0 1 v.val ≤ 1 := by decide +kernel
theorem c6 : ∀ x : Fin 2, sh 0 6 x.val ≤ 6 := by decide +kernel
theorem z2 : ∀ e : Fin 16, e.val ≤ pmax 0 → e.val = 0 := by decide +kernel
theorem z3 : ∀ f : Fin 21, f.val ≤ tmax 0 → f.val = 0 := by decide +kernel
theorem z4 : ∀ g : Fin 16, 20 - 0 ≤ tmax (15 - g.val) → g.val = 0 := by decide +kernel
theorem z5 : ∀ h : Fin 7, 15 - 0 ≤ pmax (6 - h.val) → h.val = 0 := by decide +kernel

theorem cnt_bounds (p : Nat → Bool) : cnt 0 (ord p) ≤ 1 ∧ cnt 1 (ord p) ≤ 6 ∧ cnt 2 (ord p) ≤ 15 ∧ cnt 3 (ord p) ≤ 20 ∧ cnt 4 (ord p) ≤ 15 ∧ cnt 5 (ord p) ≤ 6 ∧ cnt 6 (ord p) ≤ 1 := by
  rw [cnt0, cnt1, cnt2, cnt3, cnt4, cnt5, cnt6]
  exact ⟨List.countP_le_length, List.countP_le_length, List.countP_le_length, List.countP_le_length, List.countP_le_length, List.countP_le_length, List.countP_le_length⟩
theorem zero_of_point {p : Nat → Bool} (hd : Down p) (h : 0 < cnt 1 (ord p)) : cnt 0 (ord p) = 1 := by
  rw [cnt1, List.countP_pos_iff] at h
  obtain ⟨s, hs, hp⟩ := h
  have h0 : p 0 = true := hd 0 s (by decide) (ones_lt s hs) (by simp [sub]) hp
  rw [cnt0, List.countP_cons, h0]
  rfl

/-- The bound holds at every size, and below a count there is a count. -/
theorem kk {p : Nat → Bool} (hd : Down p) (k : Nat) (h1 : 1 ≤ k) (h6 : k ≤ 6) (hc : 0 < cnt k (ord p)) : 0 < cnt (k - 1) (ord p) ∧ sh 0 k (cnt k (ord p)) ≤ cnt (k - 1) (ord p) := by
  obtain ⟨b0, b1, b2, b3, b4, b5, b6⟩ := cnt_bounds p
  rcases (by omega : k = 1 ∨ k = 2 ∨ k = 3 ∨ k = 4 ∨ k = 5 ∨ k = 6) with rfl | rfl | rfl | rfl | rfl | rfl
  · have h := zero_of_point hd hc
    have h2 := c1 ⟨cnt 1 (ord p), by omega⟩
    dsimp only at h2
    show 0 < cnt 0 (ord p) ∧ sh 0 1 (cnt 1 (ord p)) ≤ cnt 0 (ord p)
    omega
  · have h := le2 hd
    have hz : 0 < cnt 1 (ord p) := by
      rcases Nat.eq_zero_or_pos (cnt 1 (ord p)) with e | e
      · rw [e] at h; have := z2 ⟨cnt 2 (ord p), by omega⟩ h; dsimp only at this; omega
      · exact e
    exact ⟨hz, c2 ⟨cnt 1 (ord p), by omega⟩ ⟨cnt 2 (ord p), by omega⟩ h⟩
  · have h := le3 hd
    have hz : 0 < cnt 2 (ord p) := by
      rcases Nat.eq_zero_or_pos (cnt 2 (ord p)) with e | e
      · rw [e] at h; have := z3 ⟨cnt 3 (ord p), by omega⟩ h; dsimp only at this; omega
      · exact e
    exact ⟨hz, c3 ⟨cnt 2 (ord p), by omega⟩ ⟨cnt 3 (ord p), by omega⟩ h⟩
  · have h := le4 hd
    have hz : 0 < cnt 3 (ord p) := by
      rcases Nat.eq_zero_or_pos (cnt 3 (ord p)) with e | e
      · rw [e] at h; have := z4 ⟨cnt 4 (ord p), by omega⟩ h; dsimp only at this; omega
      · exact e
    exact ⟨hz, c4 ⟨cnt 3 (ord p), by omega⟩ ⟨cnt 4 (ord p), by omega⟩ h⟩
  · have h := le5 hd
    have hz : 0 < cnt 4 (ord p) := by
      rcases Nat.eq_zero_or_pos (cnt 4 (ord p)) with e | e
      · rw [e] at h; have := z5 ⟨cnt 5 (ord p), by omega⟩ h; dsimp only at this; omega
      · exact e
    exact ⟨hz, c5 ⟨cnt 4 (ord p), by omega⟩ ⟨cnt 5 (ord p), by omega⟩ h⟩
  · have h := le6 hd hc
    have h2 := c6 ⟨cnt 6 (ord p), by omega⟩
    dsimp only at h2
    show 0 < cnt 5 (ord p) ∧ sh 0 6 (cnt 6 (ord p)) ≤ cnt 5 (ord p)
    omega
theorem down_pos {p : Nat → Bool} (hd : Down p) : ∀ (j k : Nat), k + j ≤ 6 → 0 < cnt (k + j) (ord p) → 0 < cnt k (ord p)
  | 0, k, _, h => h
  | j + 1, k, h6, h => down_pos hd j k (by omega) (by
    have := (kk hd (k + (j + 1)) (by omega) h6 h).1
    rwa [show k + (j + 1) - 1 = k + j by omega] at this)
theorem top_pos (L : List Int) (h : 0 < top L) : 0 < cnt (top L - 1) L := by
  have hm : ∀ (L : List Int) (m : Nat), m < L.foldl (fun m x => max m (pc x.toNat + 1)) m → ∃ x ∈ L, pc x.toNat + 1 = L.foldl (fun m x => max m (pc x.toNat + 1)) m := by
    intro L
    induction L with
    | nil => intro m h; simp at h
    | cons x L ih =>
      intro m h
      rw [List.foldl_cons] at h ⊢
      rcases Nat.lt_or_ge (max m (pc x.toNat + 1)) (L.foldl (fun m x => max m (pc x.toNat + 1)) (max m (pc x.toNat + 1))) with h1 | h1
      · obtain ⟨y, hy, e⟩ := ih _ h1
        exact ⟨y, List.mem_cons_of_mem _ hy, e⟩
      · have hge : ∀ (L : List Int) (m : Nat), m ≤ L.foldl (fun m x => max m (pc x.toNat + 1)) m := by
          intro L
          induction L with
          | nil => intro m; exact Nat.le_refl _
          | cons x L ih => intro m; exact Nat.le_trans (Nat.le_max_left _ _) (ih _)
        have h2 := hge L (max m (pc x.toNat + 1))
        refine ⟨x, List.mem_cons_self .., ?_⟩
        omega
  obtain ⟨x, hx, e⟩ := hm L 0 h
  unfold cnt
  rw [List.countP_pos_iff]
  refine ⟨x, hx, ?_⟩
  rw [beq_iff_eq]
  have e : pc x.toNat + 1 = top L := e
  omega

/-- COUNTS OF COMPLEXES ARE POSSIBLE ONES. -/
theorem counts_possible (n : Int) (xs : List Int) (h : 0 < (counts (faces n xs)).length) : countsB (counts (faces n xs)) = true := by
  have ht := h
  rw [counts_length] at ht
  have h7 := top_le (faces n xs)
  by_cases hC : isC n xs = true
  · have hF : faces n xs = ord (inF xs) := by unfold faces; rw [if_pos hC]
    have hd := inF_down xs
    rw [hF] at ht h7 ⊢
    have hb := cnt_bounds (inF xs)
    have htp := top_pos _ ht
    have hpos : ∀ k, k < top (ord (inF xs)) → 0 < cnt k (ord (inF xs)) := fun k hk =>
      down_pos hd (top (ord (inF xs)) - 1 - k) k (by omega) (by rw [show k + (top (ord (inF xs)) - 1 - k) = top (ord (inF xs)) - 1 by omega]; exact htp)
    unfold countsB
    rw [counts_length, Bool.and_eq_true, Bool.and_eq_true, List.all_eq_true]
    refine ⟨⟨decide_eq_true (by omega), decide_eq_true (by omega)⟩, fun k hk => ?_⟩
    rw [List.mem_range] at hk
    have hle : cnt k (ord (inF xs)) ≤ 20 := by
      rcases (by omega : k = 0 ∨ k = 1 ∨ k = 2 ∨ k = 3 ∨ k = 4 ∨ k = 5 ∨ k = 6) with rfl | rfl | rfl | rfl | rfl | rfl | rfl <;> omega
    rw [stepB_iff, counts_at _ k hk]
    have hp := hpos k hk
    refine ⟨by omega, by omega, fun e => ?_, fun e => ?_⟩
    · subst e
      rw [counts_at _ 0 hk]
      omega
    · rw [counts_at _ (k - 1) (by omega), boundZ_in (by omega) e (by omega)]
      have := (kk hd k e (by omega) hp).2
      omega
  · exfalso
    have : faces n xs = [] := by unfold faces; rw [if_neg hC]
    rw [this] at ht
    exact absurd ht (by decide)

end Go.Proofs.Ytmonaiojejbhkaa.Kk

/-! H NUMBERS OF SHELLABLE COMPLEXES of six points and at most eight facets are possible counts of monomials; of no program. -/

namespace Go.Proofs.Ytmonaiojejbhkaa.Sh
open Sets Hn Kk

/-- AreMonomialCounts, at the index k. -/
def stepM (L : List Int) (k : Nat) : Bool :=
  decide (0 ≤ L.getD k 0) && decide (L.getD k 0 ≤ 1000) && (if k = 0 then decide (L.getD 0 0 = 1) else if k = 1 then true else decide (L.getD k 0 ≤ boundZ 1 (L.getD (k - 1) 0) ((k - 1 : Nat) : Int)))
def monoB (L : List Int) : Bool := decide (1 ≤ L.length) && decide (L.length ≤ 7) && (List.range L.length).all (stepM L)

/-! ### six points, ten edges, each point in a triangle -/
theorem enc_append (p : Nat → Bool) : ∀ A B : List Nat, enc p (A ++ B) = enc p A + 2 ^ A.length * enc p B
  | [], B => by simp [enc]
  | s :: A, B => by
    rw [List.cons_append, enc, enc, enc_append p A B, List.length_cons, Nat.pow_succ, Nat.mul_add]
    generalize 2 ^ A.length = P
    generalize enc p A = x
    generalize enc p B = y
    have : 2 * (P * y) = P * 2 * y := by rw [← Nat.mul_assoc, Nat.mul_comm 2 P]
    omega
/-- The edges at a point. -/
def star (i : Nat) : List Nat := twos.filter fun s => s.testBit i
def starM : List (List Nat) := [[1, 2, 8, 64, 1024], [1, 4, 16, 128, 2048], [2, 4, 32, 256, 4096], [8, 16, 32, 512, 8192], [64, 128, 256, 512, 16384], [1024, 2048, 4096, 8192, 16384]]
theorem starM_eq : (List.range 6).map (fun i => (star i).map (mask twos)) = starM := by decide +kernel
def threesM : List Nat := [7, 25, 42, 52, 193, 322, 388, 584, 656, 800, 3073, 5122, 6148, 9224, 10256, 12320, 17472, 18560, 20736, 25088]
theorem threesM_eq : threes.map (mask twos) = threesM := by decide +kernel
def fivesOf : Nat → List Nat
  | 2 => [3, 5, 6, 9, 10, 12, 17, 18, 20, 24]
  | 3 => [7, 11, 13, 14, 19, 21, 22, 25, 26, 28]
  | 4 => [15, 23, 27, 29, 30]
  | 5 => [31]
  | _ => []
theorem fives_all : every (fun b => (List.range 6).all fun e => !(Nat.beq (Kk.bits 5 b) e && Nat.ble 2 e) || (fivesOf e).contains b) 32 = true := by decide +kernel
def sixB (g : Nat) : Bool := !(starM.all fun m => Nat.ble 2 (within g m)) || Nat.ble (within g threesM) 6
theorem sixes : every (fun a => (fivesOf (10 - Kk.bits 10 a)).all fun b => sixB (a + 1024 * b)) 1024 = true := by decide +kernel
theorem star_two : ∀ i : Fin 6, ∀ t ∈ threes, t.testBit i.val = true → (star i.val).countP (fun s => sub s t) = 2 := by decide +kernel
theorem six_tri {p : Nat → Bool} (hd : Down p) (hp : ∀ i, i < 6 → ∃ t ∈ threes, t.testBit i = true ∧ p t = true) (h : twos.countP p = 10) : threes.countP p ≤ 6 := by
  have hg : enc p twos = enc p lo2 + 1024 * enc p (lo1.map (32 + ·)) := by rw [twos_split, enc_append]; rfl
  have ha : enc p lo2 < 1024 := enc_lt p lo2
  have hb : enc p (lo1.map (32 + ·)) < 32 := enc_lt p (lo1.map (32 + ·))
  have hc1 : Kk.bits 10 (enc p lo2) = lo2.countP p := bits_enc p lo2
  have hc2 : Kk.bits 5 (enc p (lo1.map (32 + ·))) = (lo1.map (32 + ·)).countP p := bits_enc p (lo1.map (32 + ·))
  have hc : lo2.countP p + (lo1.map (32 + ·)).countP p = 10 := by rw [← h, twos_split, List.countP_append]
  have hbit : ∀ t, ∀ q : Nat → Bool, (∀ s ∈ twos, sub s t = true → p s = true) → Nat.land (enc p twos) (mask twos t) = mask twos t := by
    intro t q hq
    refine land_of _ _ twos.length (enc_lt _ _) fun i hi hb => ?_
    rw [enc_bit p twos i hi]
    unfold mask at hb
    rw [enc_bit _ twos i hi] at hb
    have hm : twos.getD i 0 ∈ twos := by rw [List.getD, List.getElem?_eq_getElem hi]; exact List.getElem_mem hi
    exact hq _ hm hb
  have hT : threes.countP p ≤ within (enc p twos) threesM := by
    rw [← threesM_eq]
    exact within_ge (enc p twos) p (mask twos) threes (fun t ht hq => hbit t p fun s hs hst => hd s t (twos_lt s hs) (threes_lt t ht) hst hq)
  have hS : ∀ i, i < 6 → 2 ≤ within (enc p twos) ((star i).map (mask twos)) := by
    intro i hi
    obtain ⟨t, ht, hti, hpt⟩ := hp i hi
    have h2 := star_two ⟨i, hi⟩ t ht hti
    dsimp only at h2
    have hsub : ∀ s ∈ star i, s ∈ twos := fun s hs => (List.mem_filter.1 hs).1
    have h3 : (star i).countP (fun s => sub s t) ≤ (star i).countP p := List.countP_mono_left fun s hs e => hd s t (twos_lt s (hsub s hs)) (threes_lt t ht) e hpt
    have h4 := within_ge (enc p twos) p (mask twos) (star i) (fun s hs hq => hbit s p fun u hu hus => by
      have : u ≤ s := sub_le hus
      exact hd u s (twos_lt u hu) (twos_lt s (hsub s hs)) hus hq)
    omega
  have hA : starM.all (fun m => Nat.ble 2 (within (enc p twos) m)) = true := by
    rw [List.all_eq_true, ← starM_eq]
    intro m hm
    obtain ⟨i, hi, rfl⟩ := List.mem_map.1 hm
    rw [List.mem_range] at hi
    exact Nat.ble_eq_true_of_le (hS i hi)
  have h5 := hS 5 (by decide)
  have hb2 : 2 ≤ Kk.bits 5 (enc p (lo1.map (32 + ·))) := by
    rw [hc2]
    obtain ⟨t, ht, hti, hpt⟩ := hp 5 (by decide)
    have h2 := star_two ⟨5, by decide⟩ t ht hti
    dsimp only at h2
    have e : star 5 = lo1.map (32 + ·) := by decide
    rw [e] at h2
    rw [← h2]
    exact List.countP_mono_left fun s hs e => hd s t ((by decide : ∀ s ∈ lo1.map (32 + ·), s < 64) s hs) (threes_lt t ht) e hpt
  have hx := every_at fives_all (enc p (lo1.map (32 + ·))) hb
  have hb5 : (lo1.map (32 + ·)).countP p ≤ 5 := List.countP_le_length
  rw [List.all_eq_true] at hx
  have hx := hx (Kk.bits 5 (enc p (lo1.map (32 + ·)))) (by rw [List.mem_range]; omega)
  have e1 : Nat.beq (Kk.bits 5 (enc p (lo1.map (32 + ·)))) (Kk.bits 5 (enc p (lo1.map (32 + ·)))) = true := Nat.beq_refl _
  have e2 : Nat.ble 2 (Kk.bits 5 (enc p (lo1.map (32 + ·)))) = true := Nat.ble_eq_true_of_le hb2
  rw [e1, e2] at hx
  have hx : (fivesOf (Kk.bits 5 (enc p (lo1.map (32 + ·))))).contains (enc p (lo1.map (32 + ·))) = true := by simpa using hx
  have hy := every_at sixes (enc p lo2) ha
  rw [show 10 - Kk.bits 10 (enc p lo2) = Kk.bits 5 (enc p (lo1.map (32 + ·))) by omega, List.all_eq_true] at hy
  have hz := hy _ (List.contains_iff_mem.1 hx)
  rw [← hg] at hz
  unfold sixB at hz
  rw [hA] at hz
  have hz : Nat.ble (within (enc p twos) threesM) 6 = true := by simpa using hz
  exact Nat.le_trans hT (Nat.le_of_ble_eq_true hz)

end Go.Proofs.Ytmonaiojejbhkaa.Sh
