/-
  COUNTS OF FACES OF COMPLEXES OF SIX POINTS, of no program: which counts there can be (the theorem of Kruskal and Katona, for six points).
-/
import Derived.Test.YtmonaiojejbhkaaCntLaw
import Derived.Test.YtmonaiojejbhkaaPart
import Derived.Test.YtmonaiojejbhkaaHn
namespace Go.Proofs.Ytmonaiojejbhkaa.Kk
open Sets Hn

/-! ### predicates on a list as bits of a number -/
def enc (p : Nat → Bool) : List Nat → Nat
  | [] => 0
  | s :: r => (p s).toNat + 2 * enc p r
theorem enc_lt (p : Nat → Bool) : ∀ L : List Nat, enc p L < 2 ^ L.length
  | [] => by simp [enc]
  | s :: r => by
    have h := enc_lt p r
    have hb : (p s).toNat ≤ 1 := Bool.toNat_le _
    rw [enc, List.length_cons, Nat.pow_succ]
    omega
theorem enc_bit (p : Nat → Bool) : ∀ (L : List Nat) (i : Nat), i < L.length → (enc p L).testBit i = p (L.getD i 0)
  | [], i, h => by simp at h
  | s :: r, 0, _ => by
    rw [enc, Nat.testBit_zero]
    cases hp : p s
    · simp [hp]
    · simp [hp]
  | s :: r, i + 1, h => by
    rw [enc, Nat.testBit_succ]
    have e : ((p s).toNat + 2 * enc p r) / 2 = enc p r := by
      have hb : (p s).toNat ≤ 1 := Bool.toNat_le _
      omega
    rw [e, enc_bit p r i (by simpa using h)]
    rfl
/-- How many of the first f bits are set. -/
def bits : Nat → Nat → Nat
  | 0, _ => 0
  | f + 1, g => g % 2 + bits f (g / 2)
theorem bits_enc (p : Nat → Bool) : ∀ L : List Nat, bits L.length (enc p L) = L.countP p
  | [] => rfl
  | s :: r => by
    have hb : (p s).toNat ≤ 1 := Bool.toNat_le _
    rw [List.length_cons, bits, enc, List.countP_cons]
    rw [show ((p s).toNat + 2 * enc p r) / 2 = enc p r by omega, bits_enc p r]
    cases p s
    · simp
    · simp; omega
/-- Masks that lie within g. -/
def within (g : Nat) : List Nat → Nat
  | [] => 0
  | m :: r => (Nat.beq (Nat.land g m) m).toNat + within g r
theorem within_ge (g : Nat) (q : Nat → Bool) (f : Nat → Nat) : ∀ L : List Nat, (∀ s ∈ L, q s = true → Nat.land g (f s) = f s) → L.countP q ≤ within g (L.map f)
  | [], _ => by simp [within]
  | s :: r, h => by
    have ih := within_ge g q f r (fun t ht => h t (List.mem_cons_of_mem _ ht))
    rw [List.countP_cons, List.map_cons, within]
    cases hq : q s with
    | false => simp only [if_neg Bool.false_ne_true]; omega
    | true =>
      have e := h s (List.mem_cons_self ..) hq
      rw [e]
      have : Nat.beq (f s) (f s) = true := by rw [Nat.beq_eq]
      rw [this]
      simp only [if_true, Bool.toNat_true]
      omega
theorem land_of (g m n : Nat) (hm : m < 2 ^ n) (h : ∀ i, i < n → m.testBit i = true → g.testBit i = true) : Nat.land g m = m := by
  show g &&& m = m
  apply Nat.eq_of_testBit_eq
  intro i
  rw [Nat.testBit_and]
  rcases Nat.lt_or_ge i n with hi | hi
  · cases hb : m.testBit i with
    | false => rw [Bool.and_false]
    | true => rw [h i hi hb]; rfl
  · rw [Nat.testBit_lt_two_pow (Nat.lt_of_lt_of_le hm (Nat.pow_le_pow_right (by decide) hi)), Bool.and_false]

/-- All below n. -/
def every (f : Nat → Bool) : Nat → Bool
  | 0 => true
  | n + 1 => f n && every f n
theorem every_at {f : Nat → Bool} : ∀ {n : Nat}, every f n = true → ∀ i, i < n → f i = true
  | 0, _, i, h => by omega
  | n + 1, h, i, hi => by
    rw [every, Bool.and_eq_true] at h
    rcases Nat.lt_or_eq_of_le (Nat.le_of_lt_succ hi) with e | e
    · exact every_at h.2 i e
    · rw [e]; exact h.1

/-! ### the sets of six points -/
def ones : List Nat := [1, 2, 4, 8, 16, 32]
def twos : List Nat := [3, 5, 6, 9, 10, 12, 17, 18, 20, 24, 33, 34, 36, 40, 48]
def threes : List Nat := [7, 11, 13, 14, 19, 21, 22, 25, 26, 28, 35, 37, 38, 41, 42, 44, 49, 50, 52, 56]
def co (L : List Nat) : List Nat := L.map fun s => 63 - s

theorem cnt_list (k : Nat) (L : List Nat) (h : (ord fun _ => true).filter (fun x => pc x.toNat == k) = L.map Int.ofNat) (p : Nat → Bool) : cnt k (ord p) = L.countP p := by
  have e : cnt k (ord p) = ((ord fun _ => true).filter fun x => pc x.toNat == k).countP fun x => p x.toNat := by
    rw [List.countP_filter, ord_filter p]
    unfold cnt
    rw [List.countP_filter]
    apply List.countP_congr
    intro x _
    rw [Bool.and_comm]
  rw [e, h, List.countP_map]
  rfl
theorem cnt1 (p : Nat → Bool) : cnt 1 (ord p) = ones.countP p := cnt_list 1 ones (by decide +kernel) p
theorem cnt2 (p : Nat → Bool) : cnt 2 (ord p) = twos.countP p := cnt_list 2 twos (by decide +kernel) p
theorem cnt3 (p : Nat → Bool) : cnt 3 (ord p) = threes.countP p := cnt_list 3 threes (by decide +kernel) p
theorem cnt4 (p : Nat → Bool) : cnt 4 (ord p) = (co twos).reverse.countP p := cnt_list 4 (co twos).reverse (by decide +kernel) p
theorem cnt5 (p : Nat → Bool) : cnt 5 (ord p) = (co ones).reverse.countP p := cnt_list 5 (co ones).reverse (by decide +kernel) p
theorem cnt6 (p : Nat → Bool) : cnt 6 (ord p) = [63].countP p := cnt_list 6 [63] (by decide +kernel) p
theorem cnt0 (p : Nat → Bool) : cnt 0 (ord p) = [0].countP p := cnt_list 0 [0] (by decide +kernel) p
theorem count_co (p : Nat → Bool) (L : List Nat) : (co L).reverse.countP p = L.countP fun s => p (63 - s) := by
  rw [List.countP_reverse]
  unfold co
  rw [List.countP_map]
  rfl
theorem count_not (p : Nat → Bool) (L : List Nat) : L.countP (fun s => !p s) = L.length - L.countP p := by
  have h := List.length_eq_countP_add_countP p (l := L)
  have e : L.countP (fun a => decide ¬p a = true) = L.countP fun s => !p s := by
    apply List.countP_congr
    intro x _
    cases p x <;> simp
  rw [e] at h
  omega

/-- The same of five points. -/
def lo1 : List Nat := [1, 2, 4, 8, 16]
def lo2 : List Nat := [3, 5, 6, 9, 10, 12, 17, 18, 20, 24]
def lo3 : List Nat := [7, 11, 13, 14, 19, 21, 22, 25, 26, 28]
theorem twos_split : twos = lo2 ++ lo1.map (32 + ·) := by decide
theorem threes_split : threes = lo3 ++ lo2.map (32 + ·) := by decide
/-- What lies in a set, as a mask over a list. -/
def mask (L : List Nat) (t : Nat) : Nat := enc (fun s => sub s t) L

/-- The most triangles with so many edges. -/
def tmax (e : Nat) : Nat := [0, 0, 0, 1, 1, 2, 4, 4, 5, 7, 10, 10, 11, 13, 16, 20].getD e 0
def pmax (v : Nat) : Nat := [0, 0, 1, 3, 6, 10, 15].getD v 0
theorem masks3 : lo3.map (mask lo2) = [7, 25, 42, 52, 193, 322, 388, 584, 656, 800] := by decide +kernel
theorem masks2 : twos.map (mask ones) = twos := by decide +kernel
theorem masks2l : lo2.map (mask lo1) = lo2 := by decide +kernel

theorem graphs : every (fun a => Nat.ble (within a [7, 25, 42, 52, 193, 322, 388, 584, 656, 800]) (tmax (bits 10 a))) 1024 = true := by decide +kernel
theorem points : every (fun a => Nat.ble (within a twos) (pmax (bits 6 a))) 64 = true := by decide +kernel
theorem points5 : every (fun a => Nat.ble (within a lo2) (pmax (bits 5 a))) 32 = true := by decide +kernel
theorem add_up : ∀ e : Fin 11, ∀ d : Fin 6, tmax e.val + min e.val (pmax d.val) ≤ tmax (e.val + d.val) := by decide +kernel

/-- Of sets whose parts all hold there are few. -/
theorem few (A B : List Nat) (M : List Nat) (mx : Nat → Nat) (hM : B.map (mask A) = M) (hc : every (fun a => Nat.ble (within a M) (mx (bits A.length a))) (2 ^ A.length) = true)
    (p q : Nat → Bool) (h : ∀ t ∈ B, q t = true → ∀ s ∈ A, sub s t = true → p s = true) : B.countP q ≤ mx (A.countP p) := by
  have h1 := within_ge (enc p A) q (mask A) B (fun t ht hq => land_of _ _ A.length (enc_lt _ _) fun i hi hb => by
    rw [enc_bit p A i hi]
    unfold mask at hb
    rw [enc_bit _ A i hi] at hb
    have hm : A.getD i 0 ∈ A := by rw [List.getD, List.getElem?_eq_getElem hi]; exact List.getElem_mem hi
    exact h t ht hq _ hm hb)
  rw [hM] at h1
  have h3 := Nat.le_of_ble_eq_true (every_at hc (enc p A) (enc_lt p A))
  rw [bits_enc p A] at h3
  exact Nat.le_trans h1 h3
theorem few2 (p q : Nat → Bool) (h : ∀ t ∈ twos, q t = true → ∀ s ∈ ones, sub s t = true → p s = true) : twos.countP q ≤ pmax (ones.countP p) :=
  few ones twos twos pmax masks2 points p q h
theorem hi_sub : ∀ s t : Fin 32, sub s.val t.val = true → sub (32 + s.val) (32 + t.val) = true := by decide +kernel
theorem hi_low : ∀ t : Fin 32, sub t.val (32 + t.val) = true := by decide +kernel
theorem few3 (p q : Nat → Bool) (h : ∀ t ∈ threes, q t = true → ∀ s ∈ twos, sub s t = true → p s = true) : threes.countP q ≤ tmax (twos.countP p) := by
  have i1 : ∀ s ∈ lo1, s < 32 := by decide
  have i2 : ∀ s ∈ lo2, s < 32 := by decide
  rw [threes_split, twos_split] at h
  have h1 : lo3.countP q ≤ tmax (lo2.countP p) := few lo2 lo3 [7, 25, 42, 52, 193, 322, 388, 584, 656, 800] tmax masks3 graphs p q (fun t ht hq s hs hst => h t (List.mem_append_left _ ht) hq s (List.mem_append_left _ hs) hst)
  have h2 : lo2.countP (fun s => q (32 + s)) ≤ lo2.countP p := by
    apply List.countP_mono_left
    intro s hs hq
    exact h (32 + s) (List.mem_append_right _ (List.mem_map.2 ⟨s, hs, rfl⟩)) hq s (List.mem_append_left _ hs) (hi_low ⟨s, i2 s hs⟩)
  have h3 : lo2.countP (fun s => q (32 + s)) ≤ pmax (lo1.countP fun s => p (32 + s)) := few lo1 lo2 lo2 pmax masks2l points5 (fun s => p (32 + s)) (fun s => q (32 + s)) (fun t ht hq s hs hst =>
    h (32 + t) (List.mem_append_right _ (List.mem_map.2 ⟨t, ht, rfl⟩)) hq (32 + s) (List.mem_append_right _ (List.mem_map.2 ⟨s, hs, rfl⟩)) (hi_sub ⟨s, i1 s hs⟩ ⟨t, i2 t ht⟩ hst))
  rw [threes_split, twos_split, List.countP_append, List.countP_append, List.countP_map, List.countP_map]
  have he : lo2.countP p ≤ 10 := List.countP_le_length
  have hd : (lo1.countP fun s => p (32 + s)) ≤ 5 := List.countP_le_length
  have ha := add_up ⟨lo2.countP p, by omega⟩ ⟨lo1.countP fun s => p (32 + s), by omega⟩
  dsimp only at ha
  have e1 : List.countP (q ∘ (32 + ·)) lo2 = lo2.countP fun s => q (32 + s) := rfl
  have e2 : List.countP (p ∘ (32 + ·)) lo1 = lo1.countP fun s => p (32 + s) := rfl
  rw [e1, e2]
  omega

theorem ones_lt : ∀ s ∈ ones, s < 64 := by decide
theorem twos_lt : ∀ s ∈ twos, s < 64 := by decide
theorem threes_lt : ∀ s ∈ threes, s < 64 := by decide
theorem co_sub : ∀ s t : Fin 64, sub s.val t.val = true → sub (63 - t.val) (63 - s.val) = true := by decide +kernel
theorem co_down {p : Nat → Bool} (hd : Down p) {s t : Nat} (hs : s < 64) (ht : t < 64) (h : sub s t = true) (hp : p (63 - s) = true) : p (63 - t) = true :=
  hd (63 - t) (63 - s) (by omega) (by omega) (co_sub ⟨s, hs⟩ ⟨t, ht⟩ h) hp

theorem le2 {p : Nat → Bool} (hd : Down p) : cnt 2 (ord p) ≤ pmax (cnt 1 (ord p)) := by
  rw [cnt2, cnt1]
  exact few2 p p (fun t ht hq s hs h => hd s t (ones_lt s hs) (twos_lt t ht) h hq)
theorem le3 {p : Nat → Bool} (hd : Down p) : cnt 3 (ord p) ≤ tmax (cnt 2 (ord p)) := by
  rw [cnt3, cnt2]
  exact few3 p p (fun t ht hq s hs h => hd s t (twos_lt s hs) (threes_lt t ht) h hq)
theorem threes_co (p : Nat → Bool) : threes.countP (fun s => p (63 - s)) = threes.countP p := by
  have e : (co threes).reverse = threes := by decide
  rw [← count_co p threes, e]
theorem le4 {p : Nat → Bool} (hd : Down p) : 20 - cnt 3 (ord p) ≤ tmax (15 - cnt 4 (ord p)) := by
  have h := few3 (fun s => !p (63 - s)) (fun s => !p (63 - s)) (fun t ht hq s hs h => by
    cases hp : p (63 - s) with
    | false => rfl
    | true =>
      have := co_down hd (twos_lt s hs) (threes_lt t ht) h hp
      rw [this] at hq
      cases hq)
  rw [count_not (fun s => p (63 - s)), count_not (fun s => p (63 - s)), threes_co] at h
  rw [cnt3, cnt4, count_co]
  exact h
theorem le5 {p : Nat → Bool} (hd : Down p) : 15 - cnt 4 (ord p) ≤ pmax (6 - cnt 5 (ord p)) := by
  have h := few2 (fun s => !p (63 - s)) (fun s => !p (63 - s)) (fun t ht hq s hs h => by
    cases hp : p (63 - s) with
    | false => rfl
    | true =>
      have := co_down hd (ones_lt s hs) (twos_lt t ht) h hp
      rw [this] at hq
      cases hq)
  rw [count_not (fun s => p (63 - s)), count_not (fun s => p (63 - s))] at h
  rw [cnt4, cnt5, count_co, count_co]
  exact h
theorem le6 {p : Nat → Bool} (hd : Down p) (h : 0 < cnt 6 (ord p)) : cnt 5 (ord p) = 6 := by
  rw [cnt6] at h
  have hp : p 63 = true := by
    rw [List.countP_pos_iff] at h
    obtain ⟨a, ha, hpa⟩ := h
    simp at ha
    rwa [ha] at hpa
  rw [cnt5]
  have : ∀ s ∈ (co ones).reverse, p s = true := fun s hs => hd s 63 ((by decide : ∀ s ∈ (co ones).reverse, s < 64) s hs) (by decide) ((by decide : ∀ s ∈ (co ones).reverse, sub s 63 = true) s hs) hp
  rw [List.countP_eq_length.2 this]
  rfl

end Go.Proofs.Ytmonaiojejbhkaa.Kk
