/-
  TEXTS of one claim, put together: Dual1, MatLaw, Hom2, Hom3.
-/
import Derived.Test.YtenpcjmhlnalcaaJg5
/-! LINEAR ALGEBRA modulo a prime, of no program: a matrix and its transpose: how many vectors either sends to 0, by counting pairs. -/

namespace Go.Proofs.Ytenpcjmhlnalcaa
open Sets
namespace Lin
open Hom

theorem Card.union {α : Type} {S T : α → Prop} {c d : Nat} (h : Card S c) (h' : Card T d) (hd : ∀ x, S x → ¬T x) : Card (fun x => S x ∨ T x) (c + d) := by
  obtain ⟨l, hn, hm, rfl⟩ := h
  obtain ⟨l', hn', hm', rfl⟩ := h'
  refine ⟨l ++ l', ?_, fun x => by rw [List.mem_append, hm, hm'], List.length_append ..⟩
  rw [List.nodup_append]
  refine ⟨hn, hn', fun a ha b hb e => ?_⟩
  subst e
  exact hd a ((hm a).1 ha) ((hm' a).1 hb)
/-- What is left of a counted set. -/
theorem Card.rest {α : Type} {S T : α → Prop} {c d : Nat} (h : Card S c) (h' : Card T d) (hT : ∀ x, T x → S x) : d ≤ c ∧ Card (fun x => S x ∧ ¬T x) (c - d) := by
  obtain ⟨e, _, he⟩ := h.sub (T := fun x => S x ∧ ¬T x) fun x hx => hx.1
  have hu := h'.union he fun x hx hn => hn.2 hx
  have := (hu.congr (T := S) fun x => ⟨fun k => k.elim (hT x) (·.1), fun k => (Classical.em (T x)).elim .inl fun n => .inr ⟨k, n⟩⟩).unique h
  exact ⟨by omega, by rw [show c - d = e by omega]; exact he⟩
theorem Card.pairs {α β : Type} {T : α → Prop} {Q : α → β → Prop} {a A : Nat} (h : Card T a) (hq : ∀ x, T x → Card (Q x) A) : Card (fun z : α × β => T z.1 ∧ Q z.1 z.2) (a * A) := by
  refine h.fibre Prod.fst (fun z hz => hz.1) fun x hx => ?_
  refine (hq x hx).bij (fun y => (x, y)) Prod.snd (fun y hy => ⟨⟨hx, hy⟩, rfl⟩) ?_ (fun y _ => rfl) ?_
  · rintro ⟨x', y⟩ ⟨⟨_, hy⟩, e⟩
    dsimp only at e hy ⊢
    rw [← e]; exact hy
  · rintro ⟨x', y⟩ ⟨_, e⟩
    dsimp only at e ⊢
    rw [e]
/-- Fibres of two sizes. -/
theorem Card.mix {α β : Type} {S T : α → Prop} {Q : α → β → Prop} {N a A B : Nat} (h : Card S N) (h' : Card T a) (hT : ∀ x, T x → S x) (hA : ∀ x, T x → Card (Q x) A) (hB : ∀ x, S x → ¬T x → Card (Q x) B) :
    a ≤ N ∧ Card (fun z : α × β => S z.1 ∧ Q z.1 z.2) (a * A + (N - a) * B) := by
  obtain ⟨hle, hr⟩ := h.rest h' hT
  refine ⟨hle, ?_⟩
  have h1 := h'.pairs hA
  have h2 := hr.pairs fun x hx => hB x hx.1 hx.2
  refine (h1.union h2 fun z hz hn => hn.1.2 hz.1).congr fun z => ⟨?_, fun k => ?_⟩
  · rintro (k | k)
    · exact ⟨hT _ k.1, k.2⟩
    · exact ⟨k.1.1, k.2⟩
  · rcases Classical.em (T z.1) with e | e
    · exact .inl ⟨e, k.2⟩
    · exact .inr ⟨⟨k.1, e⟩, k.2⟩

/-! ### the vectors that a row sends to 0 -/

theorem sm_upd (v z : Nat → Int) (c : Nat) (a : Int) (l : List Nat) (hn : l.Nodup) (hc : c ∈ l) : sm l (fun s => v s * upd z c a s) = sm l (fun s => v s * z s) + v c * (a - z c) := by
  have e : sm l (fun s => v s * upd z c a s) = sm l fun s => v s * z s + (v s * (upd z c a s - z s)) := sm_congr _ _ _ fun s _ => by grind
  rw [e, sm_add]
  congr 1
  rw [sm_one c _ l hn hc fun s _ hs => by rw [upd_other _ _ hs]; grind]
  rw [upd_same]
theorem row_all {p : Nat} {l : List Nat} (hn : l.Nodup) {v : Nat → Int} (h : ∀ s ∈ l, (p : Int) ∣ v s) : Card (fun x => Vec p l x ∧ (p : Int) ∣ sm l fun s => v s * x s) (p ^ l.length) :=
  (card_vec p l hn).congr fun x => ⟨fun hx => ⟨hx, by
    have := sm_dvd (p : Int) l (fun s => v s * x s) (fun _ => 0) fun s hs => by
      obtain ⟨m, hm⟩ := h s hs
      exact ⟨m * x s, by rw [hm]; grind⟩
    rw [sm_zero l _ fun _ _ => rfl, Int.sub_zero] at this
    exact this⟩, fun hx => hx.1⟩
/-- A number that p does not divide has an inverse. -/
theorem inv_of {p : Nat} (hP : IsP p) {a : Int} (h : ¬(p : Int) ∣ a) : ∃ i : Int, (p : Int) ∣ a * i - 1 := by
  have hp : (0 : Int) < p := by have := hP.1; omega
  have h0 : 0 ≤ a % p := Int.emod_nonneg _ (by omega)
  have h1 : a % p < p := Int.emod_lt_of_pos _ hp
  have h2 : a % p ≠ 0 := fun e => h (Int.dvd_of_emod_eq_zero e)
  obtain ⟨m, hm⟩ := inv_dvd (hP.2 (a % p) (by omega) h1)
  obtain ⟨k, hk⟩ := dvd_emod_sub a p
  exact ⟨inv p (a % p), m - k * inv p (a % p), by grind⟩
theorem erase_mem {l : List Nat} (hn : l.Nodup) {c j : Nat} : j ∈ l.erase c ↔ j ∈ l ∧ j ≠ c := by
  rw [hn.mem_erase_iff]; exact And.comm
theorem row_some {p : Nat} (hP : IsP p) {l : List Nat} (hn : l.Nodup) {v : Nat → Int} {c : Nat} (hc : c ∈ l) (h : ¬(p : Int) ∣ v c) : Card (fun x => Vec p l x ∧ (p : Int) ∣ sm l fun s => v s * x s) (p ^ (l.length - 1)) := by
  have hp : (0 : Int) < p := by have := hP.1; omega
  obtain ⟨i, hi⟩ := inv_of hP h
  have hcard := card_vec p (l.erase c) (hn.erase c)
  rw [List.length_erase_of_mem hc] at hcard
  let w : (Nat → Int) → Int := fun z => (-i * sm l fun s => v s * z s) % p
  have hw : ∀ z, 0 ≤ w z ∧ w z < p := fun z => ⟨Int.emod_nonneg _ (by omega), Int.emod_lt_of_pos _ hp⟩
  refine hcard.bij (fun z => upd z c (w z)) (fun x => upd x c 0) ?_ ?_ ?_ ?_
  · intro z hz
    have hzc : z c = 0 := hz.2 c fun hm => ((erase_mem hn).1 hm).2 rfl
    refine ⟨⟨fun j hj => ?_, fun j hj => ?_⟩, ?_⟩
    · by_cases e : j = c
      · subst e; rw [upd_same]; exact hw z
      · rw [upd_other _ _ e]; exact hz.1 j ((erase_mem hn).2 ⟨hj, e⟩)
    · rw [upd_other _ _ (fun e : j = c => hj (e ▸ hc))]
      exact hz.2 j fun hm => hj ((erase_mem hn).1 hm).1
    · rw [sm_upd v z c _ l hn hc, hzc]
      obtain ⟨m, hm⟩ := hi
      obtain ⟨k, hk⟩ := dvd_emod_sub (-i * sm l fun s => v s * z s) p
      have hk : w z - (-i * sm l fun s => v s * z s) = p * k := hk
      exact ⟨v c * k - m * sm l fun s => v s * z s, by grind⟩
  · rintro x ⟨hx, _⟩
    refine ⟨fun j hj => ?_, fun j hj => ?_⟩
    · obtain ⟨h1, h2⟩ := (erase_mem hn).1 hj
      rw [upd_other _ _ h2]; exact hx.1 j h1
    · by_cases e : j = c
      · rw [e, upd_same]
      · rw [upd_other _ _ e]; exact hx.2 j fun hm => hj ((erase_mem hn).2 ⟨hm, e⟩)
  · intro z hz
    funext j
    by_cases e : j = c
    · rw [e, upd_same]; exact (hz.2 c fun hm => ((erase_mem hn).1 hm).2 rfl).symm
    · rw [upd_other _ _ e, upd_other _ _ e]
  · rintro x ⟨hx, hd⟩
    funext j
    by_cases e : j = c
    · rw [e, upd_same]
      have h1 := sm_upd v x c 0 l hn hc
      have hxc := hx.1 c hc
      have hwz := hw (upd x c 0)
      obtain ⟨m, hm⟩ := hi
      obtain ⟨k, hk⟩ := dvd_emod_sub (-i * sm l fun s => v s * upd x c 0 s) p
      have hk : w (upd x c 0) - (-i * sm l fun s => v s * upd x c 0 s) = p * k := hk
      obtain ⟨r, hr⟩ := hd
      rw [h1, hr] at hk
      have hdv : (p : Int) ∣ w (upd x c 0) - x c := ⟨k - i * r + m * x c, by grind⟩
      obtain ⟨q, hq⟩ := hdv
      have : q = 0 := by
        rcases Int.lt_trichotomy q 0 with h0 | h0 | h0
        · have : (p : Int) * q ≤ p * (-1) := Int.mul_le_mul_of_nonneg_left (by omega) (by omega)
          omega
        · exact h0
        · have : (p : Int) * 1 ≤ p * q := Int.mul_le_mul_of_nonneg_left (by omega) (by omega)
          omega
      rw [this] at hq
      omega
    · rw [upd_other _ _ e, upd_other _ _ e]

/-! ### the transpose -/

/-- The vectors on the places L that the rows I send to 0. -/
def KerE (p : Nat) (I L : List Nat) (e : Nat → Nat → Int) (x : Nat → Int) : Prop := Vec p L x ∧ ∀ t ∈ I, (p : Int) ∣ sm L fun s => e t s * x s

theorem pair_count {p : Nat} (hP : IsP p) {I L : List Nat} (hI : I.Nodup) (hL : L.Nodup) (e : Nat → Nat → Int) {a : Nat} (h : Card (KerE p I L e) a) :
    a ≤ p ^ L.length ∧ ∃ c, c * p = a * (p * p ^ I.length) + (p ^ L.length - a) * p ^ I.length ∧ Card (fun z : (Nat → Int) × (Nat → Int) => Vec p L z.1 ∧ (Vec p I z.2 ∧ (p : Int) ∣ sm I fun t => (sm L fun s => e t s * z.1 s) * z.2 t)) c := by
  have hN := card_vec p L hL
  have hT : ∀ x, KerE p I L e x → Vec p L x := fun x hx => hx.1
  have hA : ∀ x, KerE p I L e x → Card (fun y => Vec p I y ∧ (p : Int) ∣ sm I fun t => (sm L fun s => e t s * x s) * y t) (p ^ I.length) := fun x hx => row_all hI hx.2
  rcases Classical.em (∃ x, Vec p L x ∧ ¬KerE p I L e x) with ⟨x0, hx0, hn0⟩ | hno
  · have hB : ∀ x, Vec p L x → ¬KerE p I L e x → Card (fun y => Vec p I y ∧ (p : Int) ∣ sm I fun t => (sm L fun s => e t s * x s) * y t) (p ^ (I.length - 1)) := fun x hx hn => by
      have : ∃ t, t ∈ I ∧ ¬(p : Int) ∣ sm L fun s => e t s * x s := Classical.byContradiction fun k => hn ⟨hx, fun t ht => Classical.byContradiction fun k2 => k ⟨t, ht, k2⟩⟩
      obtain ⟨t, ht, hd⟩ := this
      exact row_some hP hI ht hd
    have hpos : 0 < I.length := by
      cases I with
      | nil => exact absurd ⟨hx0, fun t ht => absurd ht (by simp)⟩ hn0
      | cons t I => simp
    obtain ⟨hle, hc⟩ := hN.mix h hT hA hB
    refine ⟨hle, _, ?_, hc⟩
    obtain ⟨i, hi⟩ : ∃ i, I.length = i + 1 := ⟨I.length - 1, by omega⟩
    rw [hi, Nat.add_sub_cancel, Nat.pow_succ]
    grind
  · have hall : ∀ x, Vec p L x → KerE p I L e x := fun x hx => Classical.byContradiction fun k => hno ⟨x, hx, k⟩
    obtain ⟨hle, hc⟩ := hN.mix (B := 0) h hT hA fun x hx hn => absurd (hall x hx) hn
    have ha : a = p ^ L.length := h.unique (hN.congr fun x => ⟨hall x, hT x⟩)
    refine ⟨hle, _, ?_, hc⟩
    rw [ha, Nat.sub_self]
    grind
theorem sm_mul_right {α : Type} (c : Int) (l : List α) (f : α → Int) : sm l f * c = sm l fun a => f a * c := by
  rw [Int.mul_comm, ← sm_mul]
  exact sm_congr _ _ _ fun a _ => Int.mul_comm _ _
/-- As many vectors, but for the difference of rows and columns, go to 0 under a matrix and under its transpose. -/
theorem transpose_card {p : Nat} (hP : IsP p) {I L : List Nat} (hI : I.Nodup) (hL : L.Nodup) (e : Nat → Nat → Int) {a b : Nat} (h : Card (KerE p I L e) a) (h' : Card (KerE p L I fun s t => e t s) b) : a * p ^ I.length = b * p ^ L.length := by
  obtain ⟨l1, c, hc, hC⟩ := pair_count hP hI hL e h
  obtain ⟨l2, d, hd, hD⟩ := pair_count hP hL hI (fun s t => e t s) h'
  have hcd : c = d := by
    refine (hC.bij (fun z => (z.2, z.1)) (fun z => (z.2, z.1)) ?_ ?_ (fun _ _ => rfl) (fun _ _ => rfl)).unique hD
    all_goals
      rintro ⟨x, y⟩ ⟨hx, hy, hdv⟩
      refine ⟨hy, hx, ?_⟩
      dsimp only at hdv ⊢
      refine (Eq.mp (congrArg (fun z => (p : Int) ∣ z) ?_) hdv)
      simp only [sm_mul_right]
      rw [sm_swap]
      refine sm_congr _ _ _ fun s _ => sm_congr _ _ _ fun t _ => ?_
      grind
  subst hcd
  have hp := hP.1
  obtain ⟨x, hx⟩ : ∃ x, p ^ L.length = a + x := ⟨p ^ L.length - a, by omega⟩
  obtain ⟨y, hy⟩ : ∃ y, p ^ I.length = b + y := ⟨p ^ I.length - b, by omega⟩
  obtain ⟨q, hq⟩ : ∃ q, p = q + 2 := ⟨p - 2, by omega⟩
  rw [hx, Nat.add_sub_cancel_left] at hc
  rw [hy, Nat.add_sub_cancel_left] at hd
  rw [hd] at hc
  generalize p ^ I.length = A at *
  generalize p ^ L.length = B at *
  subst hx hy hq
  have e1 : (q + 1) * (b * (a + x)) = (q + 1) * (a * (b + y)) := by grind
  have := Nat.eq_of_mul_eq_mul_left (Nat.succ_pos q) e1
  exact this.symm

end Lin
end Go.Proofs.Ytenpcjmhlnalcaa

/-! LINEAR ALGEBRA modulo a prime, of no program: a matrix turned has the same rank; a product's rank is not greater than its first factor's. -/

namespace Go.Proofs.Ytenpcjmhlnalcaa
open Sets
namespace Lin
open Hom

/-- The number of columns. -/
def wid (M : Mat) : Nat := (row M 0).length
def turnM (n : Nat) (M : Mat) : Mat := (List.range n).map fun j => (List.range M.length).map fun i => ent M i j
def timesM (n : Nat) (A B : Mat) : Mat := (List.range A.length).map fun i => (List.range n).map fun j => sm (List.range B.length) fun k => ent A i k * ent B k j

theorem turnM_length (n : Nat) (M : Mat) : (turnM n M).length = n := by simp [turnM]
theorem turnM_row (n : Nat) (M : Mat) (j : Nat) (h : j < n) : row (turnM n M) j = (List.range M.length).map fun i => ent M i j := by
  unfold turnM row; simp [List.getD, h]
theorem turnM_ent (n : Nat) (M : Mat) (j i : Nat) (h : j < n) (hi : i < M.length) : ent (turnM n M) j i = ent M i j := by
  unfold ent; rw [turnM_row n M j h]; simp [List.getD, hi, ent]
theorem turnM_wide (n : Nat) (M : Mat) : ∀ r ∈ turnM n M, r.length = M.length := fun r hr => by
  obtain ⟨j, _, rfl⟩ := List.mem_map.1 hr; simp
theorem timesM_length (n : Nat) (A B : Mat) : (timesM n A B).length = A.length := by simp [timesM]
theorem timesM_row (n : Nat) (A B : Mat) (i : Nat) (h : i < A.length) : row (timesM n A B) i = (List.range n).map fun j => sm (List.range B.length) fun k => ent A i k * ent B k j := by
  unfold timesM row; simp [List.getD, h]
theorem timesM_ent (n : Nat) (A B : Mat) (i j : Nat) (h : i < A.length) (hj : j < n) : ent (timesM n A B) i j = sm (List.range B.length) fun k => ent A i k * ent B k j := by
  unfold ent; rw [timesM_row n A B i h]; simp [List.getD, hj, ent]
theorem timesM_wide (n : Nat) (A B : Mat) : ∀ r ∈ timesM n A B, r.length = n := fun r hr => by
  obtain ⟨j, _, rfl⟩ := List.mem_map.1 hr; simp

theorem range_sm (f : Nat → Int) (n : Nat) : sm (List.range (n + 1)) f = f 0 + sm (List.range n) fun j => f (j + 1) := by
  rw [List.range_succ_eq_map]
  show f 0 + sm ((List.range n).map Nat.succ) f = _
  rw [sm_map]
theorem dot_sm : ∀ (r : List Int) (x : Nat → Int), dot r x = sm (List.range r.length) fun s => r.getD s 0 * x s
  | [], _ => rfl
  | a :: r, x => by
    rw [List.length_cons, range_sm]
    show a * x 0 + dot r _ = a * x 0 + _
    rw [dot_sm r]; rfl
theorem ker_kerE {p n : Nat} {M : Mat} (hw : ∀ r ∈ M, r.length = n) (x : Nat → Int) : Ker p n M x ↔ KerE p (List.range M.length) (List.range n) (ent M) x := by
  unfold Ker KerE
  refine and_congr_right fun _ => ?_
  constructor
  · intro h t ht
    have ht := List.mem_range.1 ht
    have := h _ (row_mem ht)
    rw [dot_sm, hw _ (row_mem ht)] at this
    exact this
  · intro h r hr
    obtain ⟨t, ht, rfl⟩ := mem_row hr
    rw [dot_sm, hw _ (row_mem ht)]
    exact h t (List.mem_range.2 ht)
theorem kerE_congr {p : Nat} {I L : List Nat} {e f : Nat → Nat → Int} (h : ∀ t ∈ I, ∀ s ∈ L, e t s = f t s) (x : Nat → Int) : KerE p I L e x ↔ KerE p I L f x := by
  unfold KerE
  refine and_congr_right fun _ => forall_congr' fun t => forall_congr' fun ht => ?_
  rw [sm_congr L (fun s => e t s * x s) (fun s => f t s * x s) fun s hs => by rw [h t ht s hs]]

/-- A matrix turned has the same rank. -/
theorem rank_turn {p : Nat} (hP : IsP p) {M : Mat} {n : Nat} (hw : ∀ r ∈ M, r.length = n) : rank p (turnM n M) M.length = rank p M n := by
  obtain ⟨h1, l1⟩ := rank_card hP hw
  obtain ⟨h2, l2⟩ := rank_card hP (turnM_wide n M)
  have h1 := h1.congr fun x => ker_kerE hw x
  have h2 : Card (KerE p (List.range n) (List.range M.length) fun s t => ent M t s) _ := h2.congr fun x => by
    refine (ker_kerE (turnM_wide n M) x).trans ?_
    rw [turnM_length]
    exact kerE_congr (fun t ht s hs => turnM_ent n M t s (List.mem_range.1 ht) (List.mem_range.1 hs)) x
  have := transpose_card hP List.nodup_range List.nodup_range (ent M) h1 h2
  rw [List.length_range, List.length_range, ← Nat.pow_add, ← Nat.pow_add] at this
  have := pow_inj hP.1 this
  omega

theorem Card.mono {α : Type} {S T : α → Prop} {c d : Nat} (h : Card S c) (h' : Card T d) (hT : ∀ x, T x → S x) : d ≤ c := (h.rest h' hT).1

/-- The rank of a product. -/
theorem rank_times {p : Nat} (hP : IsP p) {A B : Mat} {n : Nat} (hA : ∀ r ∈ A, r.length = B.length) : rank p (timesM n A B) n ≤ rank p A B.length := by
  rw [← rank_turn hP (timesM_wide n A B), ← rank_turn hP hA, timesM_length]
  obtain ⟨h1, l1⟩ := rank_card hP (turnM_wide B.length A)
  obtain ⟨h2, l2⟩ := rank_card hP (turnM_wide n (timesM n A B))
  rw [timesM_length] at h2 l2
  have hle : p ^ (A.length - rank p (turnM B.length A) A.length) ≤ p ^ (A.length - rank p (turnM n (timesM n A B)) A.length) := by
    refine h2.mono h1 fun x hx => ?_
    have hx1 := (ker_kerE (turnM_wide B.length A) x).1 hx
    refine (ker_kerE (by have := turnM_wide n (timesM n A B); rw [timesM_length] at this; exact this) x).2 ⟨hx1.1, fun j hj => ?_⟩
    rw [turnM_length] at hj
    have hj := List.mem_range.1 hj
    have e : sm (List.range A.length) (fun s => ent (turnM n (timesM n A B)) j s * x s) = sm (List.range B.length) fun k => ent B k j * sm (List.range A.length) fun s => ent A s k * x s := by
      have : ∀ s ∈ List.range A.length, ent (turnM n (timesM n A B)) j s * x s = sm (List.range B.length) fun k => ent B k j * (ent A s k * x s) := fun s hs => by
        have hs := List.mem_range.1 hs
        rw [turnM_ent n _ j s hj (by rw [timesM_length]; exact hs), timesM_ent n A B s j hs hj, sm_mul_right]
        exact sm_congr _ _ _ fun k _ => by grind
      rw [sm_congr _ _ _ this, sm_swap]
      exact sm_congr _ _ _ fun k _ => sm_mul _ _ _
    rw [e]
    have hd := sm_dvd (p : Int) (List.range B.length) (fun k => ent B k j * sm (List.range A.length) fun s => ent A s k * x s) (fun _ => 0) fun k hk => by
      have h := hx1.2 k (by rw [turnM_length]; exact hk)
      have hk := List.mem_range.1 hk
      rw [sm_congr _ _ (fun s => ent A s k * x s) fun s hs => by rw [turnM_ent _ A k s hk (List.mem_range.1 hs)]] at h
      obtain ⟨m, hm⟩ := h
      exact ⟨ent B k j * m, by rw [hm]; grind⟩
    rw [sm_zero (List.range B.length) (fun _ => 0) fun _ _ => rfl, Int.sub_zero] at hd
    exact hd
  rcases Nat.lt_or_ge (rank p A B.length) (rank p (timesM n A B) n) with hlt | hge
  all_goals
    rw [rank_turn hP hA] at l1 hle
    have e2 := rank_turn hP (timesM_wide n A B)
    rw [timesM_length] at e2
    rw [e2] at l2 hle
    have := (Nat.pow_le_pow_iff_right hP.1).1 hle
    rw [rank_turn hP hA, e2]
    omega

/-- The product of two borders that follow each other. -/
theorem border_zero {q : Nat → Bool} (hq : Down q) {k : Nat} (t u : Nat) (ht : t < 64) (hu : u < 64) (hqu : q u = true) (hk : pc u = k + 1) : sm (J q k) (fun s => sgn t s * sgn s u) = 0 := by
  have h := sgn_sgn t u ht hu
  unfold J
  rw [sm_filter]
  refine Eq.trans (sm_congr _ _ _ fun s hs => ?_) h
  have hs := List.mem_range.1 hs
  by_cases e : (pc s == k && q s) = true
  · rw [if_pos e]
  · rw [if_neg e]
    by_cases e2 : sub s u = true ∧ pc u = pc s + 1
    · exact absurd (by rw [Bool.and_eq_true, beq_iff_eq]; exact ⟨by omega, hq s u hs hu e2.1 hqu⟩) e
    · rw [sgn_zero e2]; simp

end Lin
end Go.Proofs.Ytenpcjmhlnalcaa

/-! HOLES of cones and of suspensions, of no program. -/

namespace Go.Proofs.Ytenpcjmhlnalcaa
namespace Hom
open Sets Lin

def sg (t : Nat) : Int := 1 - 2 * ((pc t % 2 : Nat) : Int)
theorem blk0 : ∀ n : Fin 6, ∀ t s : Fin 64, t.val < 2 ^ n.val → s.val < 2 ^ n.val → sgn t.val (2 ^ n.val + s.val) = (if s = t then sg t.val else 0) ∧ sgn (2 ^ n.val + t.val) (2 ^ n.val + s.val) = sgn t.val s.val ∧ sgn (2 ^ n.val + t.val) s.val = 0 := by decide +kernel
theorem pc_blk0 : ∀ n : Fin 6, ∀ s : Fin 64, s.val < 2 ^ n.val → pc (2 ^ n.val + s.val) = pc s.val + 1 := by decide +kernel
theorem pow64 {n : Nat} (hn : n ≤ 6) : 2 ^ n ≤ 64 := Nat.pow_le_pow_right (by decide) hn
theorem pow_two (n : Nat) : 2 ^ (n + 1) = 2 ^ n + 2 ^ n := by rw [Nat.pow_succ]; omega
theorem blk1 {n t s : Nat} (hn : n ≤ 5) (ht : t < 2 ^ n) (hs : s < 2 ^ n) : sgn t (2 ^ n + s) = if s = t then sg t else 0 := by
  have h64 := pow64 (n := n) (by omega)
  have := (blk0 ⟨n, by omega⟩ ⟨t, by omega⟩ ⟨s, by omega⟩ ht hs).1
  simpa using this
theorem blk2 {n t s : Nat} (hn : n ≤ 5) (ht : t < 2 ^ n) (hs : s < 2 ^ n) : sgn (2 ^ n + t) (2 ^ n + s) = sgn t s := by
  have h64 := pow64 (n := n) (by omega)
  exact (blk0 ⟨n, by omega⟩ ⟨t, by omega⟩ ⟨s, by omega⟩ ht hs).2.1
theorem blk3 {n t s : Nat} (hn : n ≤ 5) (ht : t < 2 ^ n) (hs : s < 2 ^ n) : sgn (2 ^ n + t) s = 0 := by
  have h64 := pow64 (n := n) (by omega)
  exact (blk0 ⟨n, by omega⟩ ⟨t, by omega⟩ ⟨s, by omega⟩ ht hs).2.2
theorem pc_blk {n s : Nat} (hn : n ≤ 5) (hs : s < 2 ^ n) : pc (2 ^ n + s) = pc s + 1 := by
  have h64 := pow64 (n := n) (by omega)
  exact pc_blk0 ⟨n, by omega⟩ ⟨s, by omega⟩ hs
theorem sg_sq (t : Nat) : sg t * sg t = 1 := by unfold sg; rcases Nat.mod_two_eq_zero_or_one (pc t) with h | h <;> rw [h] <;> decide

theorem S_low {N : Nat} (hN : N ≤ 64) {f : Nat → Int} (h : ∀ s, N ≤ s → s < 64 → f s = 0) : S f = sm (List.range N) f := by
  unfold S
  rw [show 64 = N + (64 - N) by omega, sm_range_add, sm_zero (List.range (64 - N)) _ fun s hs => h _ (by omega) (by rw [List.mem_range] at hs; omega)]; omega
theorem S_two {N : Nat} (hN : N + N ≤ 64) {f : Nat → Int} (h : ∀ s, N + N ≤ s → s < 64 → f s = 0) : S f = sm (List.range N) f + sm (List.range N) fun s => f (N + s) := by
  rw [S_low hN h, sm_range_add]
theorem S_three {N : Nat} (hN : N + N + N ≤ 64) {f : Nat → Int} (h : ∀ s, N + N + N ≤ s → s < 64 → f s = 0) : S f = sm (List.range N) f + (sm (List.range N) fun s => f (N + s)) + sm (List.range N) fun s => f (N + N + s) := by
  rw [S_low hN h, sm_range_add, sm_range_add]

/-- The sets of n points. -/
def Low (n : Nat) (q : Nat → Bool) : Prop := ∀ s, s < 64 → q s = true → s < 2 ^ n
/-- The faces of a join. -/
def joinQ (n : Nat) (q r : Nat → Bool) (s : Nat) : Bool := q (s % 2 ^ n) && r (s / 2 ^ n)

theorem vec_zero {p : Nat} {q : Nat → Bool} {k : Nat} {y : Nat → Int} (h : Vec p (J q k) y) {s : Nat} (hs : s < 64 → ¬(pc s = k ∧ q s = true)) : y s = 0 := h.2 s fun hm => by
  have := (mem_J q k s).1 hm; exact hs this.1 this.2

/-- A vector's piece of N numbers from b on. -/
def cut (N b : Nat) (y : Nat → Int) (s : Nat) : Int := if s < N then y (b + s) else 0
theorem cut_lt {N b : Nat} {y : Nat → Int} {s : Nat} (h : s < N) : cut N b y s = y (b + s) := if_pos h
theorem cut_ge {N b : Nat} {y : Nat → Int} {s : Nat} (h : ¬s < N) : cut N b y s = 0 := if_neg h
theorem bd_cut {N b : Nat} (hN : N ≤ 64) (y : Nat → Int) (t : Nat) : bd (cut N b y) t = sm (List.range N) fun s => sgn t s * y (b + s) := by
  unfold bd
  rw [S_low hN fun s h _ => by rw [cut_ge (by omega)]; simp]
  exact sm_congr _ _ _ fun s hs => by rw [cut_lt (List.mem_range.1 hs)]

/-- A piece of a chain is a chain of the faces that lie in the piece. -/
theorem vec_cut {p n b k j : Nat} {q' q : Nat → Bool} {y : Nat → Int} (hn : b + 2 ^ n ≤ 64) (hlow : Low n q) (hq : ∀ s, s < 2 ^ n → (q' (b + s) = true ∧ pc (b + s) = k ↔ q s = true ∧ pc s = j)) (h : Vec p (J q' k) y) : Vec p (J q j) (cut (2 ^ n) b y) := by
  refine ⟨fun s hs => ?_, fun s hs => ?_⟩
  · obtain ⟨h1, h2, h3⟩ := (mem_J q j s).1 hs
    have hl := hlow s h1 h3
    rw [cut_lt hl]
    have := (hq s hl).2 ⟨h3, h2⟩
    exact h.1 _ ((mem_J q' k _).2 ⟨by omega, this.2, this.1⟩)
  · by_cases hl : s < 2 ^ n
    · rw [cut_lt hl]
      exact h.2 _ fun hm => by
        obtain ⟨_, h2, h3⟩ := (mem_J q' k _).1 hm
        have := (hq s hl).1 ⟨h3, h2⟩
        exact hs ((mem_J q j s).2 ⟨by omega, this.2, this.1⟩)
    · exact cut_ge hl

theorem emod_vec {p : Nat} (hp : 0 < p) {l : List Nat} {f : Nat → Int} (h : ∀ s, s ∉ l → (p : Int) ∣ f s) : Vec p l fun s => f s % p :=
  ⟨fun s _ => ⟨Int.emod_nonneg _ (by omega), Int.emod_lt_of_pos _ (by omega)⟩, fun s hs => Int.emod_eq_zero_of_dvd (h s hs)⟩
theorem vec_mod {p : Nat} {l : List Nat} {x : Nat → Int} (h : Vec p l x) (s : Nat) : x s % p = x s := by
  by_cases e : s ∈ l
  · exact Int.emod_eq_of_lt (h.1 s e).1 (h.1 s e).2
  · rw [h.2 s e]; simp
theorem vec_ext {p : Nat} {l m : List Nat} {x y : Nat → Int} (h : Vec p l x) (k : Vec p m y) (s : Nat) (hd : (p : Int) ∣ x s - y s) : x s = y s := by
  rw [← vec_mod h s, ← vec_mod k s]
  exact Int.emod_eq_emod_iff_emod_sub_eq_zero.2 (Int.emod_eq_zero_of_dvd hd)
theorem bd_emod (p : Int) (f : Nat → Int) (t : Nat) : p ∣ bd (fun s => f s % p) t - bd f t := by
  unfold bd S
  refine sm_dvd p _ _ _ fun s _ => ?_
  obtain ⟨m, hm⟩ := dvd_emod_sub (f s) p
  exact ⟨sgn t s * m, by dsimp only; grind⟩
theorem bd_add (f g : Nat → Int) (t : Nat) : bd (fun s => f s + g s) t = bd f t + bd g t := by
  unfold bd S
  rw [← sm_add]
  exact sm_congr _ _ _ fun s _ => by grind
theorem bd_mul (c : Int) (f : Nat → Int) (t : Nat) : bd (fun s => c * f s) t = c * bd f t := by
  unfold bd S
  rw [← sm_mul]
  exact sm_congr _ _ _ fun s _ => by grind
theorem bd_congr {f g : Nat → Int} (t : Nat) (h : ∀ s, s < 64 → sub t s = true → pc s = pc t + 1 → f s = g s) : bd f t = bd g t := by
  unfold bd S
  refine sm_congr _ _ _ fun s hs => ?_
  by_cases e : sub t s = true ∧ pc s = pc t + 1
  · rw [h s (List.mem_range.1 hs) e.1 e.2]
  · rw [sgn_zero e]; simp
theorem bd_out (f : Nat → Int) {t : Nat} (ht : 64 ≤ t) : bd f t = 0 := by
  unfold bd S
  refine sm_zero _ _ fun s hs => ?_
  rw [sgn_zero fun h => by have := sub_le h.1; rw [List.mem_range] at hs; omega]; simp

end Hom
end Go.Proofs.Ytenpcjmhlnalcaa

/-! HOLES of a complex with one point more, of no program: its cycles are relative cycles; cones have no holes, suspensions have those of the complex, one size up. -/

namespace Go.Proofs.Ytenpcjmhlnalcaa
namespace Hom
open Sets Lin

/-- The complex q with the point n, whose link is l. -/
def addQ (n : Nat) (q l : Nat → Bool) (s : Nat) : Bool := if s < 2 ^ n then q s else l (s - 2 ^ n)
def Rel (p : Nat) (q l : Nat → Bool) (k : Nat) (u : Nat → Int) : Prop := Vec p (J q k) u ∧ ∀ t, t < 64 → l t = false → (p : Int) ∣ bd u t
def sgK (k : Nat) : Int := 1 - 2 * ((k % 2 : Nat) : Int)
theorem sgK_sq (k : Nat) : sgK k * sgK k = 1 := by unfold sgK; rcases Nat.mod_two_eq_zero_or_one k with h | h <;> rw [h] <;> decide
theorem sg_K {t k : Nat} (h : pc t = k) : sg t = sgK k := by unfold sg sgK; rw [h]

theorem addQ_lo {n : Nat} {q l : Nat → Bool} {s : Nat} (h : s < 2 ^ n) : addQ n q l s = q s := if_pos h
theorem addQ_hi {n : Nat} {q l : Nat → Bool} (s : Nat) : addQ n q l (2 ^ n + s) = l s := by unfold addQ; rw [if_neg (by omega), Nat.add_sub_cancel_left]
theorem low_false {n : Nat} {q : Nat → Bool} (h : Low n q) {s : Nat} (hs : s < 64) (hn : 2 ^ n ≤ s) : q s = false := by
  rw [Bool.eq_false_iff]; intro e; have := h s hs e; omega
theorem addQ_low {n : Nat} {q l : Nat → Bool} (hl : Low n l) : Low (n + 1) (addQ n q l) := by
  intro s hs h
  rw [pow_two]
  unfold addQ at h
  split at h
  · omega
  · have := hl _ (by have := Nat.two_pow_pos n; omega) h; omega

def glue (N : Nat) (u v : Nat → Int) (s : Nat) : Int := if s < N then u s else if s < N + N then v (s - N) else 0
theorem glue_lo {N : Nat} {u v : Nat → Int} {s : Nat} (h : s < N) : glue N u v s = u s := if_pos h
theorem glue_hi {N : Nat} {u v : Nat → Int} {s : Nat} (h : s < N) : glue N u v (N + s) = v s := by unfold glue; rw [if_neg (by omega), if_pos (by omega), Nat.add_sub_cancel_left]
theorem glue_out {N : Nat} {u v : Nat → Int} {s : Nat} (h : N + N ≤ s) : glue N u v s = 0 := by unfold glue; rw [if_neg (by omega), if_neg (by omega)]

/-- The border of a vector of two pieces. -/
theorem bd_lo {n : Nat} (hn : n ≤ 5) {y : Nat → Int} (hy : ∀ s, 2 ^ n + 2 ^ n ≤ s → s < 64 → y s = 0) {t : Nat} (ht : t < 2 ^ n) : bd y t = bd (cut (2 ^ n) 0 y) t + sg t * y (2 ^ n + t) := by
  have h64 := pow64 (n := n + 1) (by omega)
  rw [pow_two] at h64
  rw [bd_cut (by omega)]
  unfold bd
  rw [S_two h64 fun s h1 h2 => by rw [hy s h1 h2]; simp]
  congr 1
  · exact sm_congr _ _ _ fun s _ => by rw [Nat.zero_add]
  · rw [sm_congr _ _ (fun s => if s = t then sg t * y (2 ^ n + s) else 0) fun s hs => by
      rw [blk1 hn ht (List.mem_range.1 hs)]; split <;> simp]
    rw [sm_one t _ _ List.nodup_range (List.mem_range.2 ht) fun s _ hne => if_neg hne, if_pos rfl]
theorem bd_hi {n : Nat} (hn : n ≤ 5) {y : Nat → Int} (hy : ∀ s, 2 ^ n + 2 ^ n ≤ s → s < 64 → y s = 0) {t : Nat} (ht : t < 2 ^ n) : bd y (2 ^ n + t) = bd (cut (2 ^ n) (2 ^ n) y) t := by
  have h64 := pow64 (n := n + 1) (by omega)
  rw [pow_two] at h64
  rw [bd_cut (by omega)]
  unfold bd
  rw [S_two h64 fun s h1 h2 => by rw [hy s h1 h2]; simp, sm_zero _ _ fun s hs => by rw [blk3 hn ht (List.mem_range.1 hs)]; simp]
  rw [Int.zero_add]
  exact sm_congr _ _ _ fun s hs => by rw [blk2 hn ht (List.mem_range.1 hs)]

theorem add_zero_at {p n k : Nat} {q l : Nat → Bool} (hl : Low n l) {y : Nat → Int} (hy : Vec p (J (addQ n q l) k) y) : ∀ s, 2 ^ n + 2 ^ n ≤ s → s < 64 → y s = 0 := fun s h1 h2 =>
  vec_zero hy fun _ h => by
    have := addQ_low (q := q) hl s h2 h.2
    rw [pow_two] at this; omega

theorem cut_lo_vec {p n k : Nat} (hn : n ≤ 5) {q l : Nat → Bool} (hq : Low n q) {y : Nat → Int} (hy : Vec p (J (addQ n q l) k) y) : Vec p (J q k) (cut (2 ^ n) 0 y) :=
  vec_cut (by have := pow64 (n := n) (by omega); omega) hq (fun s hs => by rw [Nat.zero_add, addQ_lo hs]) hy
theorem cut_hi_vec {p n k : Nat} (hn : n ≤ 5) {q l : Nat → Bool} (hl : Low n l) {y : Nat → Int} (hy : Vec p (J (addQ n q l) (k + 1)) y) : Vec p (J l k) (cut (2 ^ n) (2 ^ n) y) := by
  have h64 := pow64 (n := n + 1) (by omega)
  rw [pow_two] at h64
  exact vec_cut h64 hl (fun s hs => by rw [addQ_hi, pc_blk hn hs]; exact and_congr_right fun _ => by omega) hy

theorem glue_vec {p n k : Nat} (hn : n ≤ 5) {q l : Nat → Bool} (hl : Low n l) {u v : Nat → Int} (hu : Vec p (J q (k + 1)) u) (hv : Vec p (J l k) v) : Vec p (J (addQ n q l) (k + 1)) (glue (2 ^ n) u v) := by
  have h64 := pow64 (n := n + 1) (by omega)
  rw [pow_two] at h64
  refine ⟨fun s hs => ?_, fun s hs => ?_⟩
  · obtain ⟨h1, h2, h3⟩ := (mem_J _ _ s).1 hs
    by_cases e : s < 2 ^ n
    · rw [glue_lo e]; rw [addQ_lo e] at h3
      exact hu.1 s ((mem_J q _ s).2 ⟨h1, h2, h3⟩)
    · obtain ⟨t, rfl⟩ : ∃ t, s = 2 ^ n + t := ⟨s - 2 ^ n, by omega⟩
      rw [addQ_hi] at h3
      have ht := hl t (by have := Nat.two_pow_pos n; omega) h3
      rw [glue_hi ht]; rw [pc_blk hn ht] at h2
      exact hv.1 t ((mem_J l _ t).2 ⟨by omega, by omega, h3⟩)
  · by_cases e : s < 2 ^ n
    · rw [glue_lo e]
      exact hu.2 s fun hm => hs (by
        obtain ⟨h1, h2, h3⟩ := (mem_J q _ s).1 hm
        exact (mem_J _ _ s).2 ⟨h1, h2, by rw [addQ_lo e]; exact h3⟩)
    · by_cases e2 : s < 2 ^ n + 2 ^ n
      · obtain ⟨t, rfl⟩ : ∃ t, s = 2 ^ n + t := ⟨s - 2 ^ n, by omega⟩
        rw [glue_hi (by omega)]
        exact hv.2 t fun hm => hs (by
          obtain ⟨h1, h2, h3⟩ := (mem_J l _ t).1 hm
          exact (mem_J _ _ _).2 ⟨by omega, by rw [pc_blk hn (by omega), h2], by rw [addQ_hi]; exact h3⟩)
      · exact glue_out (by omega)

theorem low_vec {p n k : Nat} {q : Nat → Bool} (hq : Low n q) {u : Nat → Int} (hu : Vec p (J q k) u) {s : Nat} (hs : 2 ^ n ≤ s) : u s = 0 := vec_zero hu fun h64 h => by
  have := hq s h64 h.2; omega
theorem cut_glue_lo {p n k : Nat} {q : Nat → Bool} (hq : Low n q) {u v : Nat → Int} (hu : Vec p (J q k) u) : cut (2 ^ n) 0 (glue (2 ^ n) u v) = u := by
  funext s
  by_cases e : s < 2 ^ n
  · rw [cut_lt e, Nat.zero_add, glue_lo e]
  · rw [cut_ge e, low_vec hq hu (by omega)]
theorem cut_glue_hi {p n k : Nat} {l : Nat → Bool} (hl : Low n l) {u v : Nat → Int} (hv : Vec p (J l k) v) : cut (2 ^ n) (2 ^ n) (glue (2 ^ n) u v) = v := by
  funext s
  by_cases e : s < 2 ^ n
  · rw [cut_lt e, glue_hi e]
  · rw [cut_ge e, low_vec hl hv (by omega)]
theorem glue_cut {p n k : Nat} {q l : Nat → Bool} (hn : n ≤ 5) (hl : Low n l) {y : Nat → Int} (hy : Vec p (J (addQ n q l) k) y) : glue (2 ^ n) (cut (2 ^ n) 0 y) (cut (2 ^ n) (2 ^ n) y) = y := by
  have h64 := pow64 (n := n + 1) (by omega)
  rw [pow_two] at h64
  funext s
  by_cases e : s < 2 ^ n
  · rw [glue_lo e, cut_lt e, Nat.zero_add]
  · by_cases e2 : s < 2 ^ n + 2 ^ n
    · obtain ⟨t, rfl⟩ : ∃ t, s = 2 ^ n + t := ⟨s - 2 ^ n, by omega⟩
      rw [glue_hi (by omega), cut_lt (by omega)]
    · rw [glue_out (by omega)]
      by_cases e3 : s < 64
      · exact (add_zero_at hl hy s (by omega) e3).symm
      · exact (hy.2 s fun hm => e3 ((mem_J _ _ s).1 hm).1).symm

theorem addQ_down {n : Nat} {q l : Nat → Bool} (hq : Down q) (hl : Down l) (hlow : Low n l) (hlq : ∀ s, s < 64 → l s = true → q s = true) : Down (addQ n q l) := by
  intro s t hs ht h k
  by_cases e : t < 2 ^ n
  · have := sub_le h
    rw [addQ_lo e] at k
    rw [addQ_lo (by omega)]
    exact hq s t hs ht h k
  · obtain ⟨t', rfl⟩ : ∃ t', t = 2 ^ n + t' := ⟨t - 2 ^ n, by omega⟩
    rw [addQ_hi] at k
    have h2p := Nat.two_pow_pos n
    have ht' := hlow t' (by omega) k
    by_cases e2 : s < 2 ^ n
    · rw [addQ_lo e2]
      refine hlq s hs (hl s t' hs (by omega) ?_ k)
      rw [sub_iff] at h ⊢
      intro i hi
      have h1 := h i hi
      have hin : i < n := Nat.lt_of_not_le fun hh => by
        rw [Nat.testBit_lt_two_pow (Nat.lt_of_lt_of_le e2 (Nat.pow_le_pow_right (by decide) hh))] at hi; exact absurd hi (by decide)
      rwa [Nat.testBit_two_pow_add_gt hin] at h1
    · obtain ⟨s', rfl⟩ : ∃ s', s = 2 ^ n + s' := ⟨s - 2 ^ n, by omega⟩
      rw [addQ_hi]
      have hs' : s' < 2 ^ n := by have := sub_le h; omega
      refine hl s' t' (by omega) (by omega) ?_ k
      rw [sub_iff] at h ⊢
      intro i hi
      have hin : i < n := Nat.lt_of_not_le fun hh => by
        rw [Nat.testBit_lt_two_pow (Nat.lt_of_lt_of_le hs' (Nat.pow_le_pow_right (by decide) hh))] at hi; exact absurd hi (by decide)
      have h1 := h i (by rw [Nat.testBit_two_pow_add_gt hin]; exact hi)
      rwa [Nat.testBit_two_pow_add_gt hin] at h1

/-- THE CYCLES OF A COMPLEX WITH ONE POINT MORE are the relative cycles. -/
theorem card_add {p : Nat} (hp : 0 < p) {n : Nat} (hn : n ≤ 5) {q l : Nat → Bool} (hq : Low n q) (hl : Low n l) (dq : Down q) (dl : Down l) (hlq : ∀ s, s < 64 → l s = true → q s = true) {k c : Nat}
    (h : Card (Rel p q l (k + 1)) c) : Card (Cyc p (addQ n q l) (k + 1)) c := by
  have h64 := pow64 (n := n + 1) (by omega)
  rw [pow_two] at h64
  have hdown := addQ_down dq dl hl hlq
  have hv : ∀ u, Rel p q l (k + 1) u → Vec p (J l k) fun s => (-sgK k * bd u s) % p := fun u hu => emod_vec hp fun s hs => by
    by_cases e : s < 64
    · by_cases e2 : l s = true
      · by_cases e3 : pc s = k
        · exact absurd ((mem_J l k s).2 ⟨e, e3, e2⟩) hs
        · rw [bd_off dq hu.1 e (by omega)]; exact ⟨0, by simp⟩
      · obtain ⟨m, hm⟩ := hu.2 s e (by simpa using e2)
        exact ⟨-sgK k * m, by rw [hm]; grind⟩
    · rw [bd_out _ (by omega)]; exact ⟨0, by simp⟩
  refine h.bij (fun u => glue (2 ^ n) u fun s => (-sgK k * bd u s) % p) (fun y => cut (2 ^ n) 0 y) ?_ ?_ ?_ ?_
  · intro u hu
    have hg := glue_vec hn hl hu.1 (hv u hu)
    refine ⟨hg, fun t ht => ?_⟩
    have hz := add_zero_at hl hg
    by_cases e : t < 2 ^ n
    · rw [bd_lo hn hz e, cut_glue_lo hq hu.1, glue_hi e]
      by_cases e3 : pc t = k
      · rw [sg_K e3]
        obtain ⟨m, hm⟩ := dvd_emod_sub (-sgK k * bd u t) p
        have := sgK_sq k
        exact ⟨sgK k * m, by grind⟩
      · rw [bd_off dq hu.1 ht (by omega)]; exact ⟨0, by simp⟩
    · by_cases e2 : t < 2 ^ n + 2 ^ n
      · obtain ⟨t, rfl⟩ : ∃ t', t = 2 ^ n + t' := ⟨t - 2 ^ n, by omega⟩
        rw [bd_hi hn hz (by omega), cut_glue_hi hl (hv u hu)]
        rw [dvd_of_emod (bd_emod p _ t), bd_mul, bd_bd u (by omega)]; exact ⟨0, by simp⟩
      · have : addQ n q l t = false := low_false (addQ_low hl) ht (by rw [pow_two]; omega)
        rw [bd_off hdown hg ht (by rw [this]; simp)]; exact ⟨0, by simp⟩
  · intro y hy
    refine ⟨cut_lo_vec hn hq hy.1, fun t ht hlt => ?_⟩
    by_cases e : t < 2 ^ n
    · have := hy.2 t ht
      rw [bd_lo hn (add_zero_at hl hy.1) e] at this
      have hz : cut (2 ^ n) (2 ^ n) y t = 0 := vec_zero (cut_hi_vec hn hl hy.1) fun _ h => by rw [hlt] at h; exact absurd h.2 (by decide)
      rw [cut_lt e] at hz
      rw [hz] at this
      simpa using this
    · rw [bd_off dq (cut_lo_vec hn hq hy.1) ht (by rw [low_false hq ht (by omega)]; simp)]; exact ⟨0, by simp⟩
  · intro u hu
    exact cut_glue_lo hq hu.1
  · intro y hy
    have hu := cut_lo_vec hn hq hy.1
    have hv' := cut_hi_vec hn hl hy.1
    have hrel : Rel p q l (k + 1) (cut (2 ^ n) 0 y) := by
      refine ⟨hu, fun t ht hlt => ?_⟩
      by_cases e : t < 2 ^ n
      · have := hy.2 t ht
        rw [bd_lo hn (add_zero_at hl hy.1) e] at this
        have hz : cut (2 ^ n) (2 ^ n) y t = 0 := vec_zero hv' fun _ h => by rw [hlt] at h; exact absurd h.2 (by decide)
        rw [cut_lt e] at hz
        rw [hz] at this
        simpa using this
      · rw [bd_off dq hu ht (by rw [low_false hq ht (by omega)]; simp)]; exact ⟨0, by simp⟩
    rw [show (fun s => (-sgK k * bd (cut (2 ^ n) 0 y) s) % (p : Int)) = cut (2 ^ n) (2 ^ n) y from ?_]
    · exact glue_cut hn hl hy.1
    · funext s
      refine vec_ext (hv _ hrel) hv' s ?_
      by_cases e : s < 2 ^ n
      · rw [cut_lt e]
        by_cases e3 : pc s = k
        · have h1 := hy.2 s (by omega)
          rw [bd_lo hn (add_zero_at hl hy.1) e, sg_K e3] at h1
          obtain ⟨a, ha⟩ := h1
          obtain ⟨m, hm⟩ := dvd_emod_sub (-sgK k * bd (cut (2 ^ n) 0 y) s) p
          have := sgK_sq k
          exact ⟨m - sgK k * a, by grind⟩
        · have : cut (2 ^ n) (2 ^ n) y s = 0 := vec_zero hv' fun _ h => e3 h.1
          rw [cut_lt e] at this
          rw [this, bd_off dq hu (by omega) (by omega)]; exact ⟨0, by simp⟩
      · rw [cut_ge e, low_vec hl (hv _ hrel) (by omega)]; exact ⟨0, by simp⟩

end Hom
end Go.Proofs.Ytenpcjmhlnalcaa
