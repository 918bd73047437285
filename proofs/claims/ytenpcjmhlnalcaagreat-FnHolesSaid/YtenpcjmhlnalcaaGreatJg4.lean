/-
  TEXTS of one claim, put together: Hom1, Dual1, MatLaw, WWhere.
-/
import Derived.Test.YtenpcjmhlnalcaaGreatJg2
import Derived.Test.YtenpcjmhlnalcaaGreatJg3
import Derived.Test.YtenpcjmhlnalcaaGreatJg1
import Derived.WalkMore
import Derived.Shelf.Abstract
/-! CHAINS of sets of at most six points, of no program: borders, cycles; the border's rank counts cycles; the border of a border is 0. -/

namespace Go.Proofs.YtenpcjmhlnalcaaGreat
namespace Hom
open Sets Lin

/-- The number of the face t in the border of the face s. -/
def sgn (t s : Nat) : Int := if sub t s = true ∧ pc s = pc t + 1 then 1 - 2 * ((pc (s &&& (s - t - 1)) % 2 : Nat) : Int) else 0
def S (f : Nat → Int) : Int := sm (List.range 64) f
def bd (y : Nat → Int) (t : Nat) : Int := S fun s => sgn t s * y s
/-- The faces of k points. -/
def J (q : Nat → Bool) (k : Nat) : List Nat := (List.range 64).filter fun s => pc s == k && q s

theorem sm_add {α : Type} : ∀ (l : List α) (f g : α → Int), sm l (fun a => f a + g a) = sm l f + sm l g
  | [], _, _ => rfl
  | a :: l, f, g => by
    show f a + g a + sm l (fun a => f a + g a) = f a + sm l f + (g a + sm l g)
    rw [sm_add l f g]; omega
theorem sm_mul {α : Type} (c : Int) : ∀ (l : List α) (f : α → Int), sm l (fun a => c * f a) = c * sm l f
  | [], _ => by simp [sm]
  | a :: l, f => by
    show c * f a + sm l (fun a => c * f a) = c * (f a + sm l f)
    rw [sm_mul c l f]; grind
theorem sm_append {α : Type} (f : α → Int) : ∀ l m : List α, sm (l ++ m) f = sm l f + sm m f
  | [], m => by simp [sm]
  | a :: l, m => by
    show f a + sm (l ++ m) f = f a + sm l f + sm m f
    rw [sm_append f l m]; omega
theorem sm_map {α β : Type} (h : α → β) (f : β → Int) : ∀ l : List α, sm (l.map h) f = sm l fun a => f (h a)
  | [] => rfl
  | a :: l => by
    show f (h a) + sm (l.map h) f = f (h a) + sm l fun a => f (h a)
    rw [sm_map h f l]
theorem sm_swap {α β : Type} (f : α → β → Int) : ∀ (l : List α) (m : List β), sm l (fun a => sm m (f a)) = sm m fun b => sm l fun a => f a b
  | [], m => (sm_zero m _ fun _ _ => rfl).symm
  | a :: l, m => by
    show sm m (f a) + sm l (fun a => sm m (f a)) = sm m fun b => f a b + sm l fun a => f a b
    rw [sm_swap f l m, sm_add]
theorem sm_filter {α : Type} (P : α → Bool) (f : α → Int) : ∀ l : List α, sm (l.filter P) f = sm l fun a => if P a = true then f a else 0
  | [] => rfl
  | a :: l => by
    show _ = (if P a = true then f a else 0) + sm l fun a => if P a = true then f a else 0
    rw [← sm_filter P f l, List.filter_cons]
    split
    · rfl
    · omega
theorem sm_range_add (f : Nat → Int) (a b : Nat) : sm (List.range (a + b)) f = sm (List.range a) f + sm (List.range b) fun s => f (a + s) := by
  rw [List.range_add, sm_append, sm_map]
theorem sm_dvd {α : Type} (p : Int) : ∀ (l : List α) (f g : α → Int), (∀ a ∈ l, p ∣ f a - g a) → p ∣ sm l f - sm l g
  | [], _, _, _ => ⟨0, by simp [sm]⟩
  | a :: l, f, g, h => by
    obtain ⟨k, hk⟩ := h a (List.mem_cons_self ..)
    obtain ⟨m, hm⟩ := sm_dvd p l f g fun b hb => h b (List.mem_cons_of_mem _ hb)
    refine ⟨k + m, ?_⟩
    show f a + sm l f - (g a + sm l g) = p * (k + m)
    grind
theorem sm_count {α : Type} (P : α → Bool) : ∀ l : List α, ((l.filter P).length : Int) = sm l fun a => if P a = true then 1 else 0
  | [] => rfl
  | a :: l => by
    show _ = (if P a = true then 1 else 0) + sm l fun a => if P a = true then 1 else 0
    rw [← sm_count P l, List.filter_cons]
    split
    · rw [List.length_cons]; omega
    · omega

theorem mem_J (q : Nat → Bool) (k s : Nat) : s ∈ J q k ↔ s < 64 ∧ pc s = k ∧ q s = true := by unfold J; rw [List.mem_filter, List.mem_range, Bool.and_eq_true, beq_iff_eq]
theorem J_nodup (q : Nat → Bool) (k : Nat) : (J q k).Nodup := List.nodup_range.filter _

/-- The matrix of the border of the faces of k points, its rank modulo a prime. -/
def bdm (q : Nat → Bool) (k : Nat) : Mat := (J q (k - 1)).map fun t => (J q k).map fun s => sgn t s
def rk (p : Nat) (q : Nat → Bool) (k : Nat) : Nat := if k = 0 then 0 else rank p (bdm q k) (J q k).length
/-- Chains of faces of k points; those without a border. -/
def Chn (p : Nat) (q : Nat → Bool) (k : Nat) (y : Nat → Int) : Prop := Vec p (J q k) y
def Cyc (p : Nat) (q : Nat → Bool) (k : Nat) (y : Nat → Int) : Prop := Vec p (J q k) y ∧ ∀ t, t < 64 → (p : Int) ∣ bd y t

theorem card_chn (p : Nat) (q : Nat → Bool) (k : Nat) : Card (Chn p q k) (p ^ (J q k).length) := card_vec p _ (J_nodup q k)

theorem dot_map (h : Nat → Int) (y : Nat → Int) : ∀ l : List Nat, dot (l.map h) (fun j => y (l.getD j 64)) = sm l fun s => h s * y s
  | [] => rfl
  | a :: l => by
    show h a * y a + dot (l.map h) (fun j => y (l.getD j 64)) = h a * y a + sm l fun s => h s * y s
    rw [dot_map h y l]

theorem vec_getD {l : List Nat} {j : Nat} (h : j < l.length) (d : Nat) : l.getD j d = l[j] := by simp [List.getD, List.getElem?_eq_getElem h]

/-- Vectors by place and vectors by index. -/
theorem card_index {p : Nat} {l : List Nat} (hn : l.Nodup) (h64 : 64 ∉ l) (T : (Nat → Int) → Prop) {c : Nat} (h : Card (fun x => Vec p (List.range l.length) x ∧ T fun s => if s ∈ l then x (l.idxOf s) else 0) c) : Card (fun y => Vec p l y ∧ T y) c := by
  refine h.bij (fun x s => if s ∈ l then x (l.idxOf s) else 0) (fun y j => y (l.getD j 64)) ?_ ?_ ?_ ?_
  · rintro x ⟨hx, ht⟩
    refine ⟨⟨fun s hs => ?_, fun s hs => if_neg hs⟩, ht⟩
    dsimp only; rw [if_pos hs]
    exact hx.1 _ (List.mem_range.2 (List.idxOf_lt_length_of_mem hs))
  · rintro y ⟨hy, ht⟩
    refine ⟨⟨fun j hj => ?_, fun j hj => ?_⟩, ?_⟩
    · have hj' := List.mem_range.1 hj
      dsimp only; rw [vec_getD hj']; exact hy.1 _ (List.getElem_mem hj')
    · dsimp only
      rw [show l.getD j 64 = 64 by simp [List.getD, List.getElem?_eq_none (by rw [List.mem_range] at hj; omega : l.length ≤ j)]]
      exact hy.2 _ h64
    · rw [show (fun s => if s ∈ l then y (l.getD (l.idxOf s) 64) else 0) = y from ?_]; exact ht
      funext s
      by_cases e : s ∈ l
      · rw [if_pos e, vec_getD (List.idxOf_lt_length_of_mem e), List.getElem_idxOf]
      · rw [if_neg e]; exact (hy.2 s e).symm
  · rintro x ⟨hx, _⟩
    funext j
    dsimp only
    by_cases e : j < l.length
    · rw [vec_getD e, if_pos (List.getElem_mem e), hn.idxOf_getElem j e]
    · rw [show l.getD j 64 = 64 by simp [List.getD, List.getElem?_eq_none (by omega : l.length ≤ j)], if_neg h64]
      exact (hx.2 j (fun hm => e (List.mem_range.1 hm))).symm
  · rintro y ⟨hy, _⟩
    funext s
    dsimp only
    by_cases e : s ∈ l
    · rw [if_pos e, vec_getD (List.idxOf_lt_length_of_mem e), List.getElem_idxOf]
    · rw [if_neg e]; exact (hy.2 s e).symm

theorem sgn_zero {t s : Nat} (h : ¬(sub t s = true ∧ pc s = pc t + 1)) : sgn t s = 0 := if_neg h

/-- The border's sum over all sets is that over the faces. -/
theorem bd_faces {p : Nat} {q : Nat → Bool} {k : Nat} {y : Nat → Int} (hy : Vec p (J q k) y) (t : Nat) : bd y t = sm (J q k) fun s => sgn t s * y s := by
  unfold bd S J
  rw [sm_filter]
  refine sm_congr _ _ _ fun s hs => ?_
  split
  · rfl
  · rw [hy.2 s (fun hm => by unfold J at hm; exact absurd (List.mem_filter.1 hm).2 (by assumption))]; simp

/-- The border of a chain lies on faces. -/
theorem bd_off {p : Nat} {q : Nat → Bool} (hq : Down q) {k : Nat} {y : Nat → Int} (hy : Vec p (J q k) y) {t : Nat} (ht : t < 64) (h : ¬(q t = true ∧ pc t + 1 = k)) : bd y t = 0 := by
  rw [bd_faces hy]
  refine sm_zero _ _ fun s hs => ?_
  obtain ⟨h1, h2, h3⟩ := (mem_J q k s).1 hs
  rw [sgn_zero (fun hh => h ⟨hq t s ht h1 hh.1 h3, by omega⟩)]; simp

/-- THE BORDER's RANK COUNTS CYCLES. -/
theorem card_cyc {p : Nat} (hP : IsP p) {q : Nat → Bool} (hq : Down q) (k : Nat) : Card (Cyc p q k) (p ^ ((J q k).length - rk p q k)) ∧ rk p q k ≤ (J q k).length := by
  have h64 : ∀ k, 64 ∉ J q k := fun k h => by have := ((mem_J q k 64).1 h).1; omega
  cases k with
  | zero =>
    refine ⟨?_, Nat.zero_le _⟩
    show Card (Cyc p q 0) (p ^ ((J q 0).length - 0))
    refine (card_chn p q 0).congr fun y => ⟨fun h => ⟨h, fun t ht => ?_⟩, fun h => h.1⟩
    rw [bd_off hq h ht (by omega)]; exact ⟨0, by simp⟩
  | succ k =>
    have hw : ∀ r ∈ bdm q (k + 1), r.length = (J q (k + 1)).length := fun r hr => by
      obtain ⟨t, _, rfl⟩ := List.mem_map.1 hr; rw [List.length_map]
    obtain ⟨hc, hl⟩ := rank_card hP hw
    refine ⟨?_, hl⟩
    refine card_index (J_nodup q (k + 1)) (h64 _) (fun y => ∀ t, t < 64 → (p : Int) ∣ bd y t) (hc.congr fun x => ?_)
    unfold Ker
    refine and_congr_right fun hx => ?_
    have hy : Vec p (J q (k + 1)) fun s => if s ∈ J q (k + 1) then x ((J q (k + 1)).idxOf s) else 0 :=
      ⟨fun s hs => by dsimp only; rw [if_pos hs]; exact hx.1 _ (List.mem_range.2 (List.idxOf_lt_length_of_mem hs)), fun s hs => if_neg hs⟩
    have key : ∀ t, dot ((J q (k + 1)).map fun s => sgn t s) x = bd (fun s => if s ∈ J q (k + 1) then x ((J q (k + 1)).idxOf s) else 0) t := fun t => by
      rw [bd_faces hy, ← dot_map (fun s => sgn t s)]
      refine dot_congr _ _ _ fun j hj => ?_
      rw [List.length_map] at hj
      rw [vec_getD hj, if_pos (List.getElem_mem hj), (J_nodup q (k + 1)).idxOf_getElem j hj]
    constructor
    · intro h t ht
      by_cases e : q t = true ∧ pc t + 1 = k + 1
      · rw [← key]
        exact h _ (List.mem_map.2 ⟨t, (mem_J q _ t).2 ⟨ht, by omega, e.1⟩, rfl⟩)
      · rw [bd_off hq hy ht e]; exact ⟨0, by simp⟩
    · intro h r hr
      obtain ⟨t, ht, rfl⟩ := List.mem_map.1 hr
      rw [key]
      exact h t ((mem_J q _ t).1 ht).1

/-! ### the border of a border -/

theorem sgn_sgn0 : ∀ t u : Fin 64, (sub t.val u.val && pc u.val == pc t.val + 2) = true → (sm (List.range 64) fun s => sgn t.val s * sgn s u.val) = 0 := by decide +kernel
theorem sgn_sgn (t u : Nat) (ht : t < 64) (hu : u < 64) : (sm (List.range 64) fun s => sgn t s * sgn s u) = 0 := by
  by_cases h : (sub t u && pc u == pc t + 2) = true
  · exact sgn_sgn0 ⟨t, ht⟩ ⟨u, hu⟩ h
  · refine sm_zero _ _ fun s _ => ?_
    by_cases h1 : sub t s = true ∧ pc s = pc t + 1
    · by_cases h2 : sub s u = true ∧ pc u = pc s + 1
      · exact absurd (by rw [sub_trans h1.1 h2.1, show pc u = pc t + 2 by omega]; simp) h
      · rw [sgn_zero h2]; simp
    · rw [sgn_zero h1]; simp
theorem bd_bd (y : Nat → Int) {t : Nat} (ht : t < 64) : bd (bd y) t = 0 := by
  unfold bd S
  rw [sm_congr _ _ (fun s => sm (List.range 64) fun u => sgn t s * sgn s u * y u) fun s _ => by
    rw [← sm_mul]; exact sm_congr _ _ _ fun u _ => by grind]
  rw [sm_swap]
  refine sm_zero _ _ fun u hu => ?_
  have := sgn_sgn t u ht (List.mem_range.1 hu)
  rw [sm_congr _ _ (fun s => y u * (sgn t s * sgn s u)) fun s _ => by grind, sm_mul, this]; simp

end Hom
end Go.Proofs.YtenpcjmhlnalcaaGreat

/-! LINEAR ALGEBRA modulo a prime, of no program: a matrix and its transpose: how many vectors either sends to 0, by counting pairs. -/

namespace Go.Proofs.YtenpcjmhlnalcaaGreat
open Sets
namespace Lin
open Hom

theorem Card.union {α : Type} {S T : α → Prop} {c d : Nat} (h : Card S c) (h' : Card T d) (hd : ∀ x, S x → ¬T x) : Card (fun x => S x ∨ T x) (c + d) := by
  obtain ⟨l, hn, hm, rfl⟩ := h
  obtain ⟨l', hn', hm', rfl⟩ := h'
  refine ⟨l ++ l', ?_, fun x => by rw [List.mem_append, hm, hm'], List.length_append ..⟩
  rw [List.nodup_append]
  refine ⟨hn, hn', fun a ha b hb e => ?_⟩
  subst e
  exact hd a ((hm a).1 ha) ((hm' a).1 hb)
/-- What is left of a counted set. -/
theorem Card.rest {α : Type} {S T : α → Prop} {c d : Nat} (h : Card S c) (h' : Card T d) (hT : ∀ x, T x → S x) : d ≤ c ∧ Card (fun x => S x ∧ ¬T x) (c - d) := by
  obtain ⟨e, _, he⟩ := h.sub (T := fun x => S x ∧ ¬T x) fun x hx => hx.1
  have hu := h'.union he fun x hx hn => hn.2 hx
  have := (hu.congr (T := S) fun x => ⟨fun k => k.elim (hT x) (·.1), fun k => (Classical.em (T x)).elim .inl fun n => .inr ⟨k, n⟩⟩).unique h
  exact ⟨by omega, by rw [show c - d = e by omega]; exact he⟩
theorem Card.pairs {α β : Type} {T : α → Prop} {Q : α → β → Prop} {a A : Nat} (h : Card T a) (hq : ∀ x, T x → Card (Q x) A) : Card (fun z : α × β => T z.1 ∧ Q z.1 z.2) (a * A) := by
  refine h.fibre Prod.fst (fun z hz => hz.1) fun x hx => ?_
  refine (hq x hx).bij (fun y => (x, y)) Prod.snd (fun y hy => ⟨⟨hx, hy⟩, rfl⟩) ?_ (fun y _ => rfl) ?_
  · rintro ⟨x', y⟩ ⟨⟨_, hy⟩, e⟩
    dsimp only at e hy ⊢
    rw [← e]; exact hy
  · rintro ⟨x', y⟩ ⟨_, e⟩
    dsimp only at e ⊢
    rw [e]
/-- Fibres of two sizes. -/
theorem Card.mix {α β : Type} {S T : α → Prop} {Q : α → β → Prop} {N a A B : Nat} (h : Card S N) (h' : Card T a) (hT : ∀ x, T x → S x) (hA : ∀ x, T x → Card (Q x) A) (hB : ∀ x, S x → ¬T x → Card (Q x) B) :
    a ≤ N ∧ Card (fun z : α × β => S z.1 ∧ Q z.1 z.2) (a * A + (N - a) * B) := by
  obtain ⟨hle, hr⟩ := h.rest h' hT
  refine ⟨hle, ?_⟩
  have h1 := h'.pairs hA
  have h2 := hr.pairs fun x hx => hB x hx.1 hx.2
  refine (h1.union h2 fun z hz hn => hn.1.2 hz.1).congr fun z => ⟨?_, fun k => ?_⟩
  · rintro (k | k)
    · exact ⟨hT _ k.1, k.2⟩
    · exact ⟨k.1.1, k.2⟩
  · rcases Classical.em (T z.1) with e | e
    · exact .inl ⟨e, k.2⟩
    · exact .inr ⟨⟨k.1, e⟩, k.2⟩

/-! ### the vectors that a row sends to 0 -/

theorem sm_upd (v z : Nat → Int) (c : Nat) (a : Int) (l : List Nat) (hn : l.Nodup) (hc : c ∈ l) : sm l (fun s => v s * upd z c a s) = sm l (fun s => v s * z s) + v c * (a - z c) := by
  have e : sm l (fun s => v s * upd z c a s) = sm l fun s => v s * z s + (v s * (upd z c a s - z s)) := sm_congr _ _ _ fun s _ => by grind
  rw [e, sm_add]
  congr 1
  rw [sm_one c _ l hn hc fun s _ hs => by rw [upd_other _ _ hs]; grind]
  rw [upd_same]
theorem row_all {p : Nat} {l : List Nat} (hn : l.Nodup) {v : Nat → Int} (h : ∀ s ∈ l, (p : Int) ∣ v s) : Card (fun x => Vec p l x ∧ (p : Int) ∣ sm l fun s => v s * x s) (p ^ l.length) :=
  (card_vec p l hn).congr fun x => ⟨fun hx => ⟨hx, by
    have := sm_dvd (p : Int) l (fun s => v s * x s) (fun _ => 0) fun s hs => by
      obtain ⟨m, hm⟩ := h s hs
      exact ⟨m * x s, by rw [hm]; grind⟩
    rw [sm_zero l _ fun _ _ => rfl, Int.sub_zero] at this
    exact this⟩, fun hx => hx.1⟩
/-- A number that p does not divide has an inverse. -/
theorem inv_of {p : Nat} (hP : IsP p) {a : Int} (h : ¬(p : Int) ∣ a) : ∃ i : Int, (p : Int) ∣ a * i - 1 := by
  have hp : (0 : Int) < p := by have := hP.1; omega
  have h0 : 0 ≤ a % p := Int.emod_nonneg _ (by omega)
  have h1 : a % p < p := Int.emod_lt_of_pos _ hp
  have h2 : a % p ≠ 0 := fun e => h (Int.dvd_of_emod_eq_zero e)
  obtain ⟨m, hm⟩ := inv_dvd (hP.2 (a % p) (by omega) h1)
  obtain ⟨k, hk⟩ := dvd_emod_sub a p
  exact ⟨inv p (a % p), m - k * inv p (a % p), by grind⟩
theorem erase_mem {l : List Nat} (hn : l.Nodup) {c j : Nat} : j ∈ l.erase c ↔ j ∈ l ∧ j ≠ c := by
  rw [hn.mem_erase_iff]; exact And.comm
theorem row_some {p : Nat} (hP : IsP p) {l : List Nat} (hn : l.Nodup) {v : Nat → Int} {c : Nat} (hc : c ∈ l) (h : ¬(p : Int) ∣ v c) : Card (fun x => Vec p l x ∧ (p : Int) ∣ sm l fun s => v s * x s) (p ^ (l.length - 1)) := by
  have hp : (0 : Int) < p := by have := hP.1; omega
  obtain ⟨i, hi⟩ := inv_of hP h
  have hcard := card_vec p (l.erase c) (hn.erase c)
  rw [List.length_erase_of_mem hc] at hcard
  let w : (Nat → Int) → Int := fun z => (-i * sm l fun s => v s * z s) % p
  have hw : ∀ z, 0 ≤ w z ∧ w z < p := fun z => ⟨Int.emod_nonneg _ (by omega), Int.emod_lt_of_pos _ hp⟩
  refine hcard.bij (fun z => upd z c (w z)) (fun x => upd x c 0) ?_ ?_ ?_ ?_
  · intro z hz
    have hzc : z c = 0 := hz.2 c fun hm => ((erase_mem hn).1 hm).2 rfl
    refine ⟨⟨fun j hj => ?_, fun j hj => ?_⟩, ?_⟩
    · by_cases e : j = c
      · subst e; rw [upd_same]; exact hw z
      · rw [upd_other _ _ e]; exact hz.1 j ((erase_mem hn).2 ⟨hj, e⟩)
    · rw [upd_other _ _ (fun e : j = c => hj (e ▸ hc))]
      exact hz.2 j fun hm => hj ((erase_mem hn).1 hm).1
    · rw [sm_upd v z c _ l hn hc, hzc]
      obtain ⟨m, hm⟩ := hi
      obtain ⟨k, hk⟩ := dvd_emod_sub (-i * sm l fun s => v s * z s) p
      have hk : w z - (-i * sm l fun s => v s * z s) = p * k := hk
      exact ⟨v c * k - m * sm l fun s => v s * z s, by grind⟩
  · rintro x ⟨hx, _⟩
    refine ⟨fun j hj => ?_, fun j hj => ?_⟩
    · obtain ⟨h1, h2⟩ := (erase_mem hn).1 hj
      rw [upd_other _ _ h2]; exact hx.1 j h1
    · by_cases e : j = c
      · rw [e, upd_same]
      · rw [upd_other _ _ e]; exact hx.2 j fun hm => hj ((erase_mem hn).2 ⟨hm, e⟩)
  · intro z hz
    funext j
    by_cases e : j = c
    · rw [e, upd_same]; exact (hz.2 c fun hm => ((erase_mem hn).1 hm).2 rfl).symm
    · rw [upd_other _ _ e, upd_other _ _ e]
  · rintro x ⟨hx, hd⟩
    funext j
    by_cases e : j = c
    · rw [e, upd_same]
      have h1 := sm_upd v x c 0 l hn hc
      have hxc := hx.1 c hc
      have hwz := hw (upd x c 0)
      obtain ⟨m, hm⟩ := hi
      obtain ⟨k, hk⟩ := dvd_emod_sub (-i * sm l fun s => v s * upd x c 0 s) p
      have hk : w (upd x c 0) - (-i * sm l fun s => v s * upd x c 0 s) = p * k := hk
      obtain ⟨r, hr⟩ := hd
      rw [h1, hr] at hk
      have hdv : (p : Int) ∣ w (upd x c 0) - x c := ⟨k - i * r + m * x c, by grind⟩
      obtain ⟨q, hq⟩ := hdv
      have : q = 0 := by
        rcases Int.lt_trichotomy q 0 with h0 | h0 | h0
        · have : (p : Int) * q ≤ p * (-1) := Int.mul_le_mul_of_nonneg_left (by omega) (by omega)
          omega
        · exact h0
        · have : (p : Int) * 1 ≤ p * q := Int.mul_le_mul_of_nonneg_left (by omega) (by omega)
          omega
      rw [this] at hq
      omega
    · rw [upd_other _ _ e, upd_other _ _ e]

/-! ### the transpose -/

/-- The vectors on the places L that the rows I send to 0. -/
def KerE (p : Nat) (I L : List Nat) (e : Nat → Nat → Int) (x : Nat → Int) : Prop := Vec p L x ∧ ∀ t ∈ I, (p : Int) ∣ sm L fun s => e t s * x s

theorem pair_count {p : Nat} (hP : IsP p) {I L : List Nat} (hI : I.Nodup) (hL : L.Nodup) (e : Nat → Nat → Int) {a : Nat} (h : Card (KerE p I L e) a) :
    a ≤ p ^ L.length ∧ ∃ c, c * p = a * (p * p ^ I.length) + (p ^ L.length - a) * p ^ I.length ∧ Card (fun z : (Nat → Int) × (Nat → Int) => Vec p L z.1 ∧ (Vec p I z.2 ∧ (p : Int) ∣ sm I fun t => (sm L fun s => e t s * z.1 s) * z.2 t)) c := by
  have hN := card_vec p L hL
  have hT : ∀ x, KerE p I L e x → Vec p L x := fun x hx => hx.1
  have hA : ∀ x, KerE p I L e x → Card (fun y => Vec p I y ∧ (p : Int) ∣ sm I fun t => (sm L fun s => e t s * x s) * y t) (p ^ I.length) := fun x hx => row_all hI hx.2
  rcases Classical.em (∃ x, Vec p L x ∧ ¬KerE p I L e x) with ⟨x0, hx0, hn0⟩ | hno
  · have hB : ∀ x, Vec p L x → ¬KerE p I L e x → Card (fun y => Vec p I y ∧ (p : Int) ∣ sm I fun t => (sm L fun s => e t s * x s) * y t) (p ^ (I.length - 1)) := fun x hx hn => by
      have : ∃ t, t ∈ I ∧ ¬(p : Int) ∣ sm L fun s => e t s * x s := Classical.byContradiction fun k => hn ⟨hx, fun t ht => Classical.byContradiction fun k2 => k ⟨t, ht, k2⟩⟩
      obtain ⟨t, ht, hd⟩ := this
      exact row_some hP hI ht hd
    have hpos : 0 < I.length := by
      cases I with
      | nil => exact absurd ⟨hx0, fun t ht => absurd ht (by simp)⟩ hn0
      | cons t I => simp
    obtain ⟨hle, hc⟩ := hN.mix h hT hA hB
    refine ⟨hle, _, ?_, hc⟩
    obtain ⟨i, hi⟩ : ∃ i, I.length = i + 1 := ⟨I.length - 1, by omega⟩
    rw [hi, Nat.add_sub_cancel, Nat.pow_succ]
    grind
  · have hall : ∀ x, Vec p L x → KerE p I L e x := fun x hx => Classical.byContradiction fun k => hno ⟨x, hx, k⟩
    obtain ⟨hle, hc⟩ := hN.mix (B := 0) h hT hA fun x hx hn => absurd (hall x hx) hn
    have ha : a = p ^ L.length := h.unique (hN.congr fun x => ⟨hall x, hT x⟩)
    refine ⟨hle, _, ?_, hc⟩
    rw [ha, Nat.sub_self]
    grind
theorem sm_mul_right {α : Type} (c : Int) (l : List α) (f : α → Int) : sm l f * c = sm l fun a => f a * c := by
  rw [Int.mul_comm, ← sm_mul]
  exact sm_congr _ _ _ fun a _ => Int.mul_comm _ _
/-- As many vectors, but for the difference of rows and columns, go to 0 under a matrix and under its transpose. -/
theorem transpose_card {p : Nat} (hP : IsP p) {I L : List Nat} (hI : I.Nodup) (hL : L.Nodup) (e : Nat → Nat → Int) {a b : Nat} (h : Card (KerE p I L e) a) (h' : Card (KerE p L I fun s t => e t s) b) : a * p ^ I.length = b * p ^ L.length := by
  obtain ⟨l1, c, hc, hC⟩ := pair_count hP hI hL e h
  obtain ⟨l2, d, hd, hD⟩ := pair_count hP hL hI (fun s t => e t s) h'
  have hcd : c = d := by
    refine (hC.bij (fun z => (z.2, z.1)) (fun z => (z.2, z.1)) ?_ ?_ (fun _ _ => rfl) (fun _ _ => rfl)).unique hD
    all_goals
      rintro ⟨x, y⟩ ⟨hx, hy, hdv⟩
      refine ⟨hy, hx, ?_⟩
      dsimp only at hdv ⊢
      refine (Eq.mp (congrArg (fun z => (p : Int) ∣ z) ?_) hdv)
      simp only [sm_mul_right]
      rw [sm_swap]
      refine sm_congr _ _ _ fun s _ => sm_congr _ _ _ fun t _ => ?_
      grind
  subst hcd
  have hp := hP.1
  obtain ⟨x, hx⟩ : ∃ x, p ^ L.length = a + x := ⟨p ^ L.length - a, by omega⟩
  obtain ⟨y, hy⟩ : ∃ y, p ^ I.length = b + y := ⟨p ^ I.length - b, by omega⟩
  obtain ⟨q, hq⟩ : ∃ q, p = q + 2 := ⟨p - 2, by omega⟩
  rw [hx, Nat.add_sub_cancel_left] at hc
  rw [hy, Nat.add_sub_cancel_left] at hd
  rw [hd] at hc
  generalize p ^ I.length = A at *
  generalize p ^ L.length = B at *
  subst hx hy hq
  have e1 : (q + 1) * (b * (a + x)) = (q + 1) * (a * (b + y)) := by grind
  have := Nat.eq_of_mul_eq_mul_left (Nat.succ_pos q) e1
  exact this.symm

end Lin
end Go.Proofs.YtenpcjmhlnalcaaGreat

/-! LINEAR ALGEBRA modulo a prime, of no program: a matrix turned has the same rank; a product's rank is not greater than its first factor's. -/

namespace Go.Proofs.YtenpcjmhlnalcaaGreat
open Sets
namespace Lin
open Hom

/-- The number of columns. -/
def wid (M : Mat) : Nat := (row M 0).length
def turnM (n : Nat) (M : Mat) : Mat := (List.range n).map fun j => (List.range M.length).map fun i => ent M i j
def timesM (n : Nat) (A B : Mat) : Mat := (List.range A.length).map fun i => (List.range n).map fun j => sm (List.range B.length) fun k => ent A i k * ent B k j

theorem turnM_length (n : Nat) (M : Mat) : (turnM n M).length = n := by simp [turnM]
theorem turnM_row (n : Nat) (M : Mat) (j : Nat) (h : j < n) : row (turnM n M) j = (List.range M.length).map fun i => ent M i j := by
  unfold turnM row; simp [List.getD, h]
theorem turnM_ent (n : Nat) (M : Mat) (j i : Nat) (h : j < n) (hi : i < M.length) : ent (turnM n M) j i = ent M i j := by
  unfold ent; rw [turnM_row n M j h]; simp [List.getD, hi, ent]
theorem turnM_wide (n : Nat) (M : Mat) : ∀ r ∈ turnM n M, r.length = M.length := fun r hr => by
  obtain ⟨j, _, rfl⟩ := List.mem_map.1 hr; simp
theorem timesM_length (n : Nat) (A B : Mat) : (timesM n A B).length = A.length := by simp [timesM]
theorem timesM_row (n : Nat) (A B : Mat) (i : Nat) (h : i < A.length) : row (timesM n A B) i = (List.range n).map fun j => sm (List.range B.length) fun k => ent A i k * ent B k j := by
  unfold timesM row; simp [List.getD, h]
theorem timesM_ent (n : Nat) (A B : Mat) (i j : Nat) (h : i < A.length) (hj : j < n) : ent (timesM n A B) i j = sm (List.range B.length) fun k => ent A i k * ent B k j := by
  unfold ent; rw [timesM_row n A B i h]; simp [List.getD, hj, ent]
theorem timesM_wide (n : Nat) (A B : Mat) : ∀ r ∈ timesM n A B, r.length = n := fun r hr => by
  obtain ⟨j, _, rfl⟩ := List.mem_map.1 hr; simp

theorem range_sm (f : Nat → Int) (n : Nat) : sm (List.range (n + 1)) f = f 0 + sm (List.range n) fun j => f (j + 1) := by
  rw [List.range_succ_eq_map]
  show f 0 + sm ((List.range n).map Nat.succ) f = _
  rw [sm_map]
theorem dot_sm : ∀ (r : List Int) (x : Nat → Int), dot r x = sm (List.range r.length) fun s => r.getD s 0 * x s
  | [], _ => rfl
  | a :: r, x => by
    rw [List.length_cons, range_sm]
    show a * x 0 + dot r _ = a * x 0 + _
    rw [dot_sm r]; rfl
theorem ker_kerE {p n : Nat} {M : Mat} (hw : ∀ r ∈ M, r.length = n) (x : Nat → Int) : Ker p n M x ↔ KerE p (List.range M.length) (List.range n) (ent M) x := by
  unfold Ker KerE
  refine and_congr_right fun _ => ?_
  constructor
  · intro h t ht
    have ht := List.mem_range.1 ht
    have := h _ (row_mem ht)
    rw [dot_sm, hw _ (row_mem ht)] at this
    exact this
  · intro h r hr
    obtain ⟨t, ht, rfl⟩ := mem_row hr
    rw [dot_sm, hw _ (row_mem ht)]
    exact h t (List.mem_range.2 ht)
theorem kerE_congr {p : Nat} {I L : List Nat} {e f : Nat → Nat → Int} (h : ∀ t ∈ I, ∀ s ∈ L, e t s = f t s) (x : Nat → Int) : KerE p I L e x ↔ KerE p I L f x := by
  unfold KerE
  refine and_congr_right fun _ => forall_congr' fun t => forall_congr' fun ht => ?_
  rw [sm_congr L (fun s => e t s * x s) (fun s => f t s * x s) fun s hs => by rw [h t ht s hs]]

/-- A matrix turned has the same rank. -/
theorem rank_turn {p : Nat} (hP : IsP p) {M : Mat} {n : Nat} (hw : ∀ r ∈ M, r.length = n) : rank p (turnM n M) M.length = rank p M n := by
  obtain ⟨h1, l1⟩ := rank_card hP hw
  obtain ⟨h2, l2⟩ := rank_card hP (turnM_wide n M)
  have h1 := h1.congr fun x => ker_kerE hw x
  have h2 : Card (KerE p (List.range n) (List.range M.length) fun s t => ent M t s) _ := h2.congr fun x => by
    refine (ker_kerE (turnM_wide n M) x).trans ?_
    rw [turnM_length]
    exact kerE_congr (fun t ht s hs => turnM_ent n M t s (List.mem_range.1 ht) (List.mem_range.1 hs)) x
  have := transpose_card hP List.nodup_range List.nodup_range (ent M) h1 h2
  rw [List.length_range, List.length_range, ← Nat.pow_add, ← Nat.pow_add] at this
  have := pow_inj hP.1 this
  omega

theorem Card.mono {α : Type} {S T : α → Prop} {c d : Nat} (h : Card S c) (h' : Card T d) (hT : ∀ x, T x → S x) : d ≤ c := (h.rest h' hT).1

/-- The rank of a product. -/
theorem rank_times {p : Nat} (hP : IsP p) {A B : Mat} {n : Nat} (hA : ∀ r ∈ A, r.length = B.length) : rank p (timesM n A B) n ≤ rank p A B.length := by
  rw [← rank_turn hP (timesM_wide n A B), ← rank_turn hP hA, timesM_length]
  obtain ⟨h1, l1⟩ := rank_card hP (turnM_wide B.length A)
  obtain ⟨h2, l2⟩ := rank_card hP (turnM_wide n (timesM n A B))
  rw [timesM_length] at h2 l2
  have hle : p ^ (A.length - rank p (turnM B.length A) A.length) ≤ p ^ (A.length - rank p (turnM n (timesM n A B)) A.length) := by
    refine h2.mono h1 fun x hx => ?_
    have hx1 := (ker_kerE (turnM_wide B.length A) x).1 hx
    refine (ker_kerE (by have := turnM_wide n (timesM n A B); rw [timesM_length] at this; exact this) x).2 ⟨hx1.1, fun j hj => ?_⟩
    rw [turnM_length] at hj
    have hj := List.mem_range.1 hj
    have e : sm (List.range A.length) (fun s => ent (turnM n (timesM n A B)) j s * x s) = sm (List.range B.length) fun k => ent B k j * sm (List.range A.length) fun s => ent A s k * x s := by
      have : ∀ s ∈ List.range A.length, ent (turnM n (timesM n A B)) j s * x s = sm (List.range B.length) fun k => ent B k j * (ent A s k * x s) := fun s hs => by
        have hs := List.mem_range.1 hs
        rw [turnM_ent n _ j s hj (by rw [timesM_length]; exact hs), timesM_ent n A B s j hs hj, sm_mul_right]
        exact sm_congr _ _ _ fun k _ => by grind
      rw [sm_congr _ _ _ this, sm_swap]
      exact sm_congr _ _ _ fun k _ => sm_mul _ _ _
    rw [e]
    have hd := sm_dvd (p : Int) (List.range B.length) (fun k => ent B k j * sm (List.range A.length) fun s => ent A s k * x s) (fun _ => 0) fun k hk => by
      have h := hx1.2 k (by rw [turnM_length]; exact hk)
      have hk := List.mem_range.1 hk
      rw [sm_congr _ _ (fun s => ent A s k * x s) fun s hs => by rw [turnM_ent _ A k s hk (List.mem_range.1 hs)]] at h
      obtain ⟨m, hm⟩ := h
      exact ⟨ent B k j * m, by rw [hm]; grind⟩
    rw [sm_zero (List.range B.length) (fun _ => 0) fun _ _ => rfl, Int.sub_zero] at hd
    exact hd
  rcases Nat.lt_or_ge (rank p A B.length) (rank p (timesM n A B) n) with hlt | hge
  all_goals
    rw [rank_turn hP hA] at l1 hle
    have e2 := rank_turn hP (timesM_wide n A B)
    rw [timesM_length] at e2
    rw [e2] at l2 hle
    have := (Nat.pow_le_pow_iff_right hP.1).1 hle
    rw [rank_turn hP hA, e2]
    omega

/-- The product of two borders that follow each other. -/
theorem border_zero {q : Nat → Bool} (hq : Down q) {k : Nat} (t u : Nat) (ht : t < 64) (hu : u < 64) (hqu : q u = true) (hk : pc u = k + 1) : sm (J q k) (fun s => sgn t s * sgn s u) = 0 := by
  have h := sgn_sgn t u ht hu
  unfold J
  rw [sm_filter]
  refine Eq.trans (sm_congr _ _ _ fun s hs => ?_) h
  have hs := List.mem_range.1 hs
  by_cases e : (pc s == k && q s) = true
  · rw [if_pos e]
  · rw [if_neg e]
    by_cases e2 : sub s u = true ∧ pc u = pc s + 1
    · exact absurd (by rw [Bool.and_eq_true, beq_iff_eq]; exact ⟨by omega, hq s u hs hu e2.1 hqu⟩) e
    · rw [sgn_zero e2]; simp

end Lin
end Go.Proofs.YtenpcjmhlnalcaaGreat

/-! WALKS: impl.setsWhere: the sets that meet a predicate, in order. -/

namespace Go.Proofs.YtenpcjmhlnalcaaGreat
open Go.RowKit
open Sets

/-- What is asked of the predicate: at every set, in every later world, it answers p and leaves all as it was. -/
def Pred (g : Nat) (lb : Array Value) (p : Nat → Bool) (w : World) : Prop :=
  ∀ (W : World) (s : Nat), s < 64 → Below w.heap.size w W → Calls Tryz.prog g (#[.int .i64 (s : Int)] ++ lb) W fun e w' => e = .returned (.bool (p s)) ∧ W = w'
theorem Pred.at {g : Nat} {lb : Array Value} {p : Nat → Bool} {w : World} (h : Pred g lb p w) (W : World) (s : Nat) (b : Bool) (hb : p s = b) (hs : s < 64) (hB : Below w.heap.size w W) :
    Calls Tryz.prog g (#[.int .i64 (s : Int)] ++ lb) W fun e w' => e = .returned (.bool b) ∧ W = w' := by
  subst hb; exact h W s hs hB

set_option maxRecDepth 100000 in
set_option maxHeartbeats 4000000 in
theorem setsWhere_any (g : Nat) (lb : Array Value) (p : Nat → Bool) (w : World) (eg : ∀ args w, (callFunc g args).run Tryz.prog w = .ok (.enter g args) w) (hp : Pred g lb p w) :
    Calls Tryz.prog 71 #[.func (.func g) #[] lb] w fun e w' => ∃ v, e = .returned v ∧ OwnInts w' w.heap.size v (ord p) ∧ Below w.heap.size w w' := by
  obtain ⟨i0, hi, hz0, hz1, hz2⟩ := info_parts info_int
  have HPR := Lib.hid hp
  clear hp
  go_enter Tryz.func71, Tryz.ntmps71
  go_wp2
  go_loopw [3, 6] (fun v i wr => ∃ k : Nat, k ≤ 7 ∧ i = .int .i64 (k : Int) ∧ OwnInts wr w.heap.size v (upto p k 0) ∧ Below w.heap.size w wr) (fun _ i _ => 7 - (intOf i).toNat)
  case atStart => exact ⟨0, by omega, rfl, OwnInts.nil _ _, Below.refl _ _⟩
  case round =>
    obtain ⟨k, hk, rfl, hO, hB⟩ := hrel
    have HO := Lib.hid hO
    clear hO
    obtain ⟨wo, rfl⟩ : ∃ wo : World, wo = wr := ⟨_, rfl⟩
    by_cases hlt : k < 7
    · have hlt7 : decide ((k : Int) < 7) = true := by simp; omega
      go_wp2
      go_loopw [3, 9] (fun v i wr => ∃ n : Nat, n ≤ 64 ∧ i = .int .i64 (n : Int) ∧ OwnInts wr w.heap.size v (upto p k n) ∧ Below w.heap.size w wr) (fun _ i _ => 64 - (intOf i).toNat)
      case atStart => exact ⟨0, by omega, rfl, HO.out, hB⟩
      case round =>
        clear hB HO
        obtain ⟨n, hn, rfl, hO, hB⟩ := hrel
        unfold OwnInts at hO
        have HO := Lib.hid hO
        clear hO
        have hsz := hB.size
        have hl := upto_length p k n
        by_cases hln : n < 64
        · have hpn := pc_le n
          by_cases hq : pc n = k
          · have hq' : ((pc n : Int) == (k : Int)) = true := by rw [hq]; simp
            have HQ := Lib.hid hq
            clear hq
            cases hp : p n with
            | true =>
              have HP := Lib.hid hp
              clear hp
              go_wp2_with fail
              refine (implSizeOf_nat n hln _).mono ?_
              rintro e w' ⟨rfl, rfl⟩
              go_wp2_with (first | (at_builtin; refine wpList_append_own _ rfl _ _ 24 rfl w.heap.size 3 i0 (.int .i64 0) 1 8 Tryz.underlying24 hi hz0 hz1 hz2 rfl (by decide) _ _ _ rfl (HO.out.alloc _) ⟨wr.heap.size, 0, none⟩ 1 1 [.int .i64 (n : Int)] rfl rfl ?c1 ?c2 ?c3 ?c4 ?c5 ?_) | (go_at_fn g; refine (HPR.out.at _ n true HP.out hln hB).mono ?_; rintro e w' ⟨rfl, rfl⟩))
              case c1 => intro j u hj; exact Mem.cell_new wr _ _ j u hj
              case c2 => intro u hu; simp at hu; subst hu; rfl
              case c3 => unfold maxLen; omega
              case c4 => omega
              case c5 => simp; omega
              intro v' w1 hown1 hgrow _
              have hB1 : Below w.heap.size w w1 := (hB.alloc hsz _).grown hgrow (by simp; omega) (fun g hg => (HO.out.lt g hg).1)
              have H1 := Lib.hid hown1
              clear hown1 hgrow
              go_wp2
              go_roundw
              case rel => exact ⟨n + 1, by omega, by go_num, by rw [upto_hit p k n HQ.out HP.out]; exact OwnInts.next H1.out, hB1⟩
              case measure => simp [intOf]; omega
            | false =>
              have HP := Lib.hid hp
              clear hp
              go_wp2_with fail
              refine (implSizeOf_nat n hln _).mono ?_
              rintro e w' ⟨rfl, rfl⟩
              go_wp2_with (go_at_fn g; refine (HPR.out.at _ n false HP.out hln hB).mono ?_; rintro e w' ⟨rfl, rfl⟩)
              go_roundw
              case rel => exact ⟨n + 1, by omega, by go_num, by rw [upto_miss p k n (fun h => by rw [HP.out] at h; simp at h)]; exact HO.out, hB⟩
              case measure => simp [intOf]; omega
          · have hq' : ((pc n : Int) == (k : Int)) = false := by simp; omega
            have HQ := Lib.hid hq
            clear hq
            go_wp2_with fail
            refine (implSizeOf_nat n hln _).mono ?_
            rintro e w' ⟨rfl, rfl⟩
            go_wp2
            go_roundw
            case rel => exact ⟨n + 1, by omega, by go_num, by rw [upto_miss p k n (fun h => HQ.out h.1)]; exact HO.out, hB⟩
            case measure => simp [intOf]; omega
        · have E := Lib.hid (show n = 64 by omega)
          go_wp2
          go_roundw
          case rel =>
            have h2 := HO.out
            rw [E.out, upto_line] at h2
            exact ⟨k + 1, by omega, by go_num, h2, hB⟩
          case measure => simp [intOf]; omega
    · have E := Lib.hid (show k = 7 by omega)
      go_wp2
      go_ret
      have h2 := HO.out
      rw [E.out, upto_end] at h2
      exact ⟨_, rfl, h2, hB⟩

end Go.Proofs.YtenpcjmhlnalcaaGreat
