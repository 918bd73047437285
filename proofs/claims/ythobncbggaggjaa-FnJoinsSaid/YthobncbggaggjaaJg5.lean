/-
  TEXTS of one claim, put together: Hom1, Hom2, Join1.
-/
import Derived.Test.YthobncbggaggjaaLin2
import Derived.Test.YthobncbggaggjaaJg3
/-! CHAINS of sets of at most six points, of no program: borders, cycles; the border's rank counts cycles; the border of a border is 0. -/

namespace Go.Proofs.Ythobncbggaggjaa
namespace Hom
open Sets Lin

/-- The number of the face t in the border of the face s. -/
def sgn (t s : Nat) : Int := if sub t s = true ∧ pc s = pc t + 1 then 1 - 2 * ((pc (s &&& (s - t - 1)) % 2 : Nat) : Int) else 0
def S (f : Nat → Int) : Int := sm (List.range 64) f
def bd (y : Nat → Int) (t : Nat) : Int := S fun s => sgn t s * y s
/-- The faces of k points. -/
def J (q : Nat → Bool) (k : Nat) : List Nat := (List.range 64).filter fun s => pc s == k && q s

theorem sm_add {α : Type} : ∀ (l : List α) (f g : α → Int), sm l (fun a => f a + g a) = sm l f + sm l g
  | [], _, _ => rfl
  | a :: l, f, g => by
    show f a + g a + sm l (fun a => f a + g a) = f a + sm l f + (g a + sm l g)
    rw [sm_add l f g]; omega
theorem sm_mul {α : Type} (c : Int) : ∀ (l : List α) (f : α → Int), sm l (fun a => c * f a) = c * sm l f
  | [], _ => by simp [sm]
  | a :: l, f => by
    show c * f a + sm l (fun a => c * f a) = c * (f a + sm l f)
    rw [sm_mul c l f]; grind
theorem sm_append {α : Type} (f : α → Int) : ∀ l m : List α, sm (l ++ m) f = sm l f + sm m f
  | [], m => by simp [sm]
  | a :: l, m => by
    show f a + sm (l ++ m) f = f a + sm l f + sm m f
    rw [sm_append f l m]; omega
theorem sm_map {α β : Type} (h : α → β) (f : β → Int) : ∀ l : List α, sm (l.map h) f = sm l fun a => f (h a)
  | [] => rfl
  | a :: l => by
    show f (h a) + sm (l.map h) f = f (h a) + sm l fun a => f (h a)
    rw [sm_map h f l]
theorem sm_swap {α β : Type} (f : α → β → Int) : ∀ (l : List α) (m : List β), sm l (fun a => sm m (f a)) = sm m fun b => sm l fun a => f a b
  | [], m => (sm_zero m _ fun _ _ => rfl).symm
  | a :: l, m => by
    show sm m (f a) + sm l (fun a => sm m (f a)) = sm m fun b => f a b + sm l fun a => f a b
    rw [sm_swap f l m, sm_add]
theorem sm_filter {α : Type} (P : α → Bool) (f : α → Int) : ∀ l : List α, sm (l.filter P) f = sm l fun a => if P a = true then f a else 0
  | [] => rfl
  | a :: l => by
    show _ = (if P a = true then f a else 0) + sm l fun a => if P a = true then f a else 0
    rw [← sm_filter P f l, List.filter_cons]
    split
    · rfl
    · omega
theorem sm_range_add (f : Nat → Int) (a b : Nat) : sm (List.range (a + b)) f = sm (List.range a) f + sm (List.range b) fun s => f (a + s) := by
  rw [List.range_add, sm_append, sm_map]
theorem sm_dvd {α : Type} (p : Int) : ∀ (l : List α) (f g : α → Int), (∀ a ∈ l, p ∣ f a - g a) → p ∣ sm l f - sm l g
  | [], _, _, _ => ⟨0, by simp [sm]⟩
  | a :: l, f, g, h => by
    obtain ⟨k, hk⟩ := h a (List.mem_cons_self ..)
    obtain ⟨m, hm⟩ := sm_dvd p l f g fun b hb => h b (List.mem_cons_of_mem _ hb)
    refine ⟨k + m, ?_⟩
    show f a + sm l f - (g a + sm l g) = p * (k + m)
    grind
theorem sm_count {α : Type} (P : α → Bool) : ∀ l : List α, ((l.filter P).length : Int) = sm l fun a => if P a = true then 1 else 0
  | [] => rfl
  | a :: l => by
    show _ = (if P a = true then 1 else 0) + sm l fun a => if P a = true then 1 else 0
    rw [← sm_count P l, List.filter_cons]
    split
    · rw [List.length_cons]; omega
    · omega

theorem mem_J (q : Nat → Bool) (k s : Nat) : s ∈ J q k ↔ s < 64 ∧ pc s = k ∧ q s = true := by unfold J; rw [List.mem_filter, List.mem_range, Bool.and_eq_true, beq_iff_eq]
theorem J_nodup (q : Nat → Bool) (k : Nat) : (J q k).Nodup := List.nodup_range.filter _

/-- The matrix of the border of the faces of k points, its rank modulo a prime. -/
def bdm (q : Nat → Bool) (k : Nat) : Mat := (J q (k - 1)).map fun t => (J q k).map fun s => sgn t s
def rk (p : Nat) (q : Nat → Bool) (k : Nat) : Nat := if k = 0 then 0 else rank p (bdm q k) (J q k).length
/-- Chains of faces of k points; those without a border. -/
def Chn (p : Nat) (q : Nat → Bool) (k : Nat) (y : Nat → Int) : Prop := Vec p (J q k) y
def Cyc (p : Nat) (q : Nat → Bool) (k : Nat) (y : Nat → Int) : Prop := Vec p (J q k) y ∧ ∀ t, t < 64 → (p : Int) ∣ bd y t

theorem card_chn (p : Nat) (q : Nat → Bool) (k : Nat) : Card (Chn p q k) (p ^ (J q k).length) := card_vec p _ (J_nodup q k)

theorem dot_map (h : Nat → Int) (y : Nat → Int) : ∀ l : List Nat, dot (l.map h) (fun j => y (l.getD j 64)) = sm l fun s => h s * y s
  | [] => rfl
  | a :: l => by
    show h a * y a + dot (l.map h) (fun j => y (l.getD j 64)) = h a * y a + sm l fun s => h s * y s
    rw [dot_map h y l]

theorem vec_getD {l : List Nat} {j : Nat} (h : j < l.length) (d : Nat) : l.getD j d = l[j] := by simp [List.getD, List.getElem?_eq_getElem h]

/-- Vectors by place and vectors by index. -/
theorem card_index {p : Nat} {l : List Nat} (hn : l.Nodup) (h64 : 64 ∉ l) (T : (Nat → Int) → Prop) {c : Nat} (h : Card (fun x => Vec p (List.range l.length) x ∧ T fun s => if s ∈ l then x (l.idxOf s) else 0) c) : Card (fun y => Vec p l y ∧ T y) c := by
  refine h.bij (fun x s => if s ∈ l then x (l.idxOf s) else 0) (fun y j => y (l.getD j 64)) ?_ ?_ ?_ ?_
  · rintro x ⟨hx, ht⟩
    refine ⟨⟨fun s hs => ?_, fun s hs => if_neg hs⟩, ht⟩
    dsimp only; rw [if_pos hs]
    exact hx.1 _ (List.mem_range.2 (List.idxOf_lt_length_of_mem hs))
  · rintro y ⟨hy, ht⟩
    refine ⟨⟨fun j hj => ?_, fun j hj => ?_⟩, ?_⟩
    · have hj' := List.mem_range.1 hj
      dsimp only; rw [vec_getD hj']; exact hy.1 _ (List.getElem_mem hj')
    · dsimp only
      rw [show l.getD j 64 = 64 by simp [List.getD, List.getElem?_eq_none (by rw [List.mem_range] at hj; omega : l.length ≤ j)]]
      exact hy.2 _ h64
    · rw [show (fun s => if s ∈ l then y (l.getD (l.idxOf s) 64) else 0) = y from ?_]; exact ht
      funext s
      by_cases e : s ∈ l
      · rw [if_pos e, vec_getD (List.idxOf_lt_length_of_mem e), List.getElem_idxOf]
      · rw [if_neg e]; exact (hy.2 s e).symm
  · rintro x ⟨hx, _⟩
    funext j
    dsimp only
    by_cases e : j < l.length
    · rw [vec_getD e, if_pos (List.getElem_mem e), hn.idxOf_getElem j e]
    · rw [show l.getD j 64 = 64 by simp [List.getD, List.getElem?_eq_none (by omega : l.length ≤ j)], if_neg h64]
      exact (hx.2 j (fun hm => e (List.mem_range.1 hm))).symm
  · rintro y ⟨hy, _⟩
    funext s
    dsimp only
    by_cases e : s ∈ l
    · rw [if_pos e, vec_getD (List.idxOf_lt_length_of_mem e), List.getElem_idxOf]
    · rw [if_neg e]; exact (hy.2 s e).symm

theorem sgn_zero {t s : Nat} (h : ¬(sub t s = true ∧ pc s = pc t + 1)) : sgn t s = 0 := if_neg h

/-- The border's sum over all sets is that over the faces. -/
theorem bd_faces {p : Nat} {q : Nat → Bool} {k : Nat} {y : Nat → Int} (hy : Vec p (J q k) y) (t : Nat) : bd y t = sm (J q k) fun s => sgn t s * y s := by
  unfold bd S J
  rw [sm_filter]
  refine sm_congr _ _ _ fun s hs => ?_
  split
  · rfl
  · rw [hy.2 s (fun hm => by unfold J at hm; exact absurd (List.mem_filter.1 hm).2 (by assumption))]; simp

/-- The border of a chain lies on faces. -/
theorem bd_off {p : Nat} {q : Nat → Bool} (hq : Down q) {k : Nat} {y : Nat → Int} (hy : Vec p (J q k) y) {t : Nat} (ht : t < 64) (h : ¬(q t = true ∧ pc t + 1 = k)) : bd y t = 0 := by
  rw [bd_faces hy]
  refine sm_zero _ _ fun s hs => ?_
  obtain ⟨h1, h2, h3⟩ := (mem_J q k s).1 hs
  rw [sgn_zero (fun hh => h ⟨hq t s ht h1 hh.1 h3, by omega⟩)]; simp

/-- THE BORDER's RANK COUNTS CYCLES. -/
theorem card_cyc {p : Nat} (hP : IsP p) {q : Nat → Bool} (hq : Down q) (k : Nat) : Card (Cyc p q k) (p ^ ((J q k).length - rk p q k)) ∧ rk p q k ≤ (J q k).length := by
  have h64 : ∀ k, 64 ∉ J q k := fun k h => by have := ((mem_J q k 64).1 h).1; omega
  cases k with
  | zero =>
    refine ⟨?_, Nat.zero_le _⟩
    show Card (Cyc p q 0) (p ^ ((J q 0).length - 0))
    refine (card_chn p q 0).congr fun y => ⟨fun h => ⟨h, fun t ht => ?_⟩, fun h => h.1⟩
    rw [bd_off hq h ht (by omega)]; exact ⟨0, by simp⟩
  | succ k =>
    have hw : ∀ r ∈ bdm q (k + 1), r.length = (J q (k + 1)).length := fun r hr => by
      obtain ⟨t, _, rfl⟩ := List.mem_map.1 hr; rw [List.length_map]
    obtain ⟨hc, hl⟩ := rank_card hP hw
    refine ⟨?_, hl⟩
    refine card_index (J_nodup q (k + 1)) (h64 _) (fun y => ∀ t, t < 64 → (p : Int) ∣ bd y t) (hc.congr fun x => ?_)
    unfold Ker
    refine and_congr_right fun hx => ?_
    have hy : Vec p (J q (k + 1)) fun s => if s ∈ J q (k + 1) then x ((J q (k + 1)).idxOf s) else 0 :=
      ⟨fun s hs => by dsimp only; rw [if_pos hs]; exact hx.1 _ (List.mem_range.2 (List.idxOf_lt_length_of_mem hs)), fun s hs => if_neg hs⟩
    have key : ∀ t, dot ((J q (k + 1)).map fun s => sgn t s) x = bd (fun s => if s ∈ J q (k + 1) then x ((J q (k + 1)).idxOf s) else 0) t := fun t => by
      rw [bd_faces hy, ← dot_map (fun s => sgn t s)]
      refine dot_congr _ _ _ fun j hj => ?_
      rw [List.length_map] at hj
      rw [vec_getD hj, if_pos (List.getElem_mem hj), (J_nodup q (k + 1)).idxOf_getElem j hj]
    constructor
    · intro h t ht
      by_cases e : q t = true ∧ pc t + 1 = k + 1
      · rw [← key]
        exact h _ (List.mem_map.2 ⟨t, (mem_J q _ t).2 ⟨ht, by omega, e.1⟩, rfl⟩)
      · rw [bd_off hq hy ht e]; exact ⟨0, by simp⟩
    · intro h r hr
      obtain ⟨t, ht, rfl⟩ := List.mem_map.1 hr
      rw [key]
      exact h t ((mem_J q _ t).1 ht).1

/-! ### the border of a border -/

theorem sgn_sgn0 : ∀ t u : Fin 64, (sub t.val u.val && pc u.val == pc t.val + 2) = true → (sm (List.range 64) fun s => sgn t.val s * sgn s u.val) = 0 := by decide +kernel
theorem sgn_sgn (t u : Nat) (ht : t < 64) (hu : u < 64) : (sm (List.range 64) fun s => sgn t s * sgn s u) = 0 := by
  by_cases h : (sub t u && pc u == pc t + 2) = true
  · exact sgn_sgn0 ⟨t, ht⟩ ⟨u, hu⟩ h
  · refine sm_zero _ _ fun s _ => ?_
    by_cases h1 : sub t s = true ∧ pc s = pc t + 1
    · by_cases h2 : sub s u = true ∧ pc u = pc s + 1
      · exact absurd (by rw [sub_trans h1.1 h2.1, show pc u = pc t + 2 by omega]; simp) h
      · rw [sgn_zero h2]; simp
    · rw [sgn_zero h1]; simp
theorem bd_bd (y : Nat → Int) {t : Nat} (ht : t < 64) : bd (bd y) t = 0 := by
  unfold bd S
  rw [sm_congr _ _ (fun s => sm (List.range 64) fun u => sgn t s * sgn s u * y u) fun s _ => by
    rw [← sm_mul]; exact sm_congr _ _ _ fun u _ => by grind]
  rw [sm_swap]
  refine sm_zero _ _ fun u hu => ?_
  have := sgn_sgn t u ht (List.mem_range.1 hu)
  rw [sm_congr _ _ (fun s => y u * (sgn t s * sgn s u)) fun s _ => by grind, sm_mul, this]; simp

end Hom
end Go.Proofs.Ythobncbggaggjaa

/-! HOLES of cones and of suspensions, of no program. -/

namespace Go.Proofs.Ythobncbggaggjaa
namespace Hom
open Sets Lin

def sg (t : Nat) : Int := 1 - 2 * ((pc t % 2 : Nat) : Int)
theorem blk0 : ∀ n : Fin 6, ∀ t s : Fin 64, t.val < 2 ^ n.val → s.val < 2 ^ n.val → sgn t.val (2 ^ n.val + s.val) = (if s = t then sg t.val else 0) ∧ sgn (2 ^ n.val + t.val) (2 ^ n.val + s.val) = sgn t.val s.val ∧ sgn (2 ^ n.val + t.val) s.val = 0 := by decide +kernel
theorem pc_blk0 : ∀ n : Fin 6, ∀ s : Fin 64, s.val < 2 ^ n.val → pc (2 ^ n.val + s.val) = pc s.val + 1 := by decide +kernel
theorem pow64 {n : Nat} (hn : n ≤ 6) : 2 ^ n ≤ 64 := Nat.pow_le_pow_right (by decide) hn
theorem pow_two (n : Nat) : 2 ^ (n + 1) = 2 ^ n + 2 ^ n := by rw [Nat.pow_succ]; omega
theorem blk1 {n t s : Nat} (hn : n ≤ 5) (ht : t < 2 ^ n) (hs : s < 2 ^ n) : sgn t (2 ^ n + s) = if s = t then sg t else 0 := by
  have h64 := pow64 (n := n) (by omega)
  have := (blk0 ⟨n, by omega⟩ ⟨t, by omega⟩ ⟨s, by omega⟩ ht hs).1
  simpa using this
theorem blk2 {n t s : Nat} (hn : n ≤ 5) (ht : t < 2 ^ n) (hs : s < 2 ^ n) : sgn (2 ^ n + t) (2 ^ n + s) = sgn t s := by
  have h64 := pow64 (n := n) (by omega)
  exact (blk0 ⟨n, by omega⟩ ⟨t, by omega⟩ ⟨s, by omega⟩ ht hs).2.1
theorem blk3 {n t s : Nat} (hn : n ≤ 5) (ht : t < 2 ^ n) (hs : s < 2 ^ n) : sgn (2 ^ n + t) s = 0 := by
  have h64 := pow64 (n := n) (by omega)
  exact (blk0 ⟨n, by omega⟩ ⟨t, by omega⟩ ⟨s, by omega⟩ ht hs).2.2
theorem pc_blk {n s : Nat} (hn : n ≤ 5) (hs : s < 2 ^ n) : pc (2 ^ n + s) = pc s + 1 := by
  have h64 := pow64 (n := n) (by omega)
  exact pc_blk0 ⟨n, by omega⟩ ⟨s, by omega⟩ hs
theorem sg_sq (t : Nat) : sg t * sg t = 1 := by unfold sg; rcases Nat.mod_two_eq_zero_or_one (pc t) with h | h <;> rw [h] <;> decide

theorem S_low {N : Nat} (hN : N ≤ 64) {f : Nat → Int} (h : ∀ s, N ≤ s → s < 64 → f s = 0) : S f = sm (List.range N) f := by
  unfold S
  rw [show 64 = N + (64 - N) by omega, sm_range_add, sm_zero (List.range (64 - N)) _ fun s hs => h _ (by omega) (by rw [List.mem_range] at hs; omega)]; omega
theorem S_two {N : Nat} (hN : N + N ≤ 64) {f : Nat → Int} (h : ∀ s, N + N ≤ s → s < 64 → f s = 0) : S f = sm (List.range N) f + sm (List.range N) fun s => f (N + s) := by
  rw [S_low hN h, sm_range_add]
theorem S_three {N : Nat} (hN : N + N + N ≤ 64) {f : Nat → Int} (h : ∀ s, N + N + N ≤ s → s < 64 → f s = 0) : S f = sm (List.range N) f + (sm (List.range N) fun s => f (N + s)) + sm (List.range N) fun s => f (N + N + s) := by
  rw [S_low hN h, sm_range_add, sm_range_add]

/-- The sets of n points. -/
def Low (n : Nat) (q : Nat → Bool) : Prop := ∀ s, s < 64 → q s = true → s < 2 ^ n
/-- The faces of a join. -/
def joinQ (n : Nat) (q r : Nat → Bool) (s : Nat) : Bool := q (s % 2 ^ n) && r (s / 2 ^ n)

theorem vec_zero {p : Nat} {q : Nat → Bool} {k : Nat} {y : Nat → Int} (h : Vec p (J q k) y) {s : Nat} (hs : s < 64 → ¬(pc s = k ∧ q s = true)) : y s = 0 := h.2 s fun hm => by
  have := (mem_J q k s).1 hm; exact hs this.1 this.2

/-- A vector's piece of N numbers from b on. -/
def cut (N b : Nat) (y : Nat → Int) (s : Nat) : Int := if s < N then y (b + s) else 0
theorem cut_lt {N b : Nat} {y : Nat → Int} {s : Nat} (h : s < N) : cut N b y s = y (b + s) := if_pos h
theorem cut_ge {N b : Nat} {y : Nat → Int} {s : Nat} (h : ¬s < N) : cut N b y s = 0 := if_neg h
theorem bd_cut {N b : Nat} (hN : N ≤ 64) (y : Nat → Int) (t : Nat) : bd (cut N b y) t = sm (List.range N) fun s => sgn t s * y (b + s) := by
  unfold bd
  rw [S_low hN fun s h _ => by rw [cut_ge (by omega)]; simp]
  exact sm_congr _ _ _ fun s hs => by rw [cut_lt (List.mem_range.1 hs)]

/-- A piece of a chain is a chain of the faces that lie in the piece. -/
theorem vec_cut {p n b k j : Nat} {q' q : Nat → Bool} {y : Nat → Int} (hn : b + 2 ^ n ≤ 64) (hlow : Low n q) (hq : ∀ s, s < 2 ^ n → (q' (b + s) = true ∧ pc (b + s) = k ↔ q s = true ∧ pc s = j)) (h : Vec p (J q' k) y) : Vec p (J q j) (cut (2 ^ n) b y) := by
  refine ⟨fun s hs => ?_, fun s hs => ?_⟩
  · obtain ⟨h1, h2, h3⟩ := (mem_J q j s).1 hs
    have hl := hlow s h1 h3
    rw [cut_lt hl]
    have := (hq s hl).2 ⟨h3, h2⟩
    exact h.1 _ ((mem_J q' k _).2 ⟨by omega, this.2, this.1⟩)
  · by_cases hl : s < 2 ^ n
    · rw [cut_lt hl]
      exact h.2 _ fun hm => by
        obtain ⟨_, h2, h3⟩ := (mem_J q' k _).1 hm
        have := (hq s hl).1 ⟨h3, h2⟩
        exact hs ((mem_J q j s).2 ⟨by omega, this.2, this.1⟩)
    · exact cut_ge hl

theorem emod_vec {p : Nat} (hp : 0 < p) {l : List Nat} {f : Nat → Int} (h : ∀ s, s ∉ l → (p : Int) ∣ f s) : Vec p l fun s => f s % p :=
  ⟨fun s _ => ⟨Int.emod_nonneg _ (by omega), Int.emod_lt_of_pos _ (by omega)⟩, fun s hs => Int.emod_eq_zero_of_dvd (h s hs)⟩
theorem vec_mod {p : Nat} {l : List Nat} {x : Nat → Int} (h : Vec p l x) (s : Nat) : x s % p = x s := by
  by_cases e : s ∈ l
  · exact Int.emod_eq_of_lt (h.1 s e).1 (h.1 s e).2
  · rw [h.2 s e]; simp
theorem vec_ext {p : Nat} {l m : List Nat} {x y : Nat → Int} (h : Vec p l x) (k : Vec p m y) (s : Nat) (hd : (p : Int) ∣ x s - y s) : x s = y s := by
  rw [← vec_mod h s, ← vec_mod k s]
  exact Int.emod_eq_emod_iff_emod_sub_eq_zero.2 (Int.emod_eq_zero_of_dvd hd)
theorem bd_emod (p : Int) (f : Nat → Int) (t : Nat) : p ∣ bd (fun s => f s % p) t - bd f t := by
  unfold bd S
  refine sm_dvd p _ _ _ fun s _ => ?_
  obtain ⟨m, hm⟩ := dvd_emod_sub (f s) p
  exact ⟨sgn t s * m, by dsimp only; grind⟩
theorem bd_add (f g : Nat → Int) (t : Nat) : bd (fun s => f s + g s) t = bd f t + bd g t := by
  unfold bd S
  rw [← sm_add]
  exact sm_congr _ _ _ fun s _ => by grind
theorem bd_mul (c : Int) (f : Nat → Int) (t : Nat) : bd (fun s => c * f s) t = c * bd f t := by
  unfold bd S
  rw [← sm_mul]
  exact sm_congr _ _ _ fun s _ => by grind
theorem bd_congr {f g : Nat → Int} (t : Nat) (h : ∀ s, s < 64 → sub t s = true → pc s = pc t + 1 → f s = g s) : bd f t = bd g t := by
  unfold bd S
  refine sm_congr _ _ _ fun s hs => ?_
  by_cases e : sub t s = true ∧ pc s = pc t + 1
  · rw [h s (List.mem_range.1 hs) e.1 e.2]
  · rw [sgn_zero e]; simp
theorem bd_out (f : Nat → Int) {t : Nat} (ht : 64 ≤ t) : bd f t = 0 := by
  unfold bd S
  refine sm_zero _ _ fun s hs => ?_
  rw [sgn_zero fun h => by have := sub_le h.1; rw [List.mem_range] at hs; omega]; simp

end Hom
end Go.Proofs.Ythobncbggaggjaa

/-! JOINS, of no program: the faces of joins, of disjoint unions, of cross complexes. -/

namespace Go.Proofs.Ythobncbggaggjaa
namespace Join
open Sets Lin Hom

theorem sub_parts {n f g s : Nat} (hf : f < 2 ^ n) : sub s (f + 2 ^ n * g) = (sub (s % 2 ^ n) f && sub (s / 2 ^ n) g) := by
  rw [Bool.eq_iff_iff, Bool.and_eq_true, sub_iff, sub_iff, sub_iff, Nat.add_comm]
  constructor
  · intro h
    constructor
    · intro i hi
      rw [Nat.testBit_mod_two_pow, Bool.and_eq_true, decide_eq_true_eq] at hi
      have := h i hi.2
      rwa [Nat.testBit_two_pow_mul_add _ hf, if_pos hi.1] at this
    · intro i hi
      rw [Nat.testBit_div_two_pow] at hi
      have := h _ hi
      rwa [Nat.testBit_two_pow_mul_add _ hf, if_neg (by omega), show i + n - n = i by omega] at this
  · rintro ⟨h1, h2⟩ i hi
    rw [Nat.testBit_two_pow_mul_add _ hf]
    by_cases e : i < n
    · rw [if_pos e]; exact h1 i (by rw [Nat.testBit_mod_two_pow, decide_eq_true e, hi]; rfl)
    · rw [if_neg e]; exact h2 (i - n) (by rw [Nat.testBit_div_two_pow, show i - n + n = i by omega]; exact hi)

/-- The sets of a join: each facet of the one with each of the other. -/
def pairs (n : Nat) (xs ys : List Int) : List Int := xs.flatMap fun x => ys.map fun y => x + 2 ^ n * y
def disQ (n : Nat) (q r : Nat → Bool) (s : Nat) : Bool := (decide (s < 2 ^ n) && q s) || (s % 2 ^ n == 0 && r (s / 2 ^ n))
def both (n : Nat) (xs ys : List Int) : List Int := xs ++ ys.map fun y => 2 ^ n * y

theorem inF_pairs {n : Nat} {xs ys : List Int} (hx : ∀ x, x ∈ xs → ∃ f : Nat, x = (f : Int) ∧ f < 2 ^ n) (hy : ∀ y, y ∈ ys → ∃ g : Nat, y = (g : Int)) (s : Nat) : inF (pairs n xs ys) s = joinQ n (inF xs) (inF ys) s := by
  unfold joinQ
  rw [Bool.eq_iff_iff, Bool.and_eq_true, inF_iff, inF_iff, inF_iff]
  unfold pairs
  constructor
  · rintro ⟨z, hz, hs⟩
    obtain ⟨x, hx', hz⟩ := List.mem_flatMap.1 hz
    obtain ⟨y, hy', rfl⟩ := List.mem_map.1 hz
    obtain ⟨f, rfl, hf⟩ := hx x hx'
    obtain ⟨g, rfl⟩ := hy y hy'
    have e : ((f : Int) + 2 ^ n * (g : Int)).toNat = f + 2 ^ n * g := by
      rw [show (2 : Int) ^ n * (g : Int) = ((2 ^ n * g : Nat) : Int) by push_cast; rfl]; omega
    rw [e, sub_parts hf, Bool.and_eq_true] at hs
    exact ⟨⟨_, hx', hs.1⟩, ⟨_, hy', hs.2⟩⟩
  · rintro ⟨⟨x, hx', h1⟩, ⟨y, hy', h2⟩⟩
    obtain ⟨f, rfl, hf⟩ := hx x hx'
    obtain ⟨g, rfl⟩ := hy y hy'
    refine ⟨(f : Int) + 2 ^ n * (g : Int), List.mem_flatMap.2 ⟨_, hx', List.mem_map.2 ⟨_, hy', rfl⟩⟩, ?_⟩
    have e : ((f : Int) + 2 ^ n * (g : Int)).toNat = f + 2 ^ n * g := by
      rw [show (2 : Int) ^ n * (g : Int) = ((2 ^ n * g : Nat) : Int) by push_cast; rfl]; omega
    rw [e, sub_parts hf, Bool.and_eq_true]
    exact ⟨h1, h2⟩

theorem inF_both {n : Nat} {xs ys : List Int} (hx : ∀ x, x ∈ xs → ∃ f : Nat, x = (f : Int) ∧ f < 2 ^ n) (hy : ∀ y, y ∈ ys → ∃ g : Nat, y = (g : Int)) (s : Nat) : inF (both n xs ys) s = disQ n (inF xs) (inF ys) s := by
  have h2 := Nat.two_pow_pos n
  unfold disQ both
  rw [Bool.eq_iff_iff, Bool.or_eq_true, Bool.and_eq_true, Bool.and_eq_true, decide_eq_true_eq, beq_iff_eq, inF_iff, inF_iff, inF_iff]
  have e : ∀ g : Nat, ((2 : Int) ^ n * (g : Int)).toNat = 0 + 2 ^ n * g := fun g => by
    rw [show (2 : Int) ^ n * (g : Int) = ((2 ^ n * g : Nat) : Int) by push_cast; rfl]; omega
  have z : ∀ t : Nat, sub t 0 = true ↔ t = 0 := fun t => ⟨fun h => by have := sub_le h; omega, fun h => by rw [h]; exact sub_refl 0⟩
  constructor
  · rintro ⟨z', hz, hs⟩
    rcases List.mem_append.1 hz with hz | hz
    · obtain ⟨f, rfl, hf⟩ := hx z' hz
      have := sub_le hs
      exact .inl ⟨by simp at this; omega, _, hz, hs⟩
    · obtain ⟨y, hy', rfl⟩ := List.mem_map.1 hz
      obtain ⟨g, rfl⟩ := hy y hy'
      rw [e, sub_parts h2, Bool.and_eq_true, z] at hs
      exact .inr ⟨hs.1, _, hy', hs.2⟩
  · rintro (⟨hl, x, hx', h⟩ | ⟨h0, y, hy', h⟩)
    · exact ⟨x, List.mem_append_left _ hx', h⟩
    · obtain ⟨g, rfl⟩ := hy y hy'
      exact ⟨_, List.mem_append_right _ (List.mem_map.2 ⟨_, hy', rfl⟩), by rw [e, sub_parts h2, Bool.and_eq_true, z]; exact ⟨h0, h⟩⟩

theorem sub_mod {n s t : Nat} (h : sub s t = true) : sub (s % 2 ^ n) (t % 2 ^ n) = true := by
  rw [sub_iff] at h ⊢
  intro i hi
  rw [Nat.testBit_mod_two_pow, Bool.and_eq_true] at hi ⊢
  exact ⟨hi.1, h i hi.2⟩
theorem sub_div {n s t : Nat} (h : sub s t = true) : sub (s / 2 ^ n) (t / 2 ^ n) = true := by
  rw [sub_iff] at h ⊢
  intro i hi
  rw [Nat.testBit_div_two_pow] at hi ⊢
  exact h _ hi
theorem joinQ_down {n : Nat} {q r : Nat → Bool} (hq : Down q) (hr : Down r) : Down (joinQ n q r) := fun s t hs ht h k => by
  unfold joinQ at k ⊢
  rw [Bool.and_eq_true] at k ⊢
  have hm := fun x => Nat.mod_le x (2 ^ n)
  have hd := fun x => Nat.div_le_self x (2 ^ n)
  have a1 := hm s
  have a2 := hm t
  have a3 := hd s
  have a4 := hd t
  exact ⟨hq _ _ (by omega) (by omega) (sub_mod h) k.1, hr _ _ (by omega) (by omega) (sub_div h) k.2⟩
theorem disQ_down {n : Nat} {q r : Nat → Bool} (hq : Down q) (hr : Down r) : Down (disQ n q r) := fun s t hs ht h k => by
  unfold disQ at k ⊢
  rw [Bool.or_eq_true, Bool.and_eq_true, Bool.and_eq_true, decide_eq_true_eq, beq_iff_eq] at k ⊢
  have hd := fun x => Nat.div_le_self x (2 ^ n)
  have a3 := hd s
  have a4 := hd t
  have a5 := sub_le h
  rcases k with ⟨k1, k2⟩ | ⟨k1, k2⟩
  · exact .inl ⟨by omega, hq s t hs ht h k2⟩
  · refine .inr ⟨?_, hr _ _ (by omega) (by omega) (sub_div h) k2⟩
    have := sub_le (sub_mod (n := n) h)
    omega

/-- The sets that contain no two points 2 i and 2 i + 1, of k pairs. -/
def crossQ (k s : Nat) : Bool := (List.range k).all fun i => !(s / 2 ^ (2 * i) % 4 == 3)

def joinOk (n m : Int) (xs ys : List Int) : Bool := isC n xs && isC m ys && decide (n + m ≤ 6)
def joinO (n m : Int) (xs ys : List Int) := partO (joinOk n m xs ys) (n + m) (joinQ n.toNat (inF xs) (inF ys))
def disO (n m : Int) (xs ys : List Int) := partO (joinOk n m xs ys) (n + m) (disQ n.toNat (inF xs) (inF ys))
def crossO (k : Int) := partO (inB 1 3 k) (2 * k) fun s => decide (s < 2 ^ (2 * k.toNat)) && crossQ k.toNat s
/-- The points of all facets. -/
def conePts (n : Int) (xs : List Int) : Nat := if isC n xs = true ∧ xs ≠ [] then xs.foldl (fun a x => a &&& x.toNat) 63 else 0

theorem card_ord (q : Nat → Bool) : Card (fun s => s < 64 ∧ q s = true) (ord q).length := by
  refine Card.bij (S := fun x : Int => x ∈ ord q) ⟨ord q, ?_, fun _ => Iff.rfl, rfl⟩ Int.toNat (fun s : Nat => (s : Int)) ?_ ?_ ?_ ?_
  · exact (ord_rises q).imp fun {a b} h e => by subst e; exact befZ_asym h h
  · intro x hx
    obtain ⟨s, rfl, h1, h2⟩ := (mem_ord q x).1 hx
    exact ⟨h1, h2⟩
  · rintro s ⟨h1, h2⟩
    exact (mem_ord q _).2 ⟨s, rfl, h1, h2⟩
  · intro x hx
    obtain ⟨s, rfl, h1, h2⟩ := (mem_ord q x).1 hx
    rfl
  · rintro s _
    rfl
/-- FACES OF A JOIN ARE PAIRS OF FACES. -/
theorem join_faces {n m : Nat} (hnm : n + m ≤ 6) {q r : Nat → Bool} (hq : Low n q) (hr : Low m r) : (ord (joinQ n q r)).length = (ord q).length * (ord r).length := by
  refine (card_ord _).unique (((card_ord q).prod (card_ord r)).bij (fun z => z.1 + 2 ^ n * z.2) (fun s => (s % 2 ^ n, s / 2 ^ n)) ?_ ?_ ?_ ?_)
  all_goals have h2 := Nat.two_pow_pos n
  · rintro ⟨a, b⟩ ⟨⟨ha, qa⟩, ⟨hb, rb⟩⟩
    dsimp only at ha qa hb rb ⊢
    have la := hq a ha qa
    have lb := hr b hb rb
    have e1 : (a + 2 ^ n * b) % 2 ^ n = a := by rw [Nat.add_mul_mod_self_left]; exact Nat.mod_eq_of_lt la
    have e2 : (a + 2 ^ n * b) / 2 ^ n = b := by rw [Nat.add_mul_div_left _ _ h2, Nat.div_eq_of_lt la, Nat.zero_add]
    refine ⟨?_, by unfold joinQ; rw [e1, e2, qa, rb]; rfl⟩
    have : 2 ^ n * (b + 1) ≤ 2 ^ n * 2 ^ m := Nat.mul_le_mul_left _ (by omega)
    rw [← Nat.pow_add, Nat.mul_add] at this
    have := Nat.pow_le_pow_right (n := 2) (by decide) hnm
    omega
  · rintro s ⟨h, k⟩
    unfold joinQ at k
    rw [Bool.and_eq_true] at k
    have a1 := Nat.mod_le s (2 ^ n)
    have a2 := Nat.div_le_self s (2 ^ n)
    exact ⟨⟨by dsimp only; omega, k.1⟩, ⟨by dsimp only; omega, k.2⟩⟩
  · rintro ⟨a, b⟩ ⟨⟨ha, qa⟩, _⟩
    dsimp only at ha qa ⊢
    have la := hq a ha qa
    rw [Nat.add_mul_mod_self_left, Nat.mod_eq_of_lt la, Nat.add_mul_div_left _ _ h2, Nat.div_eq_of_lt la, Nat.zero_add]
  · rintro s _
    exact Nat.mod_add_div s (2 ^ n)

end Join
end Go.Proofs.Ythobncbggaggjaa
