/-
  CHAINS of sets of at most six points, of no program: borders, cycles; the border's rank counts cycles; the border of a border is 0.
-/
import Derived.Test.YthobncbggaggjaaLin2
import Derived.Test.YthobncbggaggjaaPart
namespace Go.Proofs.Ythobncbggaggjaa
namespace Hom
open Sets Lin

/-- The number of the face t in the border of the face s. -/
def sgn (t s : Nat) : Int := if sub t s = true ∧ pc s = pc t + 1 then 1 - 2 * ((pc (s &&& (s - t - 1)) % 2 : Nat) : Int) else 0
def S (f : Nat → Int) : Int := sm (List.range 64) f
def bd (y : Nat → Int) (t : Nat) : Int := S fun s => sgn t s * y s
/-- The faces of k points. -/
def J (q : Nat → Bool) (k : Nat) : List Nat := (List.range 64).filter fun s => pc s == k && q s

theorem sm_add {α : Type} : ∀ (l : List α) (f g : α → Int), sm l (fun a => f a + g a) = sm l f + sm l g
  | [], _, _ => rfl
  | a :: l, f, g => by
    show f a + g a + sm l (fun a => f a + g a) = f a + sm l f + (g a + sm l g)
    rw [sm_add l f g]; omega
theorem sm_mul {α : Type} (c : Int) : ∀ (l : List α) (f : α → Int), sm l (fun a => c * f a) = c * sm l f
  | [], _ => by simp [sm]
  | a :: l, f => by
    show c * f a + sm l (fun a => c * f a) = c * (f a + sm l f)
    rw [sm_mul c l f]; grind
theorem sm_append {α : Type} (f : α → Int) : ∀ l m : List α, sm (l ++ m) f = sm l f + sm m f
  | [], m => by simp [sm]
  | a :: l, m => by
    show f a + sm (l ++ m) f = f a + sm l f + sm m f
    rw [sm_append f l m]; omega
theorem sm_map {α β : Type} (h : α → β) (f : β → Int) : ∀ l : List α, sm (l.map h) f = sm l fun a => f (h a)
  | [] => rfl
  | a :: l => by
    show f (h a) + sm (l.map h) f = f (h a) + sm l fun a => f (h a)
    rw [sm_map h f l]
theorem sm_swap {α β : Type} (f : α → β → Int) : ∀ (l : List α) (m : List β), sm l (fun a => sm m (f a)) = sm m fun b => sm l fun a => f a b
  | [], m => (sm_zero m _ fun _ _ => rfl).symm
  | a :: l, m => by
    show sm m (f a) + sm l (fun a => sm m (f a)) = sm m fun b => f a b + sm l fun a => f a b
    rw [sm_swap f l m, sm_add]
theorem sm_filter {α : Type} (P : α → Bool) (f : α → Int) : ∀ l : List α, sm (l.filter P) f = sm l fun a => if P a = true then f a else 0
  | [] => rfl
  | a :: l => by
    show _ = (if P a = true then f a else 0) + sm l fun a => if P a = true then f a else 0
    rw [← sm_filter P f l, List.filter_cons]
    split
    · rfl
    · omega
theorem sm_range_add (f : Nat → Int) (a b : Nat) : sm (List.range (a + b)) f = sm (List.range a) f + sm (List.range b) fun s => f (a + s) := by
  rw [List.range_add, sm_append, sm_map]
theorem sm_dvd {α : Type} (p : Int) : ∀ (l : List α) (f g : α → Int), (∀ a ∈ l, p ∣ f a - g a) → p ∣ sm l f - sm l g
  | [], _, _, _ => ⟨0, by simp [sm]⟩
  | a :: l, f, g, h => by
    obtain ⟨k, hk⟩ := h a (List.mem_cons_self ..)
    obtain ⟨m, hm⟩ := sm_dvd p l f g fun b hb => h b (List.mem_cons_of_mem _ hb)
    refine ⟨k + m, ?_⟩
    show f a + sm l f - (g a + sm l g) = p * (k + m)
    grind
theorem sm_count {α : Type} (P : α → Bool) : ∀ l : List α, ((l.filter P).length : Int) = sm l fun a => if P a = true then 1 else 0
  | [] => rfl
  | a :: l => by
    show _ = (if P a = true then 1 else 0) + sm l fun a => if P a = true then 1 else 0
    rw [← sm_count P l, List.filter_cons]
    split
    · rw [List.length_cons]; omega
    · omega

theorem mem_J (q : Nat → Bool) (k s : Nat) : s ∈ J q k ↔ s < 64 ∧ pc s = k ∧ q s = true := by unfold J; rw [List.mem_filter, List.mem_range, Bool.and_eq_true, beq_iff_eq]
theorem J_nodup (q : Nat → Bool) (k : Nat) : (J q k).Nodup := List.nodup_range.filter _

/-- The matrix of the border of the faces of k points, its rank modulo a prime. -/
def bdm (q : Nat → Bool) (k : Nat) : Mat := (J q (k - 1)).map fun t => (J q k).map fun s => sgn t s
def rk (p : Nat) (q : Nat → Bool) (k : Nat) : Nat := if k = 0 then 0 else rank p (bdm q k) (J q k).length
/-- Chains of faces of k points; those without a border. -/
def Chn (p : Nat) (q : Nat → Bool) (k : Nat) (y : Nat → Int) : Prop := Vec p (J q k) y
def Cyc (p : Nat) (q : Nat → Bool) (k : Nat) (y : Nat → Int) : Prop := Vec p (J q k) y ∧ ∀ t, t < 64 → (p : Int) ∣ bd y t

theorem card_chn (p : Nat) (q : Nat → Bool) (k : Nat) : Card (Chn p q k) (p ^ (J q k).length) := card_vec p _ (J_nodup q k)

theorem dot_map (h : Nat → Int) (y : Nat → Int) : ∀ l : List Nat, dot (l.map h) (fun j => y (l.getD j 64)) = sm l fun s => h s * y s
  | [] => rfl
  | a :: l => by
    show h a * y a + dot (l.map h) (fun j => y (l.getD j 64)) = h a * y a + sm l fun s => h s * y s
    rw [dot_map h y l]

theorem vec_getD {l : List Nat} {j : Nat} (h : j < l.length) (d : Nat) : l.getD j d = l[j] := by simp [List.getD, List.getElem?_eq_getElem h]

/-- Vectors by place and vectors by index. -/
theorem card_index {p : Nat} {l : List Nat} (hn : l.Nodup) (h64 : 64 ∉ l) (T : (Nat → Int) → Prop) {c : Nat} (h : Card (fun x => Vec p (List.range l.length) x ∧ T fun s => if s ∈ l then x (l.idxOf s) else 0) c) : Card (fun y => Vec p l y ∧ T y) c := by
  refine h.bij (fun x s => if s ∈ l then x (l.idxOf s) else 0) (fun y j => y (l.getD j 64)) ?_ ?_ ?_ ?_
  · rintro x ⟨hx, ht⟩
    refine ⟨⟨fun s hs => ?_, fun s hs => if_neg hs⟩, ht⟩
    dsimp only; rw [if_pos hs]
    exact hx.1 _ (List.mem_range.2 (List.idxOf_lt_length_of_mem hs))
  · rintro y ⟨hy, ht⟩
    refine ⟨⟨fun j hj => ?_, fun j hj => ?_⟩, ?_⟩
    · have hj' := List.mem_range.1 hj
      dsimp only; rw [vec_getD hj']; exact hy.1 _ (List.getElem_mem hj')
    · dsimp only
      rw [show l.getD j 64 = 64 by simp [List.getD, List.getElem?_eq_none (by rw [List.mem_range] at hj; omega : l.length ≤ j)]]
      exact hy.2 _ h64
    · rw [show (fun s => if s ∈ l then y (l.getD (l.idxOf s) 64) else 0) = y from ?_]; exact ht
      funext s
      by_cases e : s ∈ l
      · rw [if_pos e, vec_getD (List.idxOf_lt_length_of_mem e), List.getElem_idxOf]
      · rw [if_neg e]; exact (hy.2 s e).symm
  · rintro x ⟨hx, _⟩
    funext j
    dsimp only
    by_cases e : j < l.length
    · rw [vec_getD e, if_pos (List.getElem_mem e), hn.idxOf_getElem j e]
    · rw [show l.getD j 64 = 64 by simp [List.getD, List.getElem?_eq_none (by omega : l.length ≤ j)], if_neg h64]
      exact (hx.2 j (fun hm => e (List.mem_range.1 hm))).symm
  · rintro y ⟨hy, _⟩
    funext s
    dsimp only
    by_cases e : s ∈ l
    · rw [if_pos e, vec_getD (List.idxOf_lt_length_of_mem e), List.getElem_idxOf]
    · rw [if_neg e]; exact (hy.2 s e).symm

theorem sgn_zero {t s : Nat} (h : ¬(sub t s = true ∧ pc s = pc t + 1)) : sgn t s = 0 := if_neg h

/-- The border's sum over all sets is that over the faces. -/
theorem bd_faces {p : Nat} {q : Nat → Bool} {k : Nat} {y : Nat → Int} (hy : Vec p (J q k) y) (t : Nat) : bd y t = sm (J q k) fun s => sgn t s * y s := by
  unfold bd S J
  rw [sm_filter]
  refine sm_congr _ _ _ fun s hs => ?_
  split
  · rfl
  · rw [hy.2 s (fun hm => by unfold J at hm; exact absurd (List.mem_filter.1 hm).2 (by assumption))]; simp

/-- The border of a chain lies on faces. -/
theorem bd_off {p : Nat} {q : Nat → Bool} (hq : Down q) {k : Nat} {y : Nat → Int} (hy : Vec p (J q k) y) {t : Nat} (ht : t < 64) (h : ¬(q t = true ∧ pc t + 1 = k)) : bd y t = 0 := by
  rw [bd_faces hy]
  refine sm_zero _ _ fun s hs => ?_
  obtain ⟨h1, h2, h3⟩ := (mem_J q k s).1 hs
  rw [sgn_zero (fun hh => h ⟨hq t s ht h1 hh.1 h3, by omega⟩)]; simp

/-- THE BORDER's RANK COUNTS CYCLES. -/
theorem card_cyc {p : Nat} (hP : IsP p) {q : Nat → Bool} (hq : Down q) (k : Nat) : Card (Cyc p q k) (p ^ ((J q k).length - rk p q k)) ∧ rk p q k ≤ (J q k).length := by
  have h64 : ∀ k, 64 ∉ J q k := fun k h => by have := ((mem_J q k 64).1 h).1; omega
  cases k with
  | zero =>
    refine ⟨?_, Nat.zero_le _⟩
    show Card (Cyc p q 0) (p ^ ((J q 0).length - 0))
    refine (card_chn p q 0).congr fun y => ⟨fun h => ⟨h, fun t ht => ?_⟩, fun h => h.1⟩
    rw [bd_off hq h ht (by omega)]; exact ⟨0, by simp⟩
  | succ k =>
    have hw : ∀ r ∈ bdm q (k + 1), r.length = (J q (k + 1)).length := fun r hr => by
      obtain ⟨t, _, rfl⟩ := List.mem_map.1 hr; rw [List.length_map]
    obtain ⟨hc, hl⟩ := rank_card hP hw
    refine ⟨?_, hl⟩
    refine card_index (J_nodup q (k + 1)) (h64 _) (fun y => ∀ t, t < 64 → (p : Int) ∣ bd y t) (hc.congr fun x => ?_)
    unfold Ker
    refine and_congr_right fun hx => ?_
    have hy : Vec p (J q (k + 1)) fun s => if s ∈ J q (k + 1) then x ((J q (k + 1)).idxOf s) else 0 :=
      ⟨fun s hs => by dsimp only; rw [if_pos hs]; exact hx.1 _ (List.mem_range.2 (List.idxOf_lt_length_of_mem hs)), fun s hs => if_neg hs⟩
    have key : ∀ t, dot ((J q (k + 1)).map fun s => sgn t s) x = bd (fun s => if s ∈ J q (k + 1) then x ((J q (k + 1)).idxOf s) else 0) t := fun t => by
      rw [bd_faces hy, ← dot_map (fun s => sgn t s)]
      refine dot_congr _ _ _ fun j hj => ?_
      rw [List.length_map] at hj
      rw [vec_getD hj, if_pos (List.getElem_mem hj), (J_nodup q (k + 1)).idxOf_getElem j hj]
    constructor
    · intro h t ht
      by_cases e : q t = true ∧ pc t + 1 = k + 1
      · rw [← key]
        exact h _ (List.mem_map.2 ⟨t, (mem_J q _ t).2 ⟨ht, by omega, e.1⟩, rfl⟩)
      · rw [bd_off hq hy ht e]; exact ⟨0, by simp⟩
    · intro h r hr
      obtain ⟨t, ht, rfl⟩ := List.mem_map.1 hr
      rw [key]
      exact h t ((mem_J q _ t).1 ht).1

/-! ### the border of a border -/

theorem sgn_sgn0 : ∀ t u : Fin 64, (sub t.val u.val && pc u.val == pc t.val + 2) = true → (sm (List.range 64) fun s => sgn t.val s * sgn s u.val) = 0 := by decide +kernel
theorem sgn_sgn (t u : Nat) (ht : t < 64) (hu : u < 64) : (sm (List.range 64) fun s => sgn t s * sgn s u) = 0 := by
  by_cases h : (sub t u && pc u == pc t + 2) = true
  · exact sgn_sgn0 ⟨t, ht⟩ ⟨u, hu⟩ h
  · refine sm_zero _ _ fun s _ => ?_
    by_cases h1 : sub t s = true ∧ pc s = pc t + 1
    · by_cases h2 : sub s u = true ∧ pc u = pc s + 1
      · exact absurd (by rw [sub_trans h1.1 h2.1, show pc u = pc t + 2 by omega]; simp) h
      · rw [sgn_zero h2]; simp
    · rw [sgn_zero h1]; simp
theorem bd_bd (y : Nat → Int) {t : Nat} (ht : t < 64) : bd (bd y) t = 0 := by
  unfold bd S
  rw [sm_congr _ _ (fun s => sm (List.range 64) fun u => sgn t s * sgn s u * y u) fun s _ => by
    rw [← sm_mul]; exact sm_congr _ _ _ fun u _ => by grind]
  rw [sm_swap]
  refine sm_zero _ _ fun u hu => ?_
  have := sgn_sgn t u ht (List.mem_range.1 hu)
  rw [sm_congr _ _ (fun s => y u * (sgn t s * sgn s u)) fun s _ => by grind, sm_mul, this]; simp

end Hom
end Go.Proofs.Ythobncbggaggjaa
