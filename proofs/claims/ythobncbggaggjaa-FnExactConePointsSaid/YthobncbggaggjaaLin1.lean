/-
  LINEAR ALGEBRA modulo a prime, of no program, part 1: counting (bijections, pairs, fibres), vectors, rows.
-/
import Derived.Test.YthobncbggaggjaaSets
namespace Go.Proofs.Ythobncbggaggjaa
namespace Lin

/-- S has c elements. -/
def Card {α : Type} (S : α → Prop) (c : Nat) : Prop := ∃ l : List α, l.Nodup ∧ (∀ x, x ∈ l ↔ S x) ∧ l.length = c

theorem Card.unique {α : Type} {S : α → Prop} {c d : Nat} (h : Card S c) (h' : Card S d) : c = d := by
  obtain ⟨l, hn, hm, rfl⟩ := h
  obtain ⟨l', hn', hm', rfl⟩ := h'
  exact ((List.perm_ext_iff_of_nodup hn hn').2 fun a => by rw [hm, hm']).length_eq

theorem Card.congr {α : Type} {S T : α → Prop} {c : Nat} (h : Card S c) (e : ∀ x, S x ↔ T x) : Card T c := by
  obtain ⟨l, hn, hm, rfl⟩ := h
  exact ⟨l, hn, fun x => by rw [hm, e], rfl⟩

theorem nodup_map_of {α β : Type} (f : α → β) : ∀ (l : List α), l.Nodup → (∀ a ∈ l, ∀ b ∈ l, f a = f b → a = b) → (l.map f).Nodup := by
  intro l hl h
  unfold List.Nodup at hl ⊢
  rw [List.pairwise_map]
  exact hl.imp_of_mem fun ha hb hab he => hab (h _ ha _ hb he)

theorem Card.bij {α β : Type} {S : α → Prop} {T : β → Prop} {c : Nat} (h : Card S c) (f : α → β) (g : β → α) (hf : ∀ x, S x → T (f x)) (hg : ∀ y, T y → S (g y))
    (hgf : ∀ x, S x → g (f x) = x) (hfg : ∀ y, T y → f (g y) = y) : Card T c := by
  obtain ⟨l, hn, hm, rfl⟩ := h
  refine ⟨l.map f, nodup_map_of f l hn fun a ha b hb e => ?_, fun y => ?_, List.length_map ..⟩
  · rw [← hgf a ((hm a).1 ha), ← hgf b ((hm b).1 hb), e]
  · rw [List.mem_map]
    constructor
    · rintro ⟨x, hx, rfl⟩
      exact hf x ((hm x).1 hx)
    · intro hy
      exact ⟨g y, (hm _).2 (hg y hy), hfg y hy⟩

theorem Card.prod {α β : Type} {S : α → Prop} {T : β → Prop} {c d : Nat} (h : Card S c) (h' : Card T d) : Card (fun z : α × β => S z.1 ∧ T z.2) (c * d) := by
  obtain ⟨l, hn, hm, rfl⟩ := h
  obtain ⟨l', hn', hm', rfl⟩ := h'
  have key : ∀ l : List α, l.Nodup → (l.flatMap fun a => l'.map fun b => (a, b)).Nodup ∧ (∀ z, z ∈ (l.flatMap fun a => l'.map fun b => (a, b)) ↔ z.1 ∈ l ∧ z.2 ∈ l') ∧ (l.flatMap fun a => l'.map fun b => (a, b)).length = l.length * l'.length := by
    intro l
    induction l with
    | nil => intro _; exact ⟨List.nodup_nil, by simp, by simp⟩
    | cons a l ih =>
      intro hl
      obtain ⟨h1, h2⟩ := List.nodup_cons.1 hl
      obtain ⟨i1, i2, i3⟩ := ih h2
      rw [List.flatMap_cons]
      refine ⟨?_, ?_, ?_⟩
      · rw [List.nodup_append]
        refine ⟨nodup_map_of _ _ hn' (by simp), i1, ?_⟩
        intro x hx y hy e
        subst e
        rw [List.mem_map] at hx
        obtain ⟨b, _, rfl⟩ := hx
        exact h1 ((i2 _).1 hy).1
      · intro z
        rw [List.mem_append, i2, List.mem_map, List.mem_cons]
        obtain ⟨z1, z2⟩ := z
        simp only [Prod.mk.injEq]
        constructor
        · rintro (⟨b, hb, rfl, rfl⟩ | ⟨h, h'⟩)
          · exact ⟨.inl rfl, hb⟩
          · exact ⟨.inr h, h'⟩
        · rintro ⟨rfl | h, h'⟩
          · exact .inl ⟨z2, h', rfl, rfl⟩
          · exact .inr ⟨h, h'⟩
      · rw [List.length_append, i3, List.length_map, List.length_cons, Nat.add_mul, Nat.one_mul, Nat.add_comm]
  obtain ⟨k1, k2, k3⟩ := key l hn
  exact ⟨_, k1, fun z => by rw [k2, hm, hm'], k3⟩

/-- A set whose fibres under f have d elements each has d times as many as the image. -/
theorem Card.fibre {α β : Type} {S : α → Prop} {T : β → Prop} {c d : Nat} (f : α → β) (hT : Card T c) (hf : ∀ x, S x → T (f x)) (hd : ∀ y, T y → Card (fun x => S x ∧ f x = y) d) : Card S (c * d) := by
  obtain ⟨l, hn, hm, rfl⟩ := hT
  have key : ∀ l : List β, l.Nodup → (∀ y ∈ l, T y) → ∃ L : List α, L.Nodup ∧ (∀ x, x ∈ L ↔ S x ∧ f x ∈ l) ∧ L.length = l.length * d := by
    intro l
    induction l with
    | nil => intro _ _; exact ⟨[], List.nodup_nil, by simp, by simp⟩
    | cons y l ih =>
      intro hl hy
      obtain ⟨h1, h2⟩ := List.nodup_cons.1 hl
      obtain ⟨L, i1, i2, i3⟩ := ih h2 fun z hz => hy z (List.mem_cons_of_mem _ hz)
      obtain ⟨M, j1, j2, j3⟩ := hd y (hy y (List.mem_cons_self ..))
      refine ⟨M ++ L, ?_, fun x => ?_, ?_⟩
      · rw [List.nodup_append]
        refine ⟨j1, i1, fun a ha b hb e => ?_⟩
        subst e
        have e := ((j2 _).1 ha).2
        subst e
        exact h1 ((i2 _).1 hb).2
      · rw [List.mem_append, j2, i2, List.mem_cons]
        constructor
        · rintro (⟨a, b⟩ | ⟨a, b⟩)
          · exact ⟨a, .inl b⟩
          · exact ⟨a, .inr b⟩
        · rintro ⟨a, b | b⟩
          · exact .inl ⟨a, b⟩
          · exact .inr ⟨a, b⟩
      · rw [List.length_append, i3, j3, List.length_cons, Nat.add_mul, Nat.one_mul, Nat.add_comm]
  obtain ⟨L, k1, k2, k3⟩ := key l hn fun y hy => (hm y).1 hy
  exact ⟨L, k1, fun x => by rw [k2, hm]; exact ⟨fun h => h.1, fun h => ⟨h, hf x h⟩⟩, k3⟩

/-- The elements of a counted set that satisfy a condition are counted, too. -/
theorem Card.sub {α : Type} {S T : α → Prop} {c : Nat} (h : Card S c) (hT : ∀ x, T x → S x) : ∃ d, d ≤ c ∧ Card T d := by
  classical
  obtain ⟨l, hn, hm, rfl⟩ := h
  refine ⟨(l.filter fun x => decide (T x)).length, List.length_filter_le .., _, hn.filter _, fun x => ?_, rfl⟩
  rw [List.mem_filter, hm, decide_eq_true_eq]
  exact ⟨fun h => h.2, fun h => ⟨hT x h, h⟩⟩

theorem Card.pos {α : Type} {S : α → Prop} {c : Nat} (h : Card S c) (x : α) (hx : S x) : 0 < c := by
  obtain ⟨l, _, hm, rfl⟩ := h
  exact List.length_pos_of_mem ((hm x).2 hx)

/-- As many and contained: the same. -/
theorem Card.eq_of_le {α : Type} {S T : α → Prop} {c : Nat} (h : Card S c) (h' : Card T c) (hT : ∀ x, T x → S x) : ∀ x, S x → T x := by
  classical
  obtain ⟨l, hn, hm, hl⟩ := h
  intro x hx
  have hsub : Card T (l.filter fun x => decide (T x)).length := ⟨_, hn.filter _, fun x => by
    rw [List.mem_filter, hm, decide_eq_true_eq]
    exact ⟨fun h => h.2, fun h => ⟨hT x h, h⟩⟩, rfl⟩
  have e := h'.unique hsub
  rw [← hl] at e
  have := (List.length_filter_eq_length_iff.1 e.symm) x ((hm x).2 hx)
  exact of_decide_eq_true this

theorem pow_inj {p a b : Nat} (hp : 1 < p) (h : p ^ a = p ^ b) : a = b := by
  rcases Nat.lt_trichotomy a b with hh | hh | hh
  · exact absurd h (Nat.ne_of_lt (Nat.pow_lt_pow_right hp hh))
  · exact hh
  · exact absurd h.symm (Nat.ne_of_lt (Nat.pow_lt_pow_right hp hh))

/-! ### vectors -/

/-- x has numbers from 0 to p - 1 at the places J, and 0 elsewhere. -/
def Vec (p : Nat) (J : List Nat) (x : Nat → Int) : Prop := (∀ j ∈ J, 0 ≤ x j ∧ x j < p) ∧ ∀ j, j ∉ J → x j = 0

/-- The vector x with v at the place c. -/
def upd (x : Nat → Int) (c : Nat) (v : Int) : Nat → Int := fun j => if j = c then v else x j
theorem upd_same (x : Nat → Int) (c : Nat) (v : Int) : upd x c v c = v := if_pos rfl
theorem upd_other (x : Nat → Int) {c j : Nat} (v : Int) (h : j ≠ c) : upd x c v j = x j := if_neg h

theorem card_num (p : Nat) : Card (fun a : Int => 0 ≤ a ∧ a < p) p := by
  refine ⟨(List.range p).map Int.ofNat, nodup_map_of _ _ List.nodup_range fun a _ b _ e => Int.ofNat.inj e, fun x => ?_, by simp⟩
  rw [List.mem_map]
  constructor
  · rintro ⟨a, ha, rfl⟩
    have := List.mem_range.1 ha
    exact ⟨Int.natCast_nonneg a, Int.ofNat_lt.2 this⟩
  · rintro ⟨h0, h1⟩
    exact ⟨x.toNat, List.mem_range.2 (by omega), Int.toNat_of_nonneg h0⟩

theorem card_vec (p : Nat) : ∀ J : List Nat, J.Nodup → Card (Vec p J) (p ^ J.length)
  | [], _ => ⟨[fun _ => 0], by simp, fun x => by
      rw [List.mem_singleton]
      constructor
      · rintro rfl; exact ⟨by simp, fun _ _ => rfl⟩
      · intro h; exact funext fun j => h.2 j (by simp), rfl⟩
  | c :: J, h => by
    obtain ⟨h1, h2⟩ := List.nodup_cons.1 h
    have ih := card_vec p J h2
    have hp := (card_num p).prod ih
    rw [List.length_cons, Nat.pow_succ, Nat.mul_comm]
    refine hp.bij (fun z => upd z.2 c z.1) (fun x => (x c, upd x c 0)) ?_ ?_ ?_ ?_
    · rintro ⟨a, x⟩ ⟨ha, hx⟩
      dsimp only at ha hx ⊢
      refine ⟨fun j hj => ?_, fun j hj => ?_⟩
      · by_cases e : j = c
        · subst e; rw [upd_same]; exact ha
        · rw [upd_other _ _ e]; exact hx.1 j ((List.mem_cons.1 hj).resolve_left e)
      · rw [upd_other _ _ (fun e => hj (List.mem_cons.2 (.inl e)))]
        exact hx.2 j fun hm => hj (List.mem_cons_of_mem _ hm)
    · intro x hx
      refine ⟨hx.1 c (List.mem_cons_self ..), fun j hj => ?_, fun j hj => ?_⟩
      · dsimp only; rw [upd_other _ _ (fun e : j = c => h1 (e ▸ hj))]; exact hx.1 j (List.mem_cons_of_mem _ hj)
      · by_cases e : j = c
        · dsimp only; rw [e, upd_same]
        · dsimp only; rw [upd_other _ _ e]; exact hx.2 j fun hm => (List.mem_cons.1 hm).elim e hj
    · rintro ⟨a, x⟩ ⟨ha, hx⟩
      dsimp only
      rw [upd_same]
      congr 1
      funext j
      by_cases e : j = c
      · rw [e, upd_same]; exact (hx.2 c h1).symm
      · rw [upd_other _ _ e, upd_other _ _ e]
    · intro x hx
      dsimp only
      funext j
      by_cases e : j = c
      · rw [e, upd_same]
      · rw [upd_other _ _ e, upd_other _ _ e]

/-- The product of a row and a vector. -/
def dot : List Int → (Nat → Int) → Int
  | [], _ => 0
  | a :: r, x => a * x 0 + dot r (fun j => x (j + 1))

/-- The vectors that a matrix of n columns sends to 0. -/
def Ker (p : Nat) (n : Nat) (M : List (List Int)) (x : Nat → Int) : Prop := Vec p (List.range n) x ∧ ∀ r ∈ M, (p : Int) ∣ dot r x

def scl (p b : Int) (r : List Int) : List Int := r.map fun x => x * b % p
def elim (p f : Int) (x r : List Int) : List Int := List.zipWith (fun a b => (a - f * b) % p) x r

theorem dvd_emod_sub (a p : Int) : p ∣ a % p - a := ⟨-(a / p), by have := Int.emod_add_mul_ediv a p; grind⟩
theorem dvd_of_emod {a b p : Int} (h : p ∣ a - b) : p ∣ a ↔ p ∣ b := by
  obtain ⟨k, hk⟩ := h
  constructor
  · rintro ⟨m, hm⟩; exact ⟨m - k, by grind⟩
  · rintro ⟨m, hm⟩; exact ⟨m + k, by grind⟩

theorem dot_scl (p b : Int) : ∀ (r : List Int) (x : Nat → Int), p ∣ dot (scl p b r) x - b * dot r x
  | [], x => ⟨0, by simp [scl, dot]⟩
  | a :: r, x => by
    obtain ⟨k, hk⟩ := dot_scl p b r fun j => x (j + 1)
    obtain ⟨m, hm⟩ := dvd_emod_sub (a * b) p
    refine ⟨m * x 0 + k, ?_⟩
    show (a * b % p * x 0 + dot (scl p b r) fun j => x (j + 1)) - b * (a * x 0 + dot r fun j => x (j + 1)) = _
    grind

theorem dot_elim (p f : Int) : ∀ (u r : List Int) (x : Nat → Int), u.length = r.length → p ∣ dot (elim p f u r) x - (dot u x - f * dot r x)
  | [], [], x, _ => ⟨0, by simp [elim, dot]⟩
  | [], _ :: _, _, h => by simp at h
  | _ :: _, [], _, h => by simp at h
  | a :: u, b :: r, x, h => by
    obtain ⟨k, hk⟩ := dot_elim p f u r (fun j => x (j + 1)) (by simpa using h)
    obtain ⟨m, hm⟩ := dvd_emod_sub (a - f * b) p
    refine ⟨m * x 0 + k, ?_⟩
    show ((a - f * b) % p * x 0 + dot (elim p f u r) fun j => x (j + 1)) - ((a * x 0 + dot u fun j => x (j + 1)) - f * (b * x 0 + dot r fun j => x (j + 1))) = _
    grind

theorem dot_zero : ∀ r : List Int, dot r (fun _ => 0) = 0
  | [] => rfl
  | a :: r => by show a * 0 + dot r (fun _ => 0) = 0; rw [dot_zero r]; simp

theorem dot_congr : ∀ (r : List Int) (x y : Nat → Int), (∀ j, j < r.length → x j = y j) → dot r x = dot r y
  | [], _, _, _ => rfl
  | a :: r, x, y, h => by
    show a * x 0 + _ = a * y 0 + _
    rw [h 0 (by simp), dot_congr r (fun j => x (j + 1)) (fun j => y (j + 1)) fun j hj => h (j + 1) (by simpa using hj)]

theorem dot_upd : ∀ (r : List Int) (x : Nat → Int) (c : Nat) (v : Int), dot r (upd x c v) = dot r x + r.getD c 0 * (v - x c)
  | [], x, c, v => by simp [dot]
  | a :: r, x, 0, v => by
    show a * upd x 0 v 0 + dot r (fun j => upd x 0 v (j + 1)) = _
    rw [upd_same, show (fun j => upd x 0 v (j + 1)) = fun j => x (j + 1) from funext fun j => upd_other _ _ (by omega)]
    show _ = (a * x 0 + dot r fun j => x (j + 1)) + a * (v - x 0)
    grind
  | a :: r, x, c + 1, v => by
    show a * upd x (c + 1) v 0 + dot r (fun j => upd x (c + 1) v (j + 1)) = _
    rw [upd_other _ _ (by omega), show (fun j => upd x (c + 1) v (j + 1)) = upd (fun j => x (j + 1)) c v from funext fun j => by unfold upd; simp, dot_upd r]
    show _ = (a * x 0 + dot r fun j => x (j + 1)) + r.getD c 0 * (v - x (c + 1))
    grind

/-! ### what the steps leave as it is -/

theorem dvd_cancel {p f b y : Int} (h : p ∣ f * b - 1) : p ∣ b * y ↔ p ∣ y := by
  obtain ⟨k, hk⟩ := h
  constructor
  · rintro ⟨m, hm⟩; exact ⟨f * m - k * y, by grind⟩
  · rintro ⟨m, hm⟩; exact ⟨b * m, by grind⟩

theorem ker_scl {p f b : Int} (h : p ∣ f * b - 1) (r : List Int) (x : Nat → Int) : p ∣ dot (scl p b r) x ↔ p ∣ dot r x := by
  rw [dvd_of_emod (dot_scl p b r x), dvd_cancel h]

theorem ker_elim {p f : Int} (u r : List Int) (x : Nat → Int) (hl : u.length = r.length) (hr : p ∣ dot r x) : p ∣ dot (elim p f u r) x ↔ p ∣ dot u x := by
  rw [dvd_of_emod (dot_elim p f u r x hl)]
  obtain ⟨k, hk⟩ := hr
  constructor
  · rintro ⟨m, hm⟩; exact ⟨m + f * k, by grind⟩
  · rintro ⟨m, hm⟩; exact ⟨m - f * k, by grind⟩

end Lin
end Go.Proofs.Ythobncbggaggjaa
