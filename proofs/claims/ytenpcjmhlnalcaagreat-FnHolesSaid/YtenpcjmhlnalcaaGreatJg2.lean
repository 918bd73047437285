/-
  TEXTS of one claim, put together: Has, Lin1, Lin2, Mx.
-/
import Derived.Test.YtenpcjmhlnalcaaGreatJg1
import Derived.Test.YtenpcjmhlnalcaaGreatJg0
/-! MEMORY: a slice in a block of its own, whatever the block's type. -/

namespace Go.Proofs.YtenpcjmhlnalcaaGreat
open Go.RowKit

/-! ### a slice in a block of its own, whatever the block -/

/-- A slice value that reads as xs, in a block from base on; its room. -/
def HasInts (w : World) (base : Nat) (v : Value) (xs : List Int) : Prop :=
  ∃ a c g, v = .slice a xs.length c ∧ xs.length ≤ c ∧ base ≤ g ∧ IntsAt w g a xs ∧ (g < w.heap.size ∨ w.heap.size + 5 ≤ g)
theorem OwnInts.has {w : World} {base : Nat} {v : Value} {xs : List Int} (h : OwnInts w base v xs) (hb : base ≤ w.heap.size) : HasInts w base v xs := OwnInts.ata h hb
theorem HasInts.ata {w : World} {base : Nat} {v : Value} {xs : List Int} (h : HasInts w base v xs) (_ : base ≤ w.heap.size) :
    ∃ a c g, v = .slice a xs.length c ∧ xs.length ≤ c ∧ base ≤ g ∧ IntsAt w g a xs ∧ (g < w.heap.size ∨ w.heap.size + 5 ≤ g) := h
theorem HasInts.lower {w : World} {base b : Nat} {v : Value} {xs : List Int} (h : HasInts w base v xs) (hb : b ≤ base) : HasInts w b v xs := by
  obtain ⟨a, c, g, h1, h2, h3, h4⟩ := h
  exact ⟨a, c, g, h1, h2, by omega, h4⟩
theorem HasInts.nil (w : World) (base : Nat) (h : base ≤ w.heap.size) : HasInts w base (.slice none 0 0) [] :=
  ⟨none, 0, w.heap.size + 5, rfl, Nat.le_refl _, by omega, fun j hj => absurd hj (Nat.not_lt_zero _), Or.inr (Nat.le_refl _)⟩

theorem own_has {f : FuncId} {args : Array Value} {w : World} {L : List Int} (h : Calls Tryz.prog f args w fun e w' => ∃ v, e = .returned v ∧ OwnInts w' w.heap.size v L ∧ Below w.heap.size w w') :
    Calls Tryz.prog f args w fun e w' => ∃ v, e = .returned v ∧ HasInts w' w.heap.size v L ∧ Below w.heap.size w w' :=
  h.mono fun _ _ ⟨v, he, ho, hb⟩ => ⟨v, he, ho.has hb.size, hb⟩

end Go.Proofs.YtenpcjmhlnalcaaGreat

/-! LINEAR ALGEBRA modulo a prime, of no program, part 1: counting (bijections, pairs, fibres), vectors, rows. -/

namespace Go.Proofs.YtenpcjmhlnalcaaGreat
namespace Lin

/-- S has c elements. -/
def Card {α : Type} (S : α → Prop) (c : Nat) : Prop := ∃ l : List α, l.Nodup ∧ (∀ x, x ∈ l ↔ S x) ∧ l.length = c

theorem Card.unique {α : Type} {S : α → Prop} {c d : Nat} (h : Card S c) (h' : Card S d) : c = d := by
  obtain ⟨l, hn, hm, rfl⟩ := h
  obtain ⟨l', hn', hm', rfl⟩ := h'
  exact ((List.perm_ext_iff_of_nodup hn hn').2 fun a => by rw [hm, hm']).length_eq

theorem Card.congr {α : Type} {S T : α → Prop} {c : Nat} (h : Card S c) (e : ∀ x, S x ↔ T x) : Card T c := by
  obtain ⟨l, hn, hm, rfl⟩ := h
  exact ⟨l, hn, fun x => by rw [hm, e], rfl⟩

theorem nodup_map_of {α β : Type} (f : α → β) : ∀ (l : List α), l.Nodup → (∀ a ∈ l, ∀ b ∈ l, f a = f b → a = b) → (l.map f).Nodup := by
  intro l hl h
  unfold List.Nodup at hl ⊢
  rw [List.pairwise_map]
  exact hl.imp_of_mem fun ha hb hab he => hab (h _ ha _ hb he)

theorem Card.bij {α β : Type} {S : α → Prop} {T : β → Prop} {c : Nat} (h : Card S c) (f : α → β) (g : β → α) (hf : ∀ x, S x → T (f x)) (hg : ∀ y, T y → S (g y))
    (hgf : ∀ x, S x → g (f x) = x) (hfg : ∀ y, T y → f (g y) = y) : Card T c := by
  obtain ⟨l, hn, hm, rfl⟩ := h
  refine ⟨l.map f, nodup_map_of f l hn fun a ha b hb e => ?_, fun y => ?_, List.length_map ..⟩
  · rw [← hgf a ((hm a).1 ha), ← hgf b ((hm b).1 hb), e]
  · rw [List.mem_map]
    constructor
    · rintro ⟨x, hx, rfl⟩
      exact hf x ((hm x).1 hx)
    · intro hy
      exact ⟨g y, (hm _).2 (hg y hy), hfg y hy⟩

theorem Card.prod {α β : Type} {S : α → Prop} {T : β → Prop} {c d : Nat} (h : Card S c) (h' : Card T d) : Card (fun z : α × β => S z.1 ∧ T z.2) (c * d) := by
  obtain ⟨l, hn, hm, rfl⟩ := h
  obtain ⟨l', hn', hm', rfl⟩ := h'
  have key : ∀ l : List α, l.Nodup → (l.flatMap fun a => l'.map fun b => (a, b)).Nodup ∧ (∀ z, z ∈ (l.flatMap fun a => l'.map fun b => (a, b)) ↔ z.1 ∈ l ∧ z.2 ∈ l') ∧ (l.flatMap fun a => l'.map fun b => (a, b)).length = l.length * l'.length := by
    intro l
    induction l with
    | nil => intro _; exact ⟨List.nodup_nil, by simp, by simp⟩
    | cons a l ih =>
      intro hl
      obtain ⟨h1, h2⟩ := List.nodup_cons.1 hl
      obtain ⟨i1, i2, i3⟩ := ih h2
      rw [List.flatMap_cons]
      refine ⟨?_, ?_, ?_⟩
      · rw [List.nodup_append]
        refine ⟨nodup_map_of _ _ hn' (by simp), i1, ?_⟩
        intro x hx y hy e
        subst e
        rw [List.mem_map] at hx
        obtain ⟨b, _, rfl⟩ := hx
        exact h1 ((i2 _).1 hy).1
      · intro z
        rw [List.mem_append, i2, List.mem_map, List.mem_cons]
        obtain ⟨z1, z2⟩ := z
        simp only [Prod.mk.injEq]
        constructor
        · rintro (⟨b, hb, rfl, rfl⟩ | ⟨h, h'⟩)
          · exact ⟨.inl rfl, hb⟩
          · exact ⟨.inr h, h'⟩
        · rintro ⟨rfl | h, h'⟩
          · exact .inl ⟨z2, h', rfl, rfl⟩
          · exact .inr ⟨h, h'⟩
      · rw [List.length_append, i3, List.length_map, List.length_cons, Nat.add_mul, Nat.one_mul, Nat.add_comm]
  obtain ⟨k1, k2, k3⟩ := key l hn
  exact ⟨_, k1, fun z => by rw [k2, hm, hm'], k3⟩

/-- A set whose fibres under f have d elements each has d times as many as the image. -/
theorem Card.fibre {α β : Type} {S : α → Prop} {T : β → Prop} {c d : Nat} (f : α → β) (hT : Card T c) (hf : ∀ x, S x → T (f x)) (hd : ∀ y, T y → Card (fun x => S x ∧ f x = y) d) : Card S (c * d) := by
  obtain ⟨l, hn, hm, rfl⟩ := hT
  have key : ∀ l : List β, l.Nodup → (∀ y ∈ l, T y) → ∃ L : List α, L.Nodup ∧ (∀ x, x ∈ L ↔ S x ∧ f x ∈ l) ∧ L.length = l.length * d := by
    intro l
    induction l with
    | nil => intro _ _; exact ⟨[], List.nodup_nil, by simp, by simp⟩
    | cons y l ih =>
      intro hl hy
      obtain ⟨h1, h2⟩ := List.nodup_cons.1 hl
      obtain ⟨L, i1, i2, i3⟩ := ih h2 fun z hz => hy z (List.mem_cons_of_mem _ hz)
      obtain ⟨M, j1, j2, j3⟩ := hd y (hy y (List.mem_cons_self ..))
      refine ⟨M ++ L, ?_, fun x => ?_, ?_⟩
      · rw [List.nodup_append]
        refine ⟨j1, i1, fun a ha b hb e => ?_⟩
        subst e
        have e := ((j2 _).1 ha).2
        subst e
        exact h1 ((i2 _).1 hb).2
      · rw [List.mem_append, j2, i2, List.mem_cons]
        constructor
        · rintro (⟨a, b⟩ | ⟨a, b⟩)
          · exact ⟨a, .inl b⟩
          · exact ⟨a, .inr b⟩
        · rintro ⟨a, b | b⟩
          · exact .inl ⟨a, b⟩
          · exact .inr ⟨a, b⟩
      · rw [List.length_append, i3, j3, List.length_cons, Nat.add_mul, Nat.one_mul, Nat.add_comm]
  obtain ⟨L, k1, k2, k3⟩ := key l hn fun y hy => (hm y).1 hy
  exact ⟨L, k1, fun x => by rw [k2, hm]; exact ⟨fun h => h.1, fun h => ⟨h, hf x h⟩⟩, k3⟩

/-- The elements of a counted set that satisfy a condition are counted, too. -/
theorem Card.sub {α : Type} {S T : α → Prop} {c : Nat} (h : Card S c) (hT : ∀ x, T x → S x) : ∃ d, d ≤ c ∧ Card T d := by
  classical
  obtain ⟨l, hn, hm, rfl⟩ := h
  refine ⟨(l.filter fun x => decide (T x)).length, List.length_filter_le .., _, hn.filter _, fun x => ?_, rfl⟩
  rw [List.mem_filter, hm, decide_eq_true_eq]
  exact ⟨fun h => h.2, fun h => ⟨hT x h, h⟩⟩

theorem Card.pos {α : Type} {S : α → Prop} {c : Nat} (h : Card S c) (x : α) (hx : S x) : 0 < c := by
  obtain ⟨l, _, hm, rfl⟩ := h
  exact List.length_pos_of_mem ((hm x).2 hx)

/-- As many and contained: the same. -/
theorem Card.eq_of_le {α : Type} {S T : α → Prop} {c : Nat} (h : Card S c) (h' : Card T c) (hT : ∀ x, T x → S x) : ∀ x, S x → T x := by
  classical
  obtain ⟨l, hn, hm, hl⟩ := h
  intro x hx
  have hsub : Card T (l.filter fun x => decide (T x)).length := ⟨_, hn.filter _, fun x => by
    rw [List.mem_filter, hm, decide_eq_true_eq]
    exact ⟨fun h => h.2, fun h => ⟨hT x h, h⟩⟩, rfl⟩
  have e := h'.unique hsub
  rw [← hl] at e
  have := (List.length_filter_eq_length_iff.1 e.symm) x ((hm x).2 hx)
  exact of_decide_eq_true this

theorem pow_inj {p a b : Nat} (hp : 1 < p) (h : p ^ a = p ^ b) : a = b := by
  rcases Nat.lt_trichotomy a b with hh | hh | hh
  · exact absurd h (Nat.ne_of_lt (Nat.pow_lt_pow_right hp hh))
  · exact hh
  · exact absurd h.symm (Nat.ne_of_lt (Nat.pow_lt_pow_right hp hh))

/-! ### vectors -/

/-- x has numbers from 0 to p - 1 at the places J, and 0 elsewhere. -/
def Vec (p : Nat) (J : List Nat) (x : Nat → Int) : Prop := (∀ j ∈ J, 0 ≤ x j ∧ x j < p) ∧ ∀ j, j ∉ J → x j = 0

/-- The vector x with v at the place c. -/
def upd (x : Nat → Int) (c : Nat) (v : Int) : Nat → Int := fun j => if j = c then v else x j
theorem upd_same (x : Nat → Int) (c : Nat) (v : Int) : upd x c v c = v := if_pos rfl
theorem upd_other (x : Nat → Int) {c j : Nat} (v : Int) (h : j ≠ c) : upd x c v j = x j := if_neg h

theorem card_num (p : Nat) : Card (fun a : Int => 0 ≤ a ∧ a < p) p := by
  refine ⟨(List.range p).map Int.ofNat, nodup_map_of _ _ List.nodup_range fun a _ b _ e => Int.ofNat.inj e, fun x => ?_, by simp⟩
  rw [List.mem_map]
  constructor
  · rintro ⟨a, ha, rfl⟩
    have := List.mem_range.1 ha
    exact ⟨Int.natCast_nonneg a, Int.ofNat_lt.2 this⟩
  · rintro ⟨h0, h1⟩
    exact ⟨x.toNat, List.mem_range.2 (by omega), Int.toNat_of_nonneg h0⟩

theorem card_vec (p : Nat) : ∀ J : List Nat, J.Nodup → Card (Vec p J) (p ^ J.length)
  | [], _ => ⟨[fun _ => 0], by simp, fun x => by
      rw [List.mem_singleton]
      constructor
      · rintro rfl; exact ⟨by simp, fun _ _ => rfl⟩
      · intro h; exact funext fun j => h.2 j (by simp), rfl⟩
  | c :: J, h => by
    obtain ⟨h1, h2⟩ := List.nodup_cons.1 h
    have ih := card_vec p J h2
    have hp := (card_num p).prod ih
    rw [List.length_cons, Nat.pow_succ, Nat.mul_comm]
    refine hp.bij (fun z => upd z.2 c z.1) (fun x => (x c, upd x c 0)) ?_ ?_ ?_ ?_
    · rintro ⟨a, x⟩ ⟨ha, hx⟩
      dsimp only at ha hx ⊢
      refine ⟨fun j hj => ?_, fun j hj => ?_⟩
      · by_cases e : j = c
        · subst e; rw [upd_same]; exact ha
        · rw [upd_other _ _ e]; exact hx.1 j ((List.mem_cons.1 hj).resolve_left e)
      · rw [upd_other _ _ (fun e => hj (List.mem_cons.2 (.inl e)))]
        exact hx.2 j fun hm => hj (List.mem_cons_of_mem _ hm)
    · intro x hx
      refine ⟨hx.1 c (List.mem_cons_self ..), fun j hj => ?_, fun j hj => ?_⟩
      · dsimp only; rw [upd_other _ _ (fun e : j = c => h1 (e ▸ hj))]; exact hx.1 j (List.mem_cons_of_mem _ hj)
      · by_cases e : j = c
        · dsimp only; rw [e, upd_same]
        · dsimp only; rw [upd_other _ _ e]; exact hx.2 j fun hm => (List.mem_cons.1 hm).elim e hj
    · rintro ⟨a, x⟩ ⟨ha, hx⟩
      dsimp only
      rw [upd_same]
      congr 1
      funext j
      by_cases e : j = c
      · rw [e, upd_same]; exact (hx.2 c h1).symm
      · rw [upd_other _ _ e, upd_other _ _ e]
    · intro x hx
      dsimp only
      funext j
      by_cases e : j = c
      · rw [e, upd_same]
      · rw [upd_other _ _ e, upd_other _ _ e]

/-- The product of a row and a vector. -/
def dot : List Int → (Nat → Int) → Int
  | [], _ => 0
  | a :: r, x => a * x 0 + dot r (fun j => x (j + 1))

/-- The vectors that a matrix of n columns sends to 0. -/
def Ker (p : Nat) (n : Nat) (M : List (List Int)) (x : Nat → Int) : Prop := Vec p (List.range n) x ∧ ∀ r ∈ M, (p : Int) ∣ dot r x

def scl (p b : Int) (r : List Int) : List Int := r.map fun x => x * b % p
def elim (p f : Int) (x r : List Int) : List Int := List.zipWith (fun a b => (a - f * b) % p) x r

theorem dvd_emod_sub (a p : Int) : p ∣ a % p - a := ⟨-(a / p), by have := Int.emod_add_mul_ediv a p; grind⟩
theorem dvd_of_emod {a b p : Int} (h : p ∣ a - b) : p ∣ a ↔ p ∣ b := by
  obtain ⟨k, hk⟩ := h
  constructor
  · rintro ⟨m, hm⟩; exact ⟨m - k, by grind⟩
  · rintro ⟨m, hm⟩; exact ⟨m + k, by grind⟩

theorem dot_scl (p b : Int) : ∀ (r : List Int) (x : Nat → Int), p ∣ dot (scl p b r) x - b * dot r x
  | [], x => ⟨0, by simp [scl, dot]⟩
  | a :: r, x => by
    obtain ⟨k, hk⟩ := dot_scl p b r fun j => x (j + 1)
    obtain ⟨m, hm⟩ := dvd_emod_sub (a * b) p
    refine ⟨m * x 0 + k, ?_⟩
    show (a * b % p * x 0 + dot (scl p b r) fun j => x (j + 1)) - b * (a * x 0 + dot r fun j => x (j + 1)) = _
    grind

theorem dot_elim (p f : Int) : ∀ (u r : List Int) (x : Nat → Int), u.length = r.length → p ∣ dot (elim p f u r) x - (dot u x - f * dot r x)
  | [], [], x, _ => ⟨0, by simp [elim, dot]⟩
  | [], _ :: _, _, h => by simp at h
  | _ :: _, [], _, h => by simp at h
  | a :: u, b :: r, x, h => by
    obtain ⟨k, hk⟩ := dot_elim p f u r (fun j => x (j + 1)) (by simpa using h)
    obtain ⟨m, hm⟩ := dvd_emod_sub (a - f * b) p
    refine ⟨m * x 0 + k, ?_⟩
    show ((a - f * b) % p * x 0 + dot (elim p f u r) fun j => x (j + 1)) - ((a * x 0 + dot u fun j => x (j + 1)) - f * (b * x 0 + dot r fun j => x (j + 1))) = _
    grind

theorem dot_zero : ∀ r : List Int, dot r (fun _ => 0) = 0
  | [] => rfl
  | a :: r => by show a * 0 + dot r (fun _ => 0) = 0; rw [dot_zero r]; simp

theorem dot_congr : ∀ (r : List Int) (x y : Nat → Int), (∀ j, j < r.length → x j = y j) → dot r x = dot r y
  | [], _, _, _ => rfl
  | a :: r, x, y, h => by
    show a * x 0 + _ = a * y 0 + _
    rw [h 0 (by simp), dot_congr r (fun j => x (j + 1)) (fun j => y (j + 1)) fun j hj => h (j + 1) (by simpa using hj)]

theorem dot_upd : ∀ (r : List Int) (x : Nat → Int) (c : Nat) (v : Int), dot r (upd x c v) = dot r x + r.getD c 0 * (v - x c)
  | [], x, c, v => by simp [dot]
  | a :: r, x, 0, v => by
    show a * upd x 0 v 0 + dot r (fun j => upd x 0 v (j + 1)) = _
    rw [upd_same, show (fun j => upd x 0 v (j + 1)) = fun j => x (j + 1) from funext fun j => upd_other _ _ (by omega)]
    show _ = (a * x 0 + dot r fun j => x (j + 1)) + a * (v - x 0)
    grind
  | a :: r, x, c + 1, v => by
    show a * upd x (c + 1) v 0 + dot r (fun j => upd x (c + 1) v (j + 1)) = _
    rw [upd_other _ _ (by omega), show (fun j => upd x (c + 1) v (j + 1)) = upd (fun j => x (j + 1)) c v from funext fun j => by unfold upd; simp, dot_upd r]
    show _ = (a * x 0 + dot r fun j => x (j + 1)) + r.getD c 0 * (v - x (c + 1))
    grind

/-! ### what the steps leave as it is -/

theorem dvd_cancel {p f b y : Int} (h : p ∣ f * b - 1) : p ∣ b * y ↔ p ∣ y := by
  obtain ⟨k, hk⟩ := h
  constructor
  · rintro ⟨m, hm⟩; exact ⟨f * m - k * y, by grind⟩
  · rintro ⟨m, hm⟩; exact ⟨b * m, by grind⟩

theorem ker_scl {p f b : Int} (h : p ∣ f * b - 1) (r : List Int) (x : Nat → Int) : p ∣ dot (scl p b r) x ↔ p ∣ dot r x := by
  rw [dvd_of_emod (dot_scl p b r x), dvd_cancel h]

theorem ker_elim {p f : Int} (u r : List Int) (x : Nat → Int) (hl : u.length = r.length) (hr : p ∣ dot r x) : p ∣ dot (elim p f u r) x ↔ p ∣ dot u x := by
  rw [dvd_of_emod (dot_elim p f u r x hl)]
  obtain ⟨k, hk⟩ := hr
  constructor
  · rintro ⟨m, hm⟩; exact ⟨m + f * k, by grind⟩
  · rintro ⟨m, hm⟩; exact ⟨m - f * k, by grind⟩

end Lin
end Go.Proofs.YtenpcjmhlnalcaaGreat

/-! LINEAR ALGEBRA modulo a prime, of no program, part 2: elimination; the rank counts what a matrix sends to 0. -/

namespace Go.Proofs.YtenpcjmhlnalcaaGreat
namespace Lin

def sm {α : Type} : List α → (α → Int) → Int
  | [], _ => 0
  | a :: l, f => f a + sm l f

theorem sm_congr {α : Type} : ∀ (l : List α) (f g : α → Int), (∀ a ∈ l, f a = g a) → sm l f = sm l g
  | [], _, _, _ => rfl
  | a :: l, f, g, h => by
    show f a + sm l f = g a + sm l g
    rw [h a (List.mem_cons_self ..), sm_congr l f g fun b hb => h b (List.mem_cons_of_mem _ hb)]

theorem sm_zero {α : Type} : ∀ (l : List α) (f : α → Int), (∀ a ∈ l, f a = 0) → sm l f = 0
  | [], _, _ => rfl
  | a :: l, f, h => by
    show f a + sm l f = 0
    rw [h a (List.mem_cons_self ..), sm_zero l f fun b hb => h b (List.mem_cons_of_mem _ hb)]; rfl

theorem sm_one {α : Type} [DecidableEq α] (c : α) (f : α → Int) : ∀ (l : List α), l.Nodup → c ∈ l → (∀ a ∈ l, a ≠ c → f a = 0) → sm l f = f c
  | [], _, h, _ => by simp at h
  | a :: l, hn, hm, h => by
    obtain ⟨h1, h2⟩ := List.nodup_cons.1 hn
    show f a + sm l f = f c
    by_cases e : a = c
    · subst e
      rw [sm_zero l f fun b hb => h b (List.mem_cons_of_mem _ hb) (fun e => h1 (e ▸ hb))]; simp
    · rw [h a (List.mem_cons_self ..) e, sm_one c f l h2 ((List.mem_cons.1 hm).resolve_left (fun x => e x.symm)) fun b hb => h b (List.mem_cons_of_mem _ hb)]; simp

/-- Vectors that agree off the places P. -/
theorem dot_off (r : List Int) : ∀ (P : List Nat) (x y : Nat → Int), P.Nodup → (∀ j, j ∉ P → x j = y j) → dot r x = dot r y + sm P fun c => r.getD c 0 * (x c - y c)
  | [], x, y, _, h => by
    rw [show x = y from funext fun j => h j (by simp)]; simp [sm]
  | c :: P, x, y, hn, h => by
    obtain ⟨h1, h2⟩ := List.nodup_cons.1 hn
    have ih := dot_off r P x (upd y c (x c)) h2 fun j hj => by
      by_cases e : j = c
      · rw [e, upd_same]
      · rw [upd_other _ _ e]; exact h j fun hm => (List.mem_cons.1 hm).elim e hj
    rw [ih, dot_upd]
    show _ = dot r y + (r.getD c 0 * (x c - y c) + sm P _)
    rw [sm_congr P (fun d => r.getD d 0 * (x d - upd y c (x c) d)) (fun d => r.getD d 0 * (x d - y d)) fun d hd => by
      rw [upd_other _ _ (fun e : d = c => h1 (e ▸ hd))]]
    grind

theorem dot_null : ∀ (r : List Int) (x : Nat → Int), (∀ j, r.getD j 0 = 0) → dot r x = 0
  | [], _, _ => rfl
  | a :: r, x, h => by
    show a * x 0 + dot r (fun j => x (j + 1)) = 0
    rw [show a = 0 from h 0, dot_null r _ fun j => h (j + 1)]; simp

/-- A reduced matrix: its pivots' columns are those of the unit matrix, its other rows are 0. -/
structure Reduced (n : Nat) (R : List (List Int)) (P : List Nat) : Prop where
  nodup : P.Nodup
  lt : ∀ c ∈ P, c < n
  le : P.length ≤ R.length
  wide : ∀ r ∈ R, r.length = n
  unit : ∀ i k, i < R.length → (h : k < P.length) → (R.getD i []).getD (P[k]) 0 = if i = k then 1 else 0
  null : ∀ i, P.length ≤ i → ∀ j, (R.getD i []).getD j 0 = 0

theorem length_off (n : Nat) (P : List Nat) (hn : P.Nodup) (hl : ∀ c ∈ P, c < n) : ((List.range n).filter fun j => decide (j ∉ P)).length = n - P.length := by
  have hp : (P ++ (List.range n).filter fun j => decide (j ∉ P)).Perm (List.range n) := by
    refine (List.perm_ext_iff_of_nodup ?_ List.nodup_range).2 fun a => ?_
    · rw [List.nodup_append]
      refine ⟨hn, List.nodup_range.filter _, fun a ha b hb e => ?_⟩
      subst e
      exact of_decide_eq_true (List.mem_filter.1 hb).2 ha
    · rw [List.mem_append, List.mem_filter, List.mem_range, decide_eq_true_eq]
      constructor
      · rintro (h | h)
        · exact hl a h
        · exact h.1
      · intro h
        by_cases e : a ∈ P
        · exact .inl e
        · exact .inr ⟨h, e⟩
  have := hp.length_eq
  rw [List.length_append, List.length_range] at this
  omega

theorem Reduced.rank_le {n : Nat} {R : List (List Int)} {P : List Nat} (h : Reduced n R P) : P.length ≤ n := by
  have hp : (P ++ (List.range n).filter fun j => decide (j ∉ P)).Perm (List.range n) := by
    refine (List.perm_ext_iff_of_nodup ?_ List.nodup_range).2 fun a => ?_
    · rw [List.nodup_append]
      refine ⟨h.nodup, List.nodup_range.filter _, fun a ha b hb e => ?_⟩
      subst e
      exact of_decide_eq_true (List.mem_filter.1 hb).2 ha
    · rw [List.mem_append, List.mem_filter, List.mem_range, decide_eq_true_eq]
      constructor
      · rintro (h' | h')
        · exact h.lt a h'
        · exact h'.1
      · intro h
        by_cases e : a ∈ P
        · exact .inl e
        · exact .inr ⟨h, e⟩
  have := hp.length_eq
  rw [List.length_append, List.length_range] at this
  omega

theorem Reduced.card {n p : Nat} (hp : 0 < p) {R : List (List Int)} {P : List Nat} (h : Reduced n R P) : Card (Ker p n R) (p ^ (n - P.length)) := by
  have hc := card_vec p ((List.range n).filter fun j => decide (j ∉ P)) (List.nodup_range.filter _)
  rw [length_off n P h.nodup h.lt] at hc
  have hJ : ∀ j, j ∈ ((List.range n).filter fun j => decide (j ∉ P)) ↔ j < n ∧ j ∉ P := fun j => by rw [List.mem_filter, List.mem_range, decide_eq_true_eq]
  have hpz : (p : Int) ≠ 0 := by omega
  have hpp : (0 : Int) < p := by omega
  -- the product of a pivot's row with x is that with x cleared and x at the pivot
  have row : ∀ (x y : Nat → Int) (k : Nat) (hk : k < P.length), (∀ j, j ∉ P → x j = y j) → (∀ c ∈ P, y c = 0) → dot (R.getD k []) x = dot (R.getD k []) y + x (P[k]) := by
    intro x y k hk hxy hy
    have hkm : P[k] ∈ P := List.getElem_mem hk
    rw [dot_off _ P x y h.nodup hxy, sm_one (P[k]) _ P h.nodup hkm]
    · rw [h.unit k k (Nat.lt_of_lt_of_le hk h.le) hk, if_pos rfl, hy _ hkm]; simp
    · intro c hcP hne
      obtain ⟨i, hi, rfl⟩ := List.getElem_of_mem hcP
      rw [h.unit k i (Nat.lt_of_lt_of_le hk h.le) hi, if_neg (fun e => hne (by subst e; rfl))]; simp
  refine hc.bij (fun y j => if j ∈ P then (-(dot (R.getD (P.idxOf j) []) y)) % p else y j) (fun x j => if j ∈ P then 0 else x j) ?_ ?_ ?_ ?_
  · intro y hy
    refine ⟨⟨fun j hj => ?_, fun j hj => ?_⟩, fun r hr => ?_⟩
    · by_cases e : j ∈ P
      · dsimp only; rw [if_pos e]; exact ⟨Int.emod_nonneg _ hpz, Int.emod_lt_of_pos _ hpp⟩
      · dsimp only; rw [if_neg e]; exact hy.1 j ((hJ j).2 ⟨List.mem_range.1 hj, e⟩)
    · have e : j ∉ P := fun e => hj (List.mem_range.2 (h.lt j e))
      dsimp only; rw [if_neg e]; exact hy.2 j fun hm => e (absurd (((hJ j).1 hm).1) (fun hl => hj (List.mem_range.2 hl)))
    · obtain ⟨i, hi, rfl⟩ := List.getElem_of_mem hr
      have hget : R[i] = R.getD i [] := by simp [List.getD, List.getElem?_eq_getElem hi]
      rw [hget]
      by_cases hk : i < P.length
      · rw [row _ y i hk (fun j hj => if_neg hj) (fun c hc' => hy.2 c fun hm => ((hJ c).1 hm).2 hc')]
        rw [if_pos (List.getElem_mem hk), h.nodup.idxOf_getElem i hk]
        obtain ⟨m, hm⟩ := dvd_emod_sub (-(dot (R.getD i []) y)) p
        exact ⟨m, by grind⟩
      · rw [dot_null _ _ (h.null i (by omega))]; exact ⟨0, by simp⟩
  · intro x hx
    refine ⟨fun j hj => ?_, fun j hj => ?_⟩
    · obtain ⟨h1, h2⟩ := (hJ j).1 hj
      dsimp only; rw [if_neg h2]; exact hx.1.1 j (List.mem_range.2 h1)
    · dsimp only
      by_cases e : j ∈ P
      · rw [if_pos e]
      · rw [if_neg e]; exact hx.1.2 j fun hm => hj ((hJ j).2 ⟨List.mem_range.1 hm, e⟩)
  · intro y hy
    funext j
    dsimp only
    by_cases e : j ∈ P
    · rw [if_pos e]; exact (hy.2 j fun hm => ((hJ j).1 hm).2 e).symm
    · rw [if_neg e, if_neg e]
  · intro x hx
    funext j
    dsimp only
    by_cases e : j ∈ P
    · rw [if_pos e]
      obtain ⟨k, hk, rfl⟩ := List.getElem_of_mem e
      rw [h.nodup.idxOf_getElem k hk]
      have hkR : k < R.length := Nat.lt_of_lt_of_le hk h.le
      have hr := hx.2 (R.getD k []) (by simp [List.getD, List.getElem?_eq_getElem hkR])
      rw [row x (fun j => if j ∈ P then 0 else x j) k hk (fun j hj => (if_neg hj).symm) (fun c hc' => if_pos hc')] at hr
      obtain ⟨b0, b1⟩ := hx.1.1 (P[k]) (List.mem_range.2 (h.lt _ e))
      obtain ⟨m, hm⟩ := hr
      generalize dot (R.getD k []) (fun j => if j ∈ P then 0 else x j) = d at hm ⊢
      have : -d = x P[k] + p * (-m) := by grind
      rw [this, Int.add_mul_emod_self_left, Int.emod_eq_of_lt b0 b1]
    · rw [if_neg e, if_neg e]

/-- The inverse modulo p: the first number that serves, 0 if none does. -/
def inv (p : Nat) (a : Int) : Int := (((List.range p).filter fun b : Nat => decide (a % p * (b : Int) % p = 1)).headD 0 : Nat)
/-- Modulo p every number but 0 can be inverted. -/
def IsP (p : Nat) : Prop := 1 < p ∧ ∀ a : Int, 0 < a → a < p → a * inv p a % p = 1

theorem isP2 : IsP 2 := ⟨by decide, fun a h h' => by rw [show a = 1 by omega]; decide⟩
theorem isP3 : IsP 3 := ⟨by decide, fun a h h' => by rcases show a = 1 ∨ a = 2 by omega with rfl | rfl <;> decide⟩
theorem isP5 : IsP 5 := ⟨by decide, fun a h h' => by rcases show a = 1 ∨ a = 2 ∨ a = 3 ∨ a = 4 by omega with rfl | rfl | rfl | rfl <;> decide⟩

abbrev Mat := List (List Int)
def row (M : Mat) (i : Nat) : List Int := M.getD i []
def ent (M : Mat) (i j : Nat) : Int := (row M i).getD j 0

/-- The pivot's row made 1 at the column, the column cleared elsewhere. -/
def clr (p : Nat) (M : Mat) (k c : Nat) : Mat :=
  (List.range M.length).map fun i => if i = k then scl p (inv p (ent M k c)) (row M k) else elim p (ent M i c) (row M i) (scl p (inv p (ent M k c)) (row M k))

def swap (M : Mat) (i k : Nat) : Mat := (M.set i (row M k)).set k (row M i)

/-- The first row from k on that is not 0 at the column c; M.length if there is none. -/
def seek (M : Mat) (c : Nat) : Nat → Nat → Nat
  | 0, k => k
  | m + 1, k => if ent M k c = 0 then seek M c m (k + 1) else k

def stepM (p : Nat) (st : Mat × List Nat) (c : Nat) : Mat × List Nat :=
  if st.2.length < st.1.length then
    let at' := seek st.1 c (st.1.length - st.2.length) st.2.length
    if at' = st.1.length then st else (clr p (swap st.1 at' st.2.length) st.2.length c, st.2 ++ [c])
  else st

def modM (p : Nat) (M : Mat) : Mat := M.map fun r => r.map fun x => x % (p : Int)
def reduce (p : Nat) (M : Mat) (n : Nat) : Mat × List Nat := (List.range n).foldl (stepM p) (modM p M, [])
def rank (p : Nat) (M : Mat) (n : Nat) : Nat := (reduce p M n).2.length

theorem row_mem {M : Mat} {i : Nat} (h : i < M.length) : row M i ∈ M := by unfold row; simp [List.getD, List.getElem?_eq_getElem h]
theorem mem_row {M : Mat} {r : List Int} (h : r ∈ M) : ∃ i, i < M.length ∧ r = row M i := by
  obtain ⟨i, hi, rfl⟩ := List.getElem_of_mem h
  exact ⟨i, hi, by unfold row; simp [List.getD, List.getElem?_eq_getElem hi]⟩
theorem row_out {M : Mat} {i : Nat} (h : M.length ≤ i) : row M i = [] := by unfold row; simp [List.getD, List.getElem?_eq_none h]
theorem ent_out {M : Mat} {i j : Nat} (h : M.length ≤ i) : ent M i j = 0 := by unfold ent; rw [row_out h]; rfl

theorem seek_le (M : Mat) (c : Nat) : ∀ m k, seek M c m k ≤ k + m ∧ k ≤ seek M c m k
  | 0, k => ⟨Nat.le_refl _, Nat.le_refl _⟩
  | m + 1, k => by
    unfold seek
    split
    · have := seek_le M c m (k + 1); omega
    · omega
theorem seek_hit (M : Mat) (c : Nat) : ∀ m k, seek M c m k ≠ k + m → ent M (seek M c m k) c ≠ 0
  | 0, k => fun h => absurd rfl h
  | m + 1, k => by
    unfold seek
    split
    · intro h; exact seek_hit M c m (k + 1) (by omega)
    · intro _; assumption
theorem seek_none (M : Mat) (c : Nat) : ∀ m k, seek M c m k = k + m → ∀ i, k ≤ i → i < k + m → ent M i c = 0
  | 0, k => fun _ i h h' => by omega
  | m + 1, k => by
    unfold seek
    split
    case isTrue h0 =>
      intro h i hi hi'
      by_cases e : i = k
      · rw [e]; exact h0
      · exact seek_none M c m (k + 1) (by omega) i (by omega) (by omega)
    case isFalse => intro h; omega

/-- Rows of one length, numbers modulo p. -/
structure Okay (p n : Nat) (M : Mat) : Prop where
  wide : ∀ r ∈ M, r.length = n
  mod : ∀ r ∈ M, ∀ x ∈ r, 0 ≤ x ∧ x < (p : Int)

theorem modM_ok {p n : Nat} (hp : 0 < p) {M : Mat} (h : ∀ r ∈ M, r.length = n) : Okay p n (modM p M) := by
  refine ⟨fun r hr => ?_, fun r hr x hx => ?_⟩
  · obtain ⟨s, hs, rfl⟩ := List.mem_map.1 hr; rw [List.length_map]; exact h s hs
  · obtain ⟨s, hs, rfl⟩ := List.mem_map.1 hr
    obtain ⟨y, _, rfl⟩ := List.mem_map.1 hx
    exact ⟨Int.emod_nonneg _ (by omega), Int.emod_lt_of_pos _ (by omega)⟩

theorem dot_mod (p : Int) : ∀ (r : List Int) (x : Nat → Int), p ∣ dot (r.map fun x => x % p) x - dot r x
  | [], x => ⟨0, by simp [dot]⟩
  | a :: r, x => by
    obtain ⟨k, hk⟩ := dot_mod p r fun j => x (j + 1)
    obtain ⟨m, hm⟩ := dvd_emod_sub a p
    refine ⟨m * x 0 + k, ?_⟩
    show (a % p * x 0 + dot (r.map fun x => x % p) fun j => x (j + 1)) - (a * x 0 + dot r fun j => x (j + 1)) = _
    grind

theorem modM_ker {p n : Nat} {M : Mat} (x : Nat → Int) : Ker p n (modM p M) x ↔ Ker p n M x := by
  unfold Ker
  refine and_congr_right fun _ => ?_
  unfold modM
  rw [List.forall_mem_map]
  exact forall_congr' fun r => forall_congr' fun _ => dvd_of_emod (dot_mod p r x)

theorem swap_length (M : Mat) (i k : Nat) : (swap M i k).length = M.length := by unfold swap; simp
theorem swap_row (M : Mat) (i k j : Nat) (hi : i < M.length) (hk : k < M.length) : row (swap M i k) j = row M (if j = k then i else if j = i then k else j) := by
  unfold swap row
  by_cases e : j = k
  · subst e; simp [List.getD, hi, hk]
  · rw [if_neg e]
    by_cases e' : j = i
    · subst e'
      rw [if_pos rfl]
      simp only [List.getD, List.getElem?_set, List.length_set]
      rw [if_neg (fun h => e h.symm)]
      simp [hi]
    · rw [if_neg e']
      simp only [List.getD, List.getElem?_set, List.length_set]
      rw [if_neg (fun h => e h.symm), if_neg (fun h => e' h.symm)]
theorem swap_mem {M : Mat} {i k : Nat} (hi : i < M.length) (hk : k < M.length) (r : List Int) : r ∈ swap M i k ↔ r ∈ M := by
  constructor
  · intro h
    obtain ⟨j, hj, rfl⟩ := mem_row h
    rw [swap_length] at hj
    rw [swap_row M i k j hi hk]
    refine row_mem ?_
    split
    · exact hi
    · split
      · exact hk
      · exact hj
  · intro h
    obtain ⟨j, hj, rfl⟩ := mem_row h
    have key : ∀ j', j' < M.length → row M (if j' = k then i else if j' = i then k else j') ∈ swap M i k := fun j' hj' => by
      rw [← swap_row M i k j' hi hk]; exact row_mem (by rw [swap_length]; exact hj')
    by_cases e : j = k
    · subst e
      have := key i hi
      by_cases e2 : i = j
      · subst e2; rw [if_pos rfl] at this; exact this
      · rw [if_neg e2, if_pos rfl] at this; exact this
    · by_cases e2 : j = i
      · subst e2; have := key k hk; rw [if_pos rfl] at this; exact this
      · have := key j hj; rw [if_neg e, if_neg e2] at this; exact this
theorem swap_ker {p n : Nat} {M : Mat} {i k : Nat} (hi : i < M.length) (hk : k < M.length) (x : Nat → Int) : Ker p n (swap M i k) x ↔ Ker p n M x := by
  unfold Ker
  exact and_congr_right fun _ => ⟨fun h r hr => h r ((swap_mem hi hk r).2 hr), fun h r hr => h r ((swap_mem hi hk r).1 hr)⟩
theorem swap_ok {p n : Nat} {M : Mat} {i k : Nat} (hi : i < M.length) (hk : k < M.length) (h : Okay p n M) : Okay p n (swap M i k) :=
  ⟨fun r hr => h.wide r ((swap_mem hi hk r).1 hr), fun r hr => h.mod r ((swap_mem hi hk r).1 hr)⟩

theorem clr_length (p : Nat) (M : Mat) (k c : Nat) : (clr p M k c).length = M.length := by unfold clr; simp
theorem clr_row (p : Nat) (M : Mat) (k c i : Nat) (hi : i < M.length) : row (clr p M k c) i = if i = k then scl p (inv p (ent M k c)) (row M k) else elim p (ent M i c) (row M i) (scl p (inv p (ent M k c)) (row M k)) := by
  unfold clr row
  simp [List.getD, hi]
theorem scl_length (p b : Int) (r : List Int) : (scl p b r).length = r.length := by unfold scl; simp
theorem elim_length (p f : Int) (u r : List Int) (h : u.length = r.length) : (elim p f u r).length = u.length := by unfold elim; simp [h]
theorem scl_get (p b : Int) (r : List Int) (j : Nat) : (scl p b r).getD j 0 = r.getD j 0 * b % p := by
  unfold scl
  simp only [List.getD, List.getElem?_map]
  cases r[j]? <;> simp
theorem elim_get (p f : Int) (u r : List Int) (h : u.length = r.length) (j : Nat) : (elim p f u r).getD j 0 = (u.getD j 0 - f * r.getD j 0) % p := by
  unfold elim
  simp only [List.getD, List.getElem?_zipWith]
  by_cases hj : j < u.length
  · rw [List.getElem?_eq_getElem hj, List.getElem?_eq_getElem (h ▸ hj)]; rfl
  · rw [List.getElem?_eq_none (by omega), List.getElem?_eq_none (by omega)]; simp

theorem clr_ok {p n : Nat} (hp : 0 < p) {M : Mat} {k c : Nat} (hk : k < M.length) (h : Okay p n M) : Okay p n (clr p M k c) := by
  have hw : ∀ i, i < M.length → (row M i).length = n := fun i hi => h.wide _ (row_mem hi)
  refine ⟨fun r hr => ?_, fun r hr x hx => ?_⟩
  · obtain ⟨i, hi, rfl⟩ := mem_row hr
    rw [clr_length] at hi
    rw [clr_row p M k c i hi]
    split
    · rw [scl_length]; exact hw k hk
    · rw [elim_length _ _ _ _ (by rw [scl_length, hw i hi, hw k hk])]; exact hw i hi
  · obtain ⟨i, hi, rfl⟩ := mem_row hr
    rw [clr_length] at hi
    rw [clr_row p M k c i hi] at hx
    have hpz : (p : Int) ≠ 0 := by omega
    split at hx
    · unfold scl at hx
      obtain ⟨y, _, rfl⟩ := List.mem_map.1 hx
      exact ⟨Int.emod_nonneg _ hpz, Int.emod_lt_of_pos _ (by omega)⟩
    · unfold elim at hx
      obtain ⟨j, hj, rfl⟩ := List.getElem_of_mem hx
      rw [List.getElem_zipWith]
      exact ⟨Int.emod_nonneg _ hpz, Int.emod_lt_of_pos _ (by omega)⟩

theorem inv_dvd {p : Nat} {a : Int} (h : a * inv p a % p = 1) : (p : Int) ∣ a * inv p a - 1 := by
  obtain ⟨m, hm⟩ := dvd_emod_sub (a * inv p a) p
  exact ⟨-m, by grind⟩

theorem clr_ker {p n : Nat} {M : Mat} {k c : Nat} (hk : k < M.length) (h : Okay p n M) (hi : ent M k c * inv p (ent M k c) % p = 1) (x : Nat → Int) : Ker p n (clr p M k c) x ↔ Ker p n M x := by
  have hd := inv_dvd hi
  have hw : ∀ i, i < M.length → (row M i).length = n := fun i hi => h.wide _ (row_mem hi)
  unfold Ker
  refine and_congr_right fun _ => ?_
  have hpiv : (p : Int) ∣ dot (scl p (inv p (ent M k c)) (row M k)) x ↔ (p : Int) ∣ dot (row M k) x := ker_scl hd _ x
  constructor
  · intro H r hr
    have hkk := H _ (row_mem (M := clr p M k c) (i := k) (by rw [clr_length]; exact hk))
    rw [clr_row p M k c k hk, if_pos rfl] at hkk
    obtain ⟨i, hi', rfl⟩ := mem_row hr
    by_cases e : i = k
    · subst e; exact hpiv.1 hkk
    · have hii := H _ (row_mem (M := clr p M k c) (i := i) (by rw [clr_length]; exact hi'))
      rw [clr_row p M k c i hi', if_neg e] at hii
      exact (ker_elim _ _ x (by rw [scl_length, hw i hi', hw k hk]) hkk).1 hii
  · intro H r hr
    obtain ⟨i, hi', rfl⟩ := mem_row hr
    rw [clr_length] at hi'
    rw [clr_row p M k c i hi']
    have hkk := hpiv.2 (H _ (row_mem hk))
    split
    · exact hkk
    · exact (ker_elim _ _ x (by rw [scl_length, hw i hi', hw k hk]) hkk).2 (H _ (row_mem hi'))

/-- What holds ahead of the column c. -/
structure Under (p n : Nat) (M : Mat) (c : Nat) (st : Mat × List Nat) : Prop where
  ok : Okay p n st.1
  len : st.1.length = M.length
  ker : ∀ x, Ker p n st.1 x ↔ Ker p n M x
  nodup : st.2.Nodup
  lt : ∀ j ∈ st.2, j < c
  le : st.2.length ≤ st.1.length
  unit : ∀ i k, i < st.1.length → (h : k < st.2.length) → ent st.1 i (st.2[k]) = if i = k then 1 else 0
  null : ∀ i, st.2.length ≤ i → ∀ j, j < c → ent st.1 i j = 0

theorem emod_self_of {p : Nat} {a : Int} (h : 0 ≤ a ∧ a < (p : Int)) : a % p = a := Int.emod_eq_of_lt h.1 h.2

theorem ent_mod {p n : Nat} {M : Mat} (hp : 0 < p) (h : Okay p n M) (i j : Nat) : 0 ≤ ent M i j ∧ ent M i j < (p : Int) := by
  unfold ent
  by_cases hi : i < M.length
  · by_cases hj : j < (row M i).length
    · have : (row M i).getD j 0 = (row M i)[j] := by simp [List.getD, List.getElem?_eq_getElem hj]
      rw [this]; exact h.mod _ (row_mem hi) _ (List.getElem_mem hj)
    · have : (row M i).getD j 0 = 0 := by simp [List.getD, List.getElem?_eq_none (by omega : (row M i).length ≤ j)]
      rw [this]; omega
  · rw [row_out (by omega)]; simp; omega

theorem Under.step {p n : Nat} (hP : IsP p) {M : Mat} {c : Nat} (hc : c < n) {st : Mat × List Nat} (h : Under p n M c st) : Under p n M (c + 1) (stepM p st c) := by
  obtain ⟨S, P⟩ := st
  have hp : 0 < p := by have := hP.1; omega
  unfold stepM
  dsimp only
  by_cases hl : P.length < S.length
  · rw [if_pos hl]
    by_cases hs : seek S c (S.length - P.length) P.length = S.length
    · rw [if_pos hs]
      refine ⟨h.ok, h.len, h.ker, h.nodup, fun j hj => Nat.lt_succ_of_lt (h.lt j hj), h.le, h.unit, fun i hi j hj => ?_⟩
      by_cases e : j < c
      · exact h.null i hi j e
      · obtain rfl : j = c := by omega
        by_cases hiS : i < S.length
        · exact seek_none S j (S.length - P.length) P.length (by rw [hs]; omega) i hi (by omega)
        · exact ent_out (by dsimp only; omega)
    · rw [if_neg hs]
      have hsl := seek_le S c (S.length - P.length) P.length
      have hne := seek_hit S c (S.length - P.length) P.length (by omega)
      generalize seek S c (S.length - P.length) P.length = a at hs hsl hne
      have haS : a < S.length := by omega
      have hok2 := swap_ok haS hl h.ok
      have hent : ∀ j, ent (swap S a P.length) P.length j = ent S a j := fun j => by unfold ent; rw [swap_row S a P.length P.length haS hl, if_pos rfl]
      have hb := ent_mod hp h.ok a c
      have hinv : ent (swap S a P.length) P.length c * inv p (ent (swap S a P.length) P.length c) % p = 1 := by
        rw [hent]; exact hP.2 _ (by have := hb.1; dsimp only at this hne; omega) hb.2
      have hl2 : P.length < (swap S a P.length).length := by rw [swap_length]; exact hl
      have hw2 : ∀ i, i < (swap S a P.length).length → (row (swap S a P.length) i).length = n := fun i hi => hok2.wide _ (row_mem hi)
      -- entries of the new matrix
      have hnew : ∀ i j, i < S.length → ent (clr p (swap S a P.length) P.length c) i j =
          if i = P.length then ent (swap S a P.length) P.length j * inv p (ent (swap S a P.length) P.length c) % p
          else (ent (swap S a P.length) i j - ent (swap S a P.length) i c * (ent (swap S a P.length) P.length j * inv p (ent (swap S a P.length) P.length c) % p)) % p := by
        intro i j hi
        have hi2 : i < (swap S a P.length).length := by rw [swap_length]; exact hi
        unfold ent
        rw [clr_row p _ _ _ i hi2]
        split
        · rw [scl_get]; rfl
        · rw [elim_get _ _ _ _ (by rw [scl_length, hw2 i hi2, hw2 _ hl2]), scl_get]; rfl
      -- what lies left of c is 0 in the pivot's row
      have hleft : ∀ j, (∀ i, P.length ≤ i → ent S i j = 0) → ent (swap S a P.length) P.length j = 0 := fun j hj => by rw [hent]; exact hj a hsl.2
      have hpz : (p : Int) ≠ 0 := by omega
      have hsame : ∀ i j, i < S.length → (∀ i, P.length ≤ i → ent S i j = 0) → ent (clr p (swap S a P.length) P.length c) i j = ent (swap S a P.length) i j := by
        intro i j hi hj
        rw [hnew i j hi, hleft j hj]
        have hb2 := ent_mod hp hok2 i j
        split
        case isTrue e => rw [e, hleft j hj]; simp
        case isFalse => simp; exact emod_self_of hb2
      refine ⟨clr_ok hp hl2 hok2, by rw [clr_length, swap_length]; exact h.len, fun x => by rw [clr_ker hl2 hok2 hinv, swap_ker haS hl]; exact h.ker x, ?_, ?_, ?_, ?_, ?_⟩
      · rw [List.nodup_append]
        exact ⟨h.nodup, by simp, fun x hx y hy e => by have := h.lt x hx; simp at hy; omega⟩
      · intro j hj
        rcases List.mem_append.1 hj with hj | hj
        · exact Nat.lt_succ_of_lt (h.lt j hj)
        · simp at hj; omega
      · dsimp only; rw [clr_length, swap_length, List.length_append]; simp; omega
      · intro i k hi hk
        dsimp only at hi hk ⊢
        rw [clr_length, swap_length] at hi
        rw [List.length_append] at hk
        by_cases e : k < P.length
        · rw [List.getElem_append_left e]
          have hz : ∀ i, P.length ≤ i → ent S i (P[k]) = 0 := fun i hi => by
            by_cases hiS : i < S.length
            · have := h.unit i k hiS e; rw [if_neg (by omega)] at this; exact this
            · exact ent_out (by omega)
          rw [hsame i _ hi hz]
          unfold ent
          rw [swap_row S a P.length i haS hl]
          by_cases e1 : i = P.length
          · rw [if_pos e1, if_neg (by omega)]; exact hz a hsl.2
          · rw [if_neg e1]
            by_cases e2 : i = a
            · rw [if_pos e2, if_neg (by omega)]; exact hz _ (Nat.le_refl _)
            · rw [if_neg e2]; exact h.unit i k hi e
        · have hk' : k = P.length := by simp at hk; omega
          subst hk'
          rw [show (P ++ [c])[P.length] = c by simp]
          rw [hnew i c hi]
          split
          · exact hinv
          · rw [hinv]; simp
      · intro i hi j hj
        dsimp only at hi ⊢
        rw [List.length_append] at hi
        have hi' : P.length < i := by simp at hi; omega
        by_cases hiS : i < S.length
        · by_cases e : j < c
          · rw [hsame i j hiS fun i hi => h.null i hi j e]
            unfold ent
            rw [swap_row S a P.length i haS hl, if_neg (by omega)]
            split
            · exact h.null _ (Nat.le_refl _) j e
            · exact h.null i (by dsimp only; omega) j e
          · obtain rfl : j = c := by omega
            rw [hnew i j hiS, if_neg (by omega), hinv]; simp
        · exact ent_out (by rw [clr_length, swap_length]; omega)
  · rw [if_neg hl]
    refine ⟨h.ok, h.len, h.ker, h.nodup, fun j hj => Nat.lt_succ_of_lt (h.lt j hj), h.le, h.unit, fun i hi j hj => ent_out ?_⟩
    have := h.le
    dsimp only at this hi ⊢
    omega

theorem reduce_under {p : Nat} (hP : IsP p) {M : Mat} {n : Nat} (hw : ∀ r ∈ M, r.length = n) : ∀ k, k ≤ n → Under p n M k ((List.range k).foldl (stepM p) (modM p M, []))
  | 0, _ => ⟨modM_ok (by have := hP.1; omega) hw, by simp [modM], fun x => modM_ker x, by simp, by simp, by simp, fun i k _ h => by simp at h, fun i _ j hj => by omega⟩
  | k + 1, hk => by
    rw [List.range_succ, List.foldl_append]
    exact (reduce_under hP hw k (by omega)).step hP (by omega)

theorem reduce_reduced {p : Nat} (hP : IsP p) {M : Mat} {n : Nat} (hw : ∀ r ∈ M, r.length = n) : Reduced n (reduce p M n).1 (reduce p M n).2 ∧ ∀ x, Ker p n (reduce p M n).1 x ↔ Ker p n M x := by
  have h := reduce_under hP hw n (Nat.le_refl n)
  refine ⟨⟨h.nodup, h.lt, h.le, h.ok.wide, h.unit, fun i hi j => ?_⟩, h.ker⟩
  by_cases hj : j < n
  · exact h.null i hi j hj
  · by_cases hiS : i < (reduce p M n).1.length
    · have : (row (reduce p M n).1 i).length = n := h.ok.wide _ (row_mem hiS)
      show (row (reduce p M n).1 i).getD j 0 = 0
      simp [List.getD, List.getElem?_eq_none (by rw [this]; omega : (row (reduce p M n).1 i).length ≤ j)]
    · exact ent_out (by omega)

/-- THE RANK COUNTS: a matrix of n columns and of rank r sends p^(n-r) vectors to 0. -/
theorem rank_card {p : Nat} (hP : IsP p) {M : Mat} {n : Nat} (hw : ∀ r ∈ M, r.length = n) : Card (Ker p n M) (p ^ (n - rank p M n)) ∧ rank p M n ≤ n := by
  obtain ⟨h, hk⟩ := reduce_reduced hP hw
  exact ⟨(h.card (by have := hP.1; omega)).congr hk, h.rank_le⟩

end Lin
end Go.Proofs.YtenpcjmhlnalcaaGreat

/-! MEMORY: a matrix of numbers: a slice of slices, each row in a block of its own; a call that writes into some blocks alone. -/

namespace Go.Proofs.YtenpcjmhlnalcaaGreat
open Go.RowKit

/-- Only the blocks G are written; new ones may come. -/
structure Only (G : List Nat) (w w' : World) : Prop where
  os : w'.os = w.os
  tape : w'.tape = w.tape
  output : w'.output = w.output
  size : w.heap.size ≤ w'.heap.size
  block : ∀ k, k < w.heap.size → k ∉ G → w'.heap[k]? = w.heap[k]?
theorem Only.refl (G : List Nat) (w : World) : Only G w w := ⟨rfl, rfl, rfl, Nat.le_refl _, fun _ _ _ => rfl⟩
theorem Only.trans {G : List Nat} {a b c : World} (h : Only G a b) (k : Only G b c) : Only G a c :=
  ⟨k.os.trans h.os, k.tape.trans h.tape, k.output.trans h.output, Nat.le_trans h.size k.size, fun i hi hn => (k.block i (Nat.lt_of_lt_of_le hi h.size) hn).trans (h.block i hi hn)⟩
theorem Only.set (G : List Nat) (w : World) {b : Nat} (o : Nat) (hb : b ∈ G) (v : Value) : Only G w (w.setCell ⟨b, o, none⟩ v) := by
  refine ⟨rfl, rfl, rfl, by simp [World.setCell], fun k _ hk => ?_⟩
  simp only [World.setCell, Array.getElem?_modify]
  rw [if_neg (fun e => hk (by rw [← e]; exact hb))]
theorem Only.of_below {w w' : World} (G : List Nat) (h : Below w.heap.size w w') : Only G w w' := ⟨h.os, h.tape, h.output, h.size, fun k hk _ => h.block k hk⟩
theorem Only.below {B : Nat} {G : List Nat} {w w' : World} (h : Only G w w') (hG : ∀ g, g ∈ G → B ≤ g) (hB : B ≤ w.heap.size) : Below B w w' :=
  ⟨h.os, h.tape, h.output, h.size, fun k hk => h.block k (by omega) fun hm => by have := hG k hm; omega⟩
theorem Only.drew {G : List Nat} {w w' : World} (h : Only G w w') : Only G w w'.drew := ⟨h.os, h.tape, h.output, h.size, h.block⟩
theorem IntsAt.only {w w' : World} {G : List Nat} {g : Nat} {a : Option Addr} {xs : List Int} (h : IntsAt w g a xs) (k : Only G w w') (hg : g ∉ G) : IntsAt w' g a xs := fun j hj => by
  obtain ⟨h1, h2, h3, h4⟩ := h j hj
  have hb := k.block g h2 hg
  exact ⟨h1, Nat.lt_of_lt_of_le h2 k.size, by rw [World.cell?_of_block (w := w) hb]; exact h3, by rw [World.frozen?_of_block (w := w) hb]; exact h4⟩

abbrev blk (R : List (Nat × Nat)) (i : Nat) : Nat := (R.getD i (0, 0)).1
abbrev room (R : List (Nat × Nat)) (i : Nat) : Nat := (R.getD i (0, 0)).2
abbrev blks (R : List (Nat × Nat)) : List Nat := R.map (·.1)
theorem blk_mem {R : List (Nat × Nat)} {i : Nat} (h : i < R.length) : blk R i ∈ blks R := by
  refine List.mem_map.2 ⟨R[i], List.getElem_mem h, ?_⟩
  simp [blk, List.getD, List.getElem?_eq_getElem h]
theorem blk_inj {R : List (Nat × Nat)} (hn : (blks R).Nodup) {i k : Nat} (hi : i < R.length) (hk : k < R.length) (h : blk R i = blk R k) : i = k := by
  have e : ∀ j, (hj : j < R.length) → blk R j = (blks R)[j]'(by simpa using hj) := fun j hj => by simp [blk, blks, List.getD, List.getElem?_eq_getElem hj]
  rw [e i hi, e k hk] at h
  exact (List.getElem_inj hn).1 h

/-- A matrix: the outer slice in the block go, its rows in the blocks of R. -/
structure Mx (w : World) (go : Nat) (ao : Option Addr) (R : List (Nat × Nat)) (M : Lin.Mat) : Prop where
  len : R.length = M.length
  nodup : (blks R).Nodup
  out : ∀ i, i < M.length → ao = some ⟨go, 0, none⟩ ∧ go < w.heap.size ∧ w.cell? ⟨go, i, none⟩ = some (.slice (some ⟨blk R i, 0, none⟩) (Lin.row M i).length (room R i)) ∧ w.frozen? ⟨go, i, none⟩ = false
  rows : ∀ i, i < M.length → blk R i < w.heap.size ∧ IntsAt w (blk R i) (some ⟨blk R i, 0, none⟩) (Lin.row M i)
  apart : go ∉ blks R

theorem Mx.keeps {w w' : World} {go : Nat} {ao : Option Addr} {R : List (Nat × Nat)} {M : Lin.Mat} (h : Mx w go ao R M) (hb : Below w.heap.size w w') : Mx w' go ao R M := by
  refine ⟨h.len, h.nodup, fun i hi => ?_, fun i hi => ?_, h.apart⟩
  · obtain ⟨h1, h2, h3, h4⟩ := h.out i hi
    exact ⟨h1, Nat.lt_of_lt_of_le h2 hb.size, by rw [hb.cell (p := ⟨go, i, none⟩) h2]; exact h3, by rw [hb.frozen (p := ⟨go, i, none⟩) h2]; exact h4⟩
  · obtain ⟨h1, h2⟩ := h.rows i hi
    exact ⟨Nat.lt_of_lt_of_le h1 hb.size, h2.keeps hb⟩
theorem Mx.drew {w : World} {go : Nat} {ao : Option Addr} {R : List (Nat × Nat)} {M : Lin.Mat} (h : Mx w go ao R M) : Mx w.drew go ao R M := ⟨h.len, h.nodup, h.out, h.rows, h.apart⟩
theorem Mx.cell {w : World} {go : Nat} {ao : Option Addr} {R : List (Nat × Nat)} {M : Lin.Mat} (h : Mx w go ao R M) {i : Nat} (hi : i < M.length) : w.cell? ⟨go, i, none⟩ = some (.slice (some ⟨blk R i, 0, none⟩) (Lin.row M i).length (room R i)) := (h.out i hi).2.2.1
theorem Mx.ent {w : World} {go : Nat} {ao : Option Addr} {R : List (Nat × Nat)} {M : Lin.Mat} (h : Mx w go ao R M) {i j : Nat} (hi : i < M.length) (hj : j < (Lin.row M i).length) : w.cell? ⟨blk R i, j, none⟩ = some (.int .i64 (Lin.ent M i j)) := ((h.rows i hi).2 j hj).2.2.1
theorem Mx.soft {w : World} {go : Nat} {ao : Option Addr} {R : List (Nat × Nat)} {M : Lin.Mat} (h : Mx w go ao R M) {i j : Nat} (hi : i < M.length) (hj : j < (Lin.row M i).length) : w.frozen? ⟨blk R i, j, none⟩ = false := ((h.rows i hi).2 j hj).2.2.2

theorem row_set (M : Lin.Mat) (i k : Nat) (r : List Int) (hi : i < M.length) : Lin.row (M.set i r) k = if k = i then r else Lin.row M k := by
  unfold Lin.row
  simp only [List.getD, List.getElem?_set]
  by_cases e : k = i
  · subst e; simp [hi]
  · rw [if_neg (fun h => e h.symm), if_neg e]

theorem IntsAt.setOwn {w : World} {g : Nat} {a : Option Addr} {xs : List Int} (h : IntsAt w g a xs) (j : Nat) (x : Int) : IntsAt (w.setCell ⟨g, j, none⟩ (.int .i64 x)) g a (xs.set j x) := fun k hk => by
  rw [List.length_set] at hk
  obtain ⟨h1, h2, h3, h4⟩ := h k hk
  refine ⟨h1, by simpa [World.setCell] using h2, ?_, by rw [World.frozen?_setCell]; exact h4⟩
  by_cases e : k = j
  · subst e
    rw [World.cell?_setCell_same _ _ _ h3]
    simp [List.getD, hk]
  · rw [World.cell?_setCell_other _ _ _ _ (by simp), h3]
    simp [List.getD, Ne.symm e]

/-- One number of one row is written. -/
theorem Mx.set {w : World} {go : Nat} {ao : Option Addr} {R : List (Nat × Nat)} {M : Lin.Mat} (h : Mx w go ao R M) {i : Nat} (hi : i < M.length) (j : Nat) (x : Int) : Mx (w.setCell ⟨blk R i, j, none⟩ (.int .i64 x)) go ao R (M.set i ((Lin.row M i).set j x)) := by
  have hiR : i < R.length := by rw [h.len]; exact hi
  have hne : go ≠ blk R i := fun e => h.apart (e ▸ blk_mem hiR)
  have hlen : ∀ k, (Lin.row (M.set i ((Lin.row M i).set j x)) k).length = (Lin.row M k).length := fun k => by
    rw [row_set M i k _ hi]
    by_cases e : k = i
    · rw [if_pos e, List.length_set, e]
    · rw [if_neg e]
  refine ⟨by rw [List.length_set]; exact h.len, h.nodup, fun k hk => ?_, fun k hk => ?_, h.apart⟩
  · rw [List.length_set] at hk
    obtain ⟨h1, h2, h3, h4⟩ := h.out k hk
    refine ⟨h1, by simpa [World.setCell] using h2, ?_, by rw [World.frozen?_setCell]; exact h4⟩
    rw [World.cell?_setCell_other _ _ _ _ (fun e => hne (congrArg Addr.block e).symm), hlen]; exact h3
  · rw [List.length_set] at hk
    obtain ⟨h1, h2⟩ := h.rows k hk
    refine ⟨by simpa [World.setCell] using h1, ?_⟩
    rw [row_set M i k _ hi]
    by_cases e : k = i
    · rw [if_pos e]; subst e; exact h2.setOwn j x
    · rw [if_neg e]
      exact h2.only (G := [blk R i]) (Only.set _ w j (by simp) _) (by
        rw [List.mem_singleton]; intro e'; exact e (blk_inj h.nodup (by rw [h.len]; exact hk) hiR e'))

/-- A row that is written number by number, j of them so far. -/
def mix (new old : List Int) (j : Nat) : List Int := new.take j ++ old.drop j
theorem mix_zero (new old : List Int) : mix new old 0 = old := rfl
theorem mix_length {new old : List Int} (h : new.length = old.length) (j : Nat) : (mix new old j).length = old.length := by unfold mix; simp; omega
theorem mix_end {new old : List Int} (h : new.length = old.length) {j : Nat} (hj : old.length ≤ j) : mix new old j = new := by
  unfold mix; rw [List.take_of_length_le (by omega), List.drop_eq_nil_of_le hj, List.append_nil]
theorem mix_at {new old : List Int} (h : new.length = old.length) {j : Nat} (hj : j < old.length) : (mix new old j).getD j 0 = old.getD j 0 := by
  unfold mix
  simp only [List.getD]
  rw [List.getElem?_append_right (by simp; omega)]
  simp [List.getElem?_drop, show j - min j new.length = 0 by omega]
theorem mix_step {new old : List Int} (h : new.length = old.length) {j : Nat} (hj : j < old.length) : (mix new old j).set j (new.getD j 0) = mix new old (j + 1) := by
  unfold mix
  apply List.ext_getElem?
  intro k
  rw [List.getElem?_set]
  by_cases e : j = k
  · subst e
    rw [if_pos rfl, if_pos (by simp; omega), List.getElem?_append_left (by simp; omega), List.getElem?_take_of_lt (by omega)]
    simp [List.getD, List.getElem?_eq_getElem (h ▸ hj : j < new.length)]
  · rw [if_neg e]
    by_cases e2 : k < j
    · rw [List.getElem?_append_left (by simp; omega), List.getElem?_append_left (by simp; omega), List.getElem?_take_of_lt e2, List.getElem?_take_of_lt (by omega)]
    · rw [List.getElem?_append_right (by simp; omega), List.getElem?_append_right (by simp; omega), List.getElem?_drop, List.getElem?_drop]
      congr 1
      simp; omega

theorem set_set_mix (M : Lin.Mat) (i : Nat) (a b : List Int) : (M.set i a).set i b = M.set i b := by rw [List.set_set]

/-- The next number of a row is written. -/
theorem Mx.step {w : World} {go : Nat} {ao : Option Addr} {R : List (Nat × Nat)} {M : Lin.Mat} {i j : Nat} {new old : List Int} (h : Mx w go ao R (M.set i (mix new old j))) (hi : i < M.length) (hl : new.length = old.length) (hj : j < old.length) {x : Int} (hx : new.getD j 0 = x) :
    Mx (w.setCell ⟨blk R i, j, none⟩ (.int .i64 x)) go ao R (M.set i (mix new old (j + 1))) := by
  have := h.set (i := i) (by rw [List.length_set]; exact hi) j x
  rw [row_set M i i _ hi, if_pos rfl, ← hx, mix_step hl hj, List.set_set, hx] at this
  exact this

end Go.Proofs.YtenpcjmhlnalcaaGreat
