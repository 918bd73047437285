/-
  TEXTS of one claim, put together: MatRank, MatB.
-/
import Derived.Test.YthjgpbcdcgagfaaWRed
import Derived.Test.YthjgpbcdcgagfaaJg4
import Derived.Test.YthjgpbcdcgagfaaJg10
/-! LINEAR ALGEBRA modulo a prime, of no program: elimination below the pivots alone finds as many pivots as the reduced form has. -/

namespace Go.Proofs.Ythjgpbcdcgagfaa
open Sets
namespace Lin

/-- The numbers behind a step: the rows below d are cleared at the column c. -/
def clrF (p : Nat) (d c : Nat) (f : Nat → Nat → Int) (t s : Nat) : Int := if d < t then (f t s - f t c * inv p (f d c) % (p : Int) * f d s) % (p : Int) else f t s
/-- Two rows exchanged. -/
def swpF (d a : Nat) (f : Nat → Nat → Int) (t s : Nat) : Int := f (if t = a then d else if t = d then a else t) s

structure Sim (p m n d : Nat) (f : Nat → Nat → Int) (S : Mat) : Prop where
  len : S.length = m
  ok : Okay p n S
  same : ∀ t s, d ≤ t → t < m → s < n → f t s % (p : Int) = ent S t s

theorem inv_mod (p : Nat) (a : Int) : inv p (a % (p : Int)) = inv p a := by
  unfold inv
  rw [Int.emod_emod]

theorem swap_ent (S : Mat) (a d t s : Nat) (ha : a < S.length) (hd : d < S.length) : ent (swap S a d) t s = ent S (if t = a then d else if t = d then a else t) s := by
  unfold ent
  rw [swap_row S a d t ha hd]
  by_cases e : t = d
  · subst e
    rw [if_pos rfl]
    by_cases e2 : t = a
    · rw [if_pos e2, e2]
    · rw [if_neg e2, if_pos rfl]
  · rw [if_neg e]
    by_cases e2 : t = a
    · rw [if_pos e2, if_pos e2]
    · rw [if_neg e2, if_neg e2, if_neg e]

theorem clear_eq (p x y b v : Int) : (x - y * b % p * v) % p = (x % p - y % p * (v % p * b % p)) % p := by
  have e1 := Int.emod_add_mul_ediv (y * b) p
  have e2 := Int.emod_add_mul_ediv x p
  have e3 := Int.emod_add_mul_ediv y p
  have e4 := Int.emod_add_mul_ediv v p
  have e5 := Int.emod_add_mul_ediv (v % p * b) p
  generalize y * b % p = A at *
  generalize v % p * b % p = B at *
  generalize y * b / p = q1 at *
  generalize x / p = q2 at *
  generalize y / p = q3 at *
  generalize v / p = q4 at *
  generalize v % p * b / p = q5 at *
  generalize x % p = X at *
  generalize y % p = Y at *
  generalize v % p = V at *
  subst e2 e3 e4
  have : X + p * q2 - A * (V + p * q4) = (X - Y * B) + p * (q2 - A * q4 + q1 * V - q3 * b * V - Y * q5) := by grind
  rw [this, Int.add_mul_emod_self_left]

theorem Sim.clear {p m n d a c : Nat} {f : Nat → Nat → Int} {S : Mat} (hp : 0 < p) (h : Sim p m n d f S) (ha : d ≤ a) (ham : a < m) (hc : c < n) : Sim p m n (d + 1) (clrF p d c (swpF d a f)) (clr p (swap S a d) d c) := by
  have haS : a < S.length := by rw [h.len]; exact ham
  have hdS : d < S.length := by omega
  have hok2 := swap_ok haS hdS h.ok
  have hl2 : d < (swap S a d).length := by rw [swap_length]; exact hdS
  refine ⟨by rw [clr_length, swap_length]; exact h.len, clr_ok hp hl2 hok2, fun t s ht htm hs => ?_⟩
  have hg : ∀ t s, d ≤ t → t < m → s < n → swpF d a f t s % (p : Int) = ent (swap S a d) t s := fun t s ht htm hs => by
    rw [swap_ent S a d t s haS hdS]
    unfold swpF
    refine h.same _ s ?_ ?_ hs
    · split
      · exact Nat.le_refl _
      · split
        · exact ha
        · exact ht
    · split
      · omega
      · split
        · exact ham
        · exact htm
  have htS : t < (swap S a d).length := by rw [swap_length, h.len]; exact htm
  have hw2 : ∀ i, i < (swap S a d).length → (row (swap S a d) i).length = n := fun i hi => hok2.wide _ (row_mem hi)
  unfold ent
  rw [clr_row p _ d c t htS, if_neg (by omega), elim_get _ _ _ _ (by rw [scl_length, hw2 t htS, hw2 d hl2]), scl_get]
  show _ = (ent (swap S a d) t s - ent (swap S a d) t c * (ent (swap S a d) d s * inv p (ent (swap S a d) d c) % (p : Int))) % (p : Int)
  rw [← hg t s (by omega) htm hs, ← hg t c (by omega) htm hc, ← hg d s (Nat.le_refl _) (by omega) hs, ← hg d c (Nat.le_refl _) (by omega) hc, inv_mod]
  unfold clrF
  rw [if_pos (by omega), Int.emod_emod]
  exact clear_eq _ _ _ _ _

/-- What holds ahead of the column j: d pivots so far. -/
def Elim (p : Nat) (M : Mat) (m n j d : Nat) (f : Nat → Nat → Int) : Prop :=
  d ≤ m ∧ (∀ t s, t < m → s < n → -1000 ≤ f t s ∧ f t s ≤ 1000) ∧ ∃ S P, redTo p M j = (S, P) ∧ P.length = d ∧ Sim p m n d f S

theorem Elim.start {p m n : Nat} (hp : 0 < p) {M : Mat} (hm : M.length = m) (hw : ∀ r ∈ M, r.length = n) (hb : ∀ t s, t < m → s < n → -1000 ≤ ent M t s ∧ ent M t s ≤ 1000) : Elim p M m n 0 0 (ent M) := by
  refine ⟨Nat.zero_le _, hb, modM p M, [], rfl, rfl, by simp [modM, hm], modM_ok hp hw, fun t s _ ht hs => ?_⟩
  have hl : s < (row M t).length := by rw [hw _ (row_mem (by rw [hm]; exact ht))]; exact hs
  unfold ent
  have : row (modM p M) t = (row M t).map fun x => x % (p : Int) := by
    unfold row modM
    simp [List.getD, List.getElem?_eq_getElem (by rw [hm]; exact ht : t < M.length)]
  rw [this]
  simp [List.getD, List.getElem?_eq_getElem hl]
theorem Elim.hit {p m n j d a : Nat} {M : Mat} {f : Nat → Nat → Int} (hp : 1 < p) (hp5 : p ≤ 5) (h : Elim p M m n j d f) (hj : j < n) (ha : d ≤ a) (ham : a < m) (hz : ∀ t, d ≤ t → t < a → f t j % (p : Int) = 0) (hn : f a j % (p : Int) ≠ 0) :
    Elim p M m n (j + 1) (d + 1) (clrF p d j (swpF d a f)) := by
  obtain ⟨hd, hb, S, P, hr, hP, hS⟩ := h
  refine ⟨by omega, fun t s ht hs => ?_, clr p (swap S a d) d j, P ++ [j], ?_, by simp [hP], hS.clear (by omega) ha ham hj⟩
  · have hsw : ∀ t s, t < m → s < n → -1000 ≤ swpF d a f t s ∧ swpF d a f t s ≤ 1000 := fun t s ht hs => by
      unfold swpF
      refine hb _ s ?_ hs
      split
      · omega
      · split
        · exact ham
        · exact ht
    unfold clrF
    split
    · have h0 := Int.emod_nonneg (swpF d a f t s - swpF d a f t j * inv p (swpF d a f d j) % (p : Int) * swpF d a f d s) (by omega : (p : Int) ≠ 0)
      have h1 := Int.emod_lt_of_pos (swpF d a f t s - swpF d a f t j * inv p (swpF d a f d j) % (p : Int) * swpF d a f d s) (by omega : (0 : Int) < p)
      omega
    · exact hsw t s ht hs
  · rw [redTo_next, hr]
    have hlen := hS.len
    have hsame := fun t (h1 : d ≤ t) (h2 : t < m) => hS.same t j h1 h2 hj
    rw [← hP] at ha hz ⊢
    refine step_some (by omega) (seek_eq S j _ _ _ ha (by omega) (fun t h1 h2 => by rw [← hsame t (by omega) (by omega)]; exact hz t h1 h2) (.inr (by rw [← hsame a (by omega) ham]; exact hn))) (by omega)
theorem Elim.miss {p m n j d : Nat} {M : Mat} {f : Nat → Nat → Int} (h : Elim p M m n j d f) (hj : j < n) (hz : ∀ t, d ≤ t → t < m → f t j % (p : Int) = 0) : Elim p M m n (j + 1) d f := by
  obtain ⟨hd, hb, S, P, hr, hP, hS⟩ := h
  refine ⟨hd, hb, S, P, ?_, hP, hS⟩
  rw [redTo_next, hr]
  have hlen := hS.len
  have hsame := fun t (h1 : d ≤ t) (h2 : t < m) => hS.same t j h1 h2 hj
  by_cases hl : P.length < S.length
  · refine step_none hl (seek_eq S j _ _ _ (by omega) (by omega) (fun t h1 h2 => by rw [← hsame t (by omega) (by omega)]; exact hz t (by omega) (by omega)) (.inl (by omega)))
  · unfold stepM; dsimp only; rw [if_neg hl]
theorem Elim.done {p m n d : Nat} {M : Mat} {f : Nat → Nat → Int} (h : Elim p M m n n d f) : rank p M n = d := by
  obtain ⟨_, _, S, P, hr, hP, _⟩ := h
  unfold rank reduce
  show (redTo p M n).2.length = d
  rw [hr]; exact hP

end Lin
end Go.Proofs.Ythjgpbcdcgagfaa

/-! MEMORY: a matrix behind a pointer, told by a function, whose rows may change places. -/

namespace Go.Proofs.Ythjgpbcdcgagfaa
open Go.RowKit

structure MB (w : World) (base P go co : Nat) (R : List (Nat × Nat)) (m n : Nat) (f : Nat → Nat → Int) : Prop where
  cell : w.cell? ⟨P, 0, none⟩ = some (.slice (some ⟨go, 0, none⟩) m co)
  low : base ≤ P
  lt : P < w.heap.size
  mx : Mx w go (some ⟨go, 0, none⟩) R (matF m n f)
  olow : base ≤ go
  ne : go ≠ P
  rlow : ∀ g, g ∈ blks R → base ≤ g ∧ g ≠ P

theorem MP.toB {w : World} {base P : Nat} {v : Value} {R : List (Nat × Nat)} {m n : Nat} {f : Nat → Nat → Int} (h : MP w base P v R (matF m n f)) (hm : 0 < m) : ∃ go co, m ≤ co ∧ MB w base P go co R m n f := by
  have hl := matF_length m n f
  rcases h.own.own.2 with ⟨hv, h0⟩ | ⟨g, cap, cur, hv, hb, hg, hnc, _⟩
  · omega
  · rw [hl] at hv hnc
    obtain ⟨go, ao, co, hv2, hgo, hX⟩ := h.own.mx
    rw [hl] at hv2 hgo
    obtain ⟨hao, -, -, -⟩ := hX.out 0 (by rw [hl]; exact hm)
    subst hao
    rw [hv] at hv2
    obtain ⟨e1, e2⟩ : g = go ∧ cap = co := by simpa using hv2
    subst e1 e2
    subst hv
    refine ⟨g, cap, hnc, h.cell, h.low, h.lt, hX, hb, fun e => h.off (by rw [e]; rfl), fun z hz => ⟨(h.own.old hz).1, fun e => h.offR (e ▸ hz)⟩⟩
theorem MB.drew {w : World} {base P go co : Nat} {R : List (Nat × Nat)} {m n : Nat} {f : Nat → Nat → Int} (h : MB w base P go co R m n f) : MB w.drew base P go co R m n f := ⟨h.cell, h.low, h.lt, h.mx.drew, h.olow, h.ne, h.rlow⟩
theorem MB.row {w : World} {base P go co : Nat} {R : List (Nat × Nat)} {m n : Nat} {f : Nat → Nat → Int} (h : MB w base P go co R m n f) {i : Nat} (hi : i < m) : w.cell? ⟨go, i, none⟩ = some (.slice (some ⟨blk R i, 0, none⟩) n (room R i)) ∧ w.frozen? ⟨go, i, none⟩ = false := by
  have hc := h.mx.cell (i := i) (by rw [matF_length]; exact hi)
  rw [matF_wide m n f i hi] at hc
  exact ⟨hc, (h.mx.out i (by rw [matF_length]; exact hi)).2.2.2⟩
theorem MB.num {w : World} {base P go co : Nat} {R : List (Nat × Nat)} {m n : Nat} {f : Nat → Nat → Int} (h : MB w base P go co R m n f) {i j : Nat} (hi : i < m) (hj : j < n) : w.cell? ⟨blk R i, j, none⟩ = some (.int .i64 (f i j)) ∧ w.frozen? ⟨blk R i, j, none⟩ = false := by
  have h1 := h.mx.ent (i := i) (j := j) (by rw [matF_length]; exact hi) (by rw [matF_wide m n f i hi]; exact hj)
  rw [matF_ent m n f i j hi hj] at h1
  exact ⟨h1, h.mx.soft (by rw [matF_length]; exact hi) (by rw [matF_wide m n f i hi]; exact hj)⟩
theorem MB.low_row {w : World} {base P go co : Nat} {R : List (Nat × Nat)} {m n : Nat} {f : Nat → Nat → Int} (h : MB w base P go co R m n f) {i : Nat} (hi : i < m) : base ≤ blk R i :=
  (h.rlow _ (blk_mem (by rw [h.mx.len, matF_length]; exact hi))).1
theorem MB.congr {w : World} {base P go co : Nat} {R : List (Nat × Nat)} {m n : Nat} {f g : Nat → Nat → Int} (h : MB w base P go co R m n f) (e : ∀ i j, i < m → j < n → f i j = g i j) : MB w base P go co R m n g :=
  ⟨h.cell, h.low, h.lt, by rw [← matF_congr e]; exact h.mx, h.olow, h.ne, h.rlow⟩
theorem MB.setF {w : World} {base P go co : Nat} {R : List (Nat × Nat)} {m n : Nat} {f : Nat → Nat → Int} (hM : MB w base P go co R m n f) {i j : Nat} (hi : i < m) (hj : j < n) (x : Int) (g : Nat → Nat → Int) (hx : g i j = x) (hg : ∀ i' j', i' < m → j' < n → ¬(i' = i ∧ j' = j) → g i' j' = f i' j') :
    MB (w.setCell ⟨blk R i, j, none⟩ (.int .i64 x)) base P go co R m n g := by
  have hiM : i < (matF m n f).length := by rw [matF_length]; exact hi
  have hmem : blk R i ∈ blks R := blk_mem (by rw [hM.mx.len]; exact hiM)
  have hne := (hM.rlow _ hmem).2
  refine ⟨?_, hM.low, by simpa [World.setCell] using hM.lt, ?_, hM.olow, hM.ne, hM.rlow⟩
  · rw [World.cell?_setCell_other _ _ _ _ (fun e => hne (congrArg Addr.block e))]; exact hM.cell
  · have h1 := hM.mx.set hiM j x
    rw [matF_set m n f i j hi hj x] at h1
    rw [matF_congr (g := g) (fun i' j' h' h'' => ?_)] at h1
    · exact h1
    · by_cases e : i' = i ∧ j' = j
      · rw [if_pos e, e.1, e.2, hx]
      · rw [if_neg e, hg i' j' h' h'' e]
theorem matF_swap (m n : Nat) (f : Nat → Nat → Int) (d a : Nat) (hd : d < m) (ha : a < m) : Lin.swap (matF m n f) d a = matF m n (Lin.swpF d a f) := by
  have hl := matF_length m n f
  refine mat_eq (by rw [Lin.swap_length, hl]) (matF_length _ _ _) (fun i hi => ?_) (matF_wide _ _ _) fun i j hi hj => ?_
  · rw [Lin.swap_row _ d a i (by rw [hl]; exact hd) (by rw [hl]; exact ha)]
    exact matF_wide m n f _ (by split <;> (try split) <;> assumption)
  · rw [matF_ent m n _ i j hi hj]
    unfold Lin.ent
    rw [Lin.swap_row _ d a i (by rw [hl]; exact hd) (by rw [hl]; exact ha)]
    exact matF_ent m n f _ j (by split <;> (try split) <;> assumption) hj
theorem MB.swap {w : World} {base P go co : Nat} {R : List (Nat × Nat)} {m n : Nat} {f : Nat → Nat → Int} (h : MB w base P go co R m n f) {d a : Nat} (hd : d < m) (ha : a < m) :
    MB ((w.setCell ⟨go, d, none⟩ (.slice (some ⟨blk R a, 0, none⟩) n (room R a))).setCell ⟨go, a, none⟩ (.slice (some ⟨blk R d, 0, none⟩) n (room R d))) base P go co (swapR R d a) m n (Lin.swpF d a f) := by
  have hl := matF_length m n f
  have hlen : R.length = m := by rw [h.mx.len, hl]
  have hX := h.mx.swap (a := d) (d := a) (by rw [hl]; exact hd) (by rw [hl]; exact ha)
  rw [matF_wide m n f a ha, matF_wide m n f d hd, matF_swap m n f d a hd ha] at hX
  refine ⟨?_, h.low, by simpa [World.setCell] using h.lt, hX, h.olow, h.ne, fun g hg => h.rlow g ((swapR_mem (by rw [hlen]; exact hd) (by rw [hlen]; exact ha) g).1 hg)⟩
  rw [World.cell?_setCell_other _ _ _ _ (fun e => h.ne (congrArg Addr.block e)), World.cell?_setCell_other _ _ _ _ (fun e => h.ne (congrArg Addr.block e))]
  exact h.cell
theorem rect_F {M : Lin.Mat} (h : ∀ i, i < M.length → (Lin.row M i).length = Lin.wid M) : M = matF M.length (Lin.wid M) (Lin.ent M) :=
  mat_eq rfl (matF_length _ _ _) h (matF_wide _ _ _) fun i j hi hj => by rw [matF_ent _ _ _ i j hi hj]

end Go.Proofs.Ythjgpbcdcgagfaa
