/-
  MEMORY: a matrix behind a pointer, told by a function, whose rows may change places.
-/
import Derived.Test.YtenpcjmhlnalcaaGreatJg10
import Derived.Test.YtenpcjmhlnalcaaGreatJg28
namespace Go.Proofs.YtenpcjmhlnalcaaGreat
open Go.RowKit

structure MB (w : World) (base P go co : Nat) (R : List (Nat × Nat)) (m n : Nat) (f : Nat → Nat → Int) : Prop where
  cell : w.cell? ⟨P, 0, none⟩ = some (.slice (some ⟨go, 0, none⟩) m co)
  low : base ≤ P
  lt : P < w.heap.size
  mx : Mx w go (some ⟨go, 0, none⟩) R (matF m n f)
  olow : base ≤ go
  ne : go ≠ P
  rlow : ∀ g, g ∈ blks R → base ≤ g ∧ g ≠ P

theorem MP.toB {w : World} {base P : Nat} {v : Value} {R : List (Nat × Nat)} {m n : Nat} {f : Nat → Nat → Int} (h : MP w base P v R (matF m n f)) (hm : 0 < m) : ∃ go co, m ≤ co ∧ MB w base P go co R m n f := by
  have hl := matF_length m n f
  rcases h.own.own.2 with ⟨hv, h0⟩ | ⟨g, cap, cur, hv, hb, hg, hnc, _⟩
  · omega
  · rw [hl] at hv hnc
    obtain ⟨go, ao, co, hv2, hgo, hX⟩ := h.own.mx
    rw [hl] at hv2 hgo
    obtain ⟨hao, -, -, -⟩ := hX.out 0 (by rw [hl]; exact hm)
    subst hao
    rw [hv] at hv2
    obtain ⟨e1, e2⟩ : g = go ∧ cap = co := by simpa using hv2
    subst e1 e2
    subst hv
    refine ⟨g, cap, hnc, h.cell, h.low, h.lt, hX, hb, fun e => h.off (by rw [e]; rfl), fun z hz => ⟨(h.own.old hz).1, fun e => h.offR (e ▸ hz)⟩⟩
theorem MB.drew {w : World} {base P go co : Nat} {R : List (Nat × Nat)} {m n : Nat} {f : Nat → Nat → Int} (h : MB w base P go co R m n f) : MB w.drew base P go co R m n f := ⟨h.cell, h.low, h.lt, h.mx.drew, h.olow, h.ne, h.rlow⟩
theorem MB.row {w : World} {base P go co : Nat} {R : List (Nat × Nat)} {m n : Nat} {f : Nat → Nat → Int} (h : MB w base P go co R m n f) {i : Nat} (hi : i < m) : w.cell? ⟨go, i, none⟩ = some (.slice (some ⟨blk R i, 0, none⟩) n (room R i)) ∧ w.frozen? ⟨go, i, none⟩ = false := by
  have hc := h.mx.cell (i := i) (by rw [matF_length]; exact hi)
  rw [matF_wide m n f i hi] at hc
  exact ⟨hc, (h.mx.out i (by rw [matF_length]; exact hi)).2.2.2⟩
theorem MB.num {w : World} {base P go co : Nat} {R : List (Nat × Nat)} {m n : Nat} {f : Nat → Nat → Int} (h : MB w base P go co R m n f) {i j : Nat} (hi : i < m) (hj : j < n) : w.cell? ⟨blk R i, j, none⟩ = some (.int .i64 (f i j)) ∧ w.frozen? ⟨blk R i, j, none⟩ = false := by
  have h1 := h.mx.ent (i := i) (j := j) (by rw [matF_length]; exact hi) (by rw [matF_wide m n f i hi]; exact hj)
  rw [matF_ent m n f i j hi hj] at h1
  exact ⟨h1, h.mx.soft (by rw [matF_length]; exact hi) (by rw [matF_wide m n f i hi]; exact hj)⟩
theorem MB.low_row {w : World} {base P go co : Nat} {R : List (Nat × Nat)} {m n : Nat} {f : Nat → Nat → Int} (h : MB w base P go co R m n f) {i : Nat} (hi : i < m) : base ≤ blk R i :=
  (h.rlow _ (blk_mem (by rw [h.mx.len, matF_length]; exact hi))).1
theorem MB.congr {w : World} {base P go co : Nat} {R : List (Nat × Nat)} {m n : Nat} {f g : Nat → Nat → Int} (h : MB w base P go co R m n f) (e : ∀ i j, i < m → j < n → f i j = g i j) : MB w base P go co R m n g :=
  ⟨h.cell, h.low, h.lt, by rw [← matF_congr e]; exact h.mx, h.olow, h.ne, h.rlow⟩
theorem MB.setF {w : World} {base P go co : Nat} {R : List (Nat × Nat)} {m n : Nat} {f : Nat → Nat → Int} (hM : MB w base P go co R m n f) {i j : Nat} (hi : i < m) (hj : j < n) (x : Int) (g : Nat → Nat → Int) (hx : g i j = x) (hg : ∀ i' j', i' < m → j' < n → ¬(i' = i ∧ j' = j) → g i' j' = f i' j') :
    MB (w.setCell ⟨blk R i, j, none⟩ (.int .i64 x)) base P go co R m n g := by
  have hiM : i < (matF m n f).length := by rw [matF_length]; exact hi
  have hmem : blk R i ∈ blks R := blk_mem (by rw [hM.mx.len]; exact hiM)
  have hne := (hM.rlow _ hmem).2
  refine ⟨?_, hM.low, by simpa [World.setCell] using hM.lt, ?_, hM.olow, hM.ne, hM.rlow⟩
  · rw [World.cell?_setCell_other _ _ _ _ (fun e => hne (congrArg Addr.block e))]; exact hM.cell
  · have h1 := hM.mx.set hiM j x
    rw [matF_set m n f i j hi hj x] at h1
    rw [matF_congr (g := g) (fun i' j' h' h'' => ?_)] at h1
    · exact h1
    · by_cases e : i' = i ∧ j' = j
      · rw [if_pos e, e.1, e.2, hx]
      · rw [if_neg e, hg i' j' h' h'' e]
theorem matF_swap (m n : Nat) (f : Nat → Nat → Int) (d a : Nat) (hd : d < m) (ha : a < m) : Lin.swap (matF m n f) d a = matF m n (Lin.swpF d a f) := by
  have hl := matF_length m n f
  refine mat_eq (by rw [Lin.swap_length, hl]) (matF_length _ _ _) (fun i hi => ?_) (matF_wide _ _ _) fun i j hi hj => ?_
  · rw [Lin.swap_row _ d a i (by rw [hl]; exact hd) (by rw [hl]; exact ha)]
    exact matF_wide m n f _ (by split <;> (try split) <;> assumption)
  · rw [matF_ent m n _ i j hi hj]
    unfold Lin.ent
    rw [Lin.swap_row _ d a i (by rw [hl]; exact hd) (by rw [hl]; exact ha)]
    exact matF_ent m n f _ j (by split <;> (try split) <;> assumption) hj
theorem MB.swap {w : World} {base P go co : Nat} {R : List (Nat × Nat)} {m n : Nat} {f : Nat → Nat → Int} (h : MB w base P go co R m n f) {d a : Nat} (hd : d < m) (ha : a < m) :
    MB ((w.setCell ⟨go, d, none⟩ (.slice (some ⟨blk R a, 0, none⟩) n (room R a))).setCell ⟨go, a, none⟩ (.slice (some ⟨blk R d, 0, none⟩) n (room R d))) base P go co (swapR R d a) m n (Lin.swpF d a f) := by
  have hl := matF_length m n f
  have hlen : R.length = m := by rw [h.mx.len, hl]
  have hX := h.mx.swap (a := d) (d := a) (by rw [hl]; exact hd) (by rw [hl]; exact ha)
  rw [matF_wide m n f a ha, matF_wide m n f d hd, matF_swap m n f d a hd ha] at hX
  refine ⟨?_, h.low, by simpa [World.setCell] using h.lt, hX, h.olow, h.ne, fun g hg => h.rlow g ((swapR_mem (by rw [hlen]; exact hd) (by rw [hlen]; exact ha) g).1 hg)⟩
  rw [World.cell?_setCell_other _ _ _ _ (fun e => h.ne (congrArg Addr.block e)), World.cell?_setCell_other _ _ _ _ (fun e => h.ne (congrArg Addr.block e))]
  exact h.cell
theorem rect_F {M : Lin.Mat} (h : ∀ i, i < M.length → (Lin.row M i).length = Lin.wid M) : M = matF M.length (Lin.wid M) (Lin.ent M) :=
  mat_eq rfl (matF_length _ _ _) h (matF_wide _ _ _) fun i j hi hj => by rw [matF_ent _ _ _ i j hi hj]

end Go.Proofs.YtenpcjmhlnalcaaGreat
