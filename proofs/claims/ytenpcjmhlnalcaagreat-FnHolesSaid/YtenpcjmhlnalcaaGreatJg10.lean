/-
  TEXTS of one claim, put together: MatP2, WMatI4, Adds, WCur.
-/
import Derived.Test.YtenpcjmhlnalcaaGreatJg3
import Derived.Test.YtenpcjmhlnalcaaGreatJg4
import Derived.Test.YtenpcjmhlnalcaaGreatJg9
import Derived.Test.YtenpcjmhlnalcaaGreatJg0
import Derived.Test.YtenpcjmhlnalcaaGreatProg
import Derived.WalkKit
import Derived.WalkLawsBesides
import Derived.Outline
import Derived.Lib.Hide
import Derived.Deep.QuietTactic
import Derived.BigQuiet
import Derived.WalkSmall
import Derived.IntWalk
import Derived.Laws.Bits64
import Derived.Deep.DeepCutAuto
/-! MEMORY: numbers of a matrix behind a pointer written one by one; matrices told by a function. -/

namespace Go.Proofs.YtenpcjmhlnalcaaGreat
open Go.RowKit

/-- The matrix of h rows and n columns with the numbers f. -/
def matF (h n : Nat) (f : Nat → Nat → Int) : Lin.Mat := (List.range h).map fun i => (List.range n).map fun j => f i j
theorem matF_length (h n : Nat) (f : Nat → Nat → Int) : (matF h n f).length = h := by simp [matF]
theorem matF_row (h n : Nat) (f : Nat → Nat → Int) (i : Nat) (hi : i < h) : Lin.row (matF h n f) i = (List.range n).map fun j => f i j := by
  unfold matF Lin.row; simp [List.getD, hi]
theorem matF_wide (h n : Nat) (f : Nat → Nat → Int) (i : Nat) (hi : i < h) : (Lin.row (matF h n f) i).length = n := by rw [matF_row h n f i hi]; simp
theorem matF_ent (h n : Nat) (f : Nat → Nat → Int) (i j : Nat) (hi : i < h) (hj : j < n) : Lin.ent (matF h n f) i j = f i j := by
  unfold Lin.ent; rw [matF_row h n f i hi]; simp [List.getD, hj]
theorem mat_eq {A B : Lin.Mat} {h n : Nat} (hA : A.length = h) (hB : B.length = h) (wA : ∀ i, i < h → (Lin.row A i).length = n) (wB : ∀ i, i < h → (Lin.row B i).length = n) (he : ∀ i j, i < h → j < n → Lin.ent A i j = Lin.ent B i j) : A = B := by
  apply List.ext_getElem (by rw [hA, hB])
  intro i h1 h2
  have e1 : A[i] = Lin.row A i := by unfold Lin.row; simp [List.getD, List.getElem?_eq_getElem h1]
  have e2 : B[i] = Lin.row B i := by unfold Lin.row; simp [List.getD, List.getElem?_eq_getElem h2]
  rw [e1, e2]
  have w1 := wA i (by omega)
  have w2 := wB i (by omega)
  apply List.ext_getElem (by rw [w1, w2])
  intro j k1 k2
  have := he i j (by omega) (by omega)
  unfold Lin.ent at this
  simpa [List.getD, List.getElem?_eq_getElem k1, List.getElem?_eq_getElem k2] using this
theorem matF_congr {h n : Nat} {f g : Nat → Nat → Int} (e : ∀ i j, i < h → j < n → f i j = g i j) : matF h n f = matF h n g :=
  mat_eq (matF_length _ _ _) (matF_length _ _ _) (matF_wide _ _ _) (matF_wide _ _ _) fun i j hi hj => by rw [matF_ent h n f i j hi hj, matF_ent h n g i j hi hj, e i j hi hj]
theorem matF_set (h n : Nat) (f : Nat → Nat → Int) (i j : Nat) (hi : i < h) (hj : j < n) (x : Int) : (matF h n f).set i ((Lin.row (matF h n f) i).set j x) = matF h n fun i' j' => if i' = i ∧ j' = j then x else f i' j' := by
  have hl := matF_length h n f
  have hrow : ∀ k, Lin.row ((matF h n f).set i ((Lin.row (matF h n f) i).set j x)) k = if k = i then (Lin.row (matF h n f) i).set j x else Lin.row (matF h n f) k := fun k => row_set _ i k _ (by rw [hl]; exact hi)
  refine mat_eq (n := n) (by rw [List.length_set, hl]) (matF_length _ _ _) (fun k hk => ?_) (matF_wide _ _ _) fun k l hk hl2 => ?_
  · rw [hrow]
    split
    · rw [List.length_set, matF_wide h n f i hi]
    · exact matF_wide h n f k hk
  · rw [matF_ent h n _ k l hk hl2]
    unfold Lin.ent
    rw [hrow]
    by_cases e : k = i
    · subst e
      rw [if_pos rfl]
      have hw := matF_wide h n f k hk
      by_cases e2 : l = j
      · subst e2
        rw [if_pos ⟨rfl, rfl⟩]
        simp [List.getD, hw, hj]
      · rw [if_neg (fun a => e2 a.2)]
        rw [List.getD, List.getElem?_set_ne (fun a => e2 a.symm)]
        exact matF_ent h n f k l hk hl2
    · rw [if_neg e, if_neg (fun a => e a.1)]
      exact matF_ent h n f k l hk hl2
theorem turnM_matF (n : Nat) (M : Lin.Mat) : Lin.turnM n M = matF n M.length fun j i => Lin.ent M i j := rfl
theorem timesM_matF (n : Nat) (A B : Lin.Mat) : Lin.timesM n A B = matF A.length n fun i j => Lin.sm (List.range B.length) fun k => Lin.ent A i k * Lin.ent B k j := rfl
theorem zeroM_matF (h n : Nat) : List.replicate h (List.replicate n (0 : Int)) = matF h n fun _ _ => 0 := by
  unfold matF
  rw [show (fun i => (List.range n).map fun j => (0 : Int)) = fun _ : Nat => List.replicate n (0 : Int) from funext fun _ => by simp [List.map_const']]
  simp [List.map_const']

theorem OwnMx.set {w : World} {base : Nat} {v : Value} {R : List (Nat × Nat)} {M : Lin.Mat} (h : OwnMx w base v R M) {i : Nat} (hi : i < M.length) (j : Nat) (x : Int) : OwnMx (w.setCell ⟨blk R i, j, none⟩ (.int .i64 x)) base v R (M.set i ((Lin.row M i).set j x)) := by
  have hiR : i < R.length := by rw [h.len]; exact hi
  have hlen : ∀ k, (Lin.row (M.set i ((Lin.row M i).set j x)) k).length = (Lin.row M k).length := fun k => by
    rw [row_set M i k _ hi]
    by_cases e : k = i
    · rw [if_pos e, List.length_set, e]
    · rw [if_neg e]
  have hon : Only [blk R i] w (w.setCell ⟨blk R i, j, none⟩ (.int .i64 x)) := Only.set _ _ _ (by simp) _
  refine ⟨?_, by rw [List.length_set]; exact h.len, h.nodup, fun k hk => ?_, h.apart⟩
  · have hv : vals R (M.set i ((Lin.row M i).set j x)) = vals R M := by
      unfold vals
      rw [List.length_set]
      exact List.map_congr_left fun k _ => by rw [hlen k]
    rw [hv, List.length_set]
    refine World.ownsRow.kept (row := some (blk R i)) h.own ⟨hon.os, hon.tape, hon.output, hon.size, fun k hk hne => hon.block k hk (fun hm => hne (by simp at hm; rw [hm]))⟩ (.inr fun e => ?_)
    exact h.apart _ e (blk_mem hiR)
  · rw [List.length_set] at hk
    obtain ⟨h1, h2, h3⟩ := h.rows k hk
    refine ⟨h1, by simpa [World.setCell] using h2, ?_⟩
    rw [row_set M i k _ hi]
    by_cases e : k = i
    · rw [if_pos e]; subst e; exact h3.setOwn j x
    · rw [if_neg e]
      exact h3.only hon (by
        rw [List.mem_singleton]; intro e'; exact e (blk_inj h.nodup (by rw [h.len]; exact hk) hiR e'))
theorem MP.set {w : World} {base P : Nat} {v : Value} {R : List (Nat × Nat)} {M : Lin.Mat} (h : MP w base P v R M) {i : Nat} (hi : i < M.length) (j : Nat) (x : Int) : MP (w.setCell ⟨blk R i, j, none⟩ (.int .i64 x)) base P v R (M.set i ((Lin.row M i).set j x)) := by
  have hiR : i < R.length := by rw [h.own.len]; exact hi
  have hne : blk R i ≠ P := fun e => h.offR (e ▸ blk_mem hiR)
  exact ⟨by rw [World.cell?_setCell_other _ _ _ _ (fun e => hne (congrArg Addr.block e))]; exact h.cell, by rw [World.frozen?_setCell]; exact h.soft, h.low, by simpa [World.setCell] using h.lt, h.own.set hi j x, h.off, h.offR⟩
/-- One number of a matrix told by a function is written. -/
theorem MP.setF {w : World} {base P : Nat} {v : Value} {R : List (Nat × Nat)} {h n : Nat} {f : Nat → Nat → Int} (hM : MP w base P v R (matF h n f)) {i j : Nat} (hi : i < h) (hj : j < n) (x : Int) (g : Nat → Nat → Int) (hx : g i j = x) (hg : ∀ i' j', i' < h → j' < n → ¬(i' = i ∧ j' = j) → g i' j' = f i' j') :
    MP (w.setCell ⟨blk R i, j, none⟩ (.int .i64 x)) base P v R (matF h n g) := by
  have h1 := hM.set (i := i) (by rw [matF_length]; exact hi) j x
  rw [matF_set h n f i j hi hj x] at h1
  rw [matF_congr (g := g) (fun i' j' h' h'' => ?_)] at h1
  · exact h1
  · by_cases e : i' = i ∧ j' = j
    · rw [if_pos e, e.1, e.2, hx]
    · rw [if_neg e, hg i' j' h' h'' e]
/-- What is read of such a matrix: the row's cell and the number's. -/
theorem MP.readF {w : World} {base P : Nat} {v : Value} {R : List (Nat × Nat)} {h n : Nat} {f : Nat → Nat → Int} (hM : MP w base P v R (matF h n f)) {i : Nat} (hi : i < h) :
    ∃ go co, v = .slice (some ⟨go, 0, none⟩) h co ∧ w.cell? ⟨go, i, none⟩ = some (.slice (some ⟨blk R i, 0, none⟩) n (room R i)) ∧ base ≤ blk R i ∧ ∀ j, j < n → w.cell? ⟨blk R i, j, none⟩ = some (.int .i64 (f i j)) ∧ w.frozen? ⟨blk R i, j, none⟩ = false := by
  obtain ⟨go, ao, co, rfl, -, hX⟩ := hM.own.mx
  obtain ⟨hao, hgo, hc, -⟩ := hX.out i (by rw [matF_length]; exact hi)
  subst hao
  rw [matF_length, matF_wide h n f i hi] at *
  refine ⟨go, co, rfl, hc, (hM.own.rows i (by rw [matF_length]; exact hi)).1, fun j hj => ?_⟩
  have h1 := hX.ent (i := i) (j := j) (by rw [matF_length]; exact hi) (by rw [matF_wide h n f i hi]; exact hj)
  rw [matF_ent h n f i j hi hj] at h1
  exact ⟨h1, hX.soft (by rw [matF_length]; exact hi) (by rw [matF_wide h n f i hi]; exact hj)⟩
/-- What is read of a matrix whose rows have one length. -/
theorem MP.read {w : World} {base P : Nat} {v : Value} {R : List (Nat × Nat)} {M : Lin.Mat} (hM : MP w base P v R M) {n i : Nat} (hi : i < M.length) (hw : (Lin.row M i).length = n) :
    ∃ go co, v = .slice (some ⟨go, 0, none⟩) M.length co ∧ go < w.heap.size ∧ w.cell? ⟨go, i, none⟩ = some (.slice (some ⟨blk R i, 0, none⟩) n (room R i)) ∧ base ≤ blk R i ∧ blk R i < w.heap.size ∧ ∀ j, j < n → w.cell? ⟨blk R i, j, none⟩ = some (.int .i64 (Lin.ent M i j)) ∧ w.frozen? ⟨blk R i, j, none⟩ = false := by
  obtain ⟨go, ao, co, rfl, -, hX⟩ := hM.own.mx
  obtain ⟨hao, hgo, hc, -⟩ := hX.out i hi
  subst hao
  subst hw
  exact ⟨go, co, rfl, hgo, hc, (hM.own.rows i hi).1, (hM.own.rows i hi).2.1, fun j hj => ⟨hX.ent hi hj, hX.soft hi hj⟩⟩

end Go.Proofs.YtenpcjmhlnalcaaGreat

/-! WALKS of chapter 13 (impl): a matrix turned. -/

namespace Go.Proofs.YtenpcjmhlnalcaaGreat
open Go.RowKit

theorem zeroM_F (h n : Nat) : zeroM h n = matF h n fun _ _ => 0 := zeroM_matF h n
/-- The turned matrix, i rows and j numbers of the next one written so far. -/
def turnTo (M : Lin.Mat) (i j c r : Nat) : Int := if r < i ∨ (r = i ∧ c < j) then Lin.ent M r c else 0
theorem turnTo_zero (M : Lin.Mat) (c r : Nat) : turnTo M 0 0 c r = 0 := if_neg (by omega)
theorem turnTo_end (M : Lin.Mat) {i c r : Nat} (h : r < i) : turnTo M i 0 c r = Lin.ent M r c := if_pos (.inl h)
theorem turnTo_row (M : Lin.Mat) {n i c r : Nat} (hc : c < n) : turnTo M i n c r = turnTo M (i + 1) 0 c r := by
  unfold turnTo
  by_cases h : r < i + 1
  · rw [if_pos (by omega), if_pos (.inl h)]
  · rw [if_neg (by omega), if_neg (by omega)]
theorem turnTo_same (M : Lin.Mat) {i j c r : Nat} (h : ¬(c = j ∧ r = i)) : turnTo M i (j + 1) c r = turnTo M i j c r := by
  unfold turnTo
  by_cases h2 : r < i ∨ (r = i ∧ c < j)
  · rw [if_pos h2, if_pos (by omega)]
  · rw [if_neg h2, if_neg (by omega)]

end Go.Proofs.YtenpcjmhlnalcaaGreat

/-! MEMORY: a call that adds rows to a matrix that it is given. -/

namespace Go.Proofs.YtenpcjmhlnalcaaGreat
open Go.RowKit

theorem only_grown {w w' : World} {o : Option Nat} (h : w.grownBy w' o) : Only o.toList w w' :=
  ⟨h.os, h.tape, h.output, h.size, fun k hk hn => h.block k hk (fun e => hn (by rw [← e]; simp))⟩
theorem not_toList {o : Option Nat} {g : Nat} (h : o ≠ some g) : g ∉ o.toList := by
  intro hm; cases o with
  | none => simp at hm
  | some x => simp at hm; exact h (by rw [hm])
theorem only_step {w wr w4 w5 : World} {o o2 : Option Nat} (h1 : Only o.toList w wr) (h2 : Below wr.heap.size wr w4) (h3 : Only o2.toList w4 w5) (ho : o2 = o ∨ ∃ z, o2 = some z ∧ w.heap.size ≤ z) : Only o.toList w w5 := by
  have hs1 := h1.size
  have hs2 := h2.size
  refine ⟨h3.os.trans (h2.os.trans h1.os), h3.tape.trans (h2.tape.trans h1.tape), h3.output.trans (h2.output.trans h1.output), Nat.le_trans hs1 (Nat.le_trans hs2 h3.size), fun k hk hn => ?_⟩
  rw [h3.block k (by omega) ?_, h2.block k (by omega), h1.block k hk hn]
  rcases ho with rfl | ⟨z, rfl, hz⟩
  · exact hn
  · intro hm; simp at hm; omega

/-- What a call that adds rows leaves. -/
structure Adds (v : Value) (w : World) (R : List (Nat × Nat)) (v' : Value) (w' : World) (R' : List (Nat × Nat)) (hg : Option Nat) : Prop where
  only : Only v.ownBlock.toList w w'
  own : v'.ownBlock = v.ownBlock ∨ ∃ z, v'.ownBlock = some z ∧ w.heap.size ≤ z
  rows : ∀ g, g ∈ blks R' → g ∈ blks R ∨ hg = some g ∨ w.heap.size ≤ g

end Go.Proofs.YtenpcjmhlnalcaaGreat

/-! WALKS: the cursor over the bytes of a draw: what it hands back is in range; it changes its own block alone. -/

namespace Go.Proofs.YtenpcjmhlnalcaaGreat
open Go.RowKit

/-- A slice of n bytes, none of them in block B. -/
def Bytes (w : World) (a : Option Addr) (n : Nat) (B : Nat) : Prop := ∀ j, j < n → ∃ b o x : Nat, a = some ⟨b, o, none⟩ ∧ b ≠ B ∧ x ≤ 255 ∧ w.cell? ⟨b, o + j, none⟩ = some (.int .u8 (x : Int))

/-- A cursor in block B over n bytes. -/
structure Cur (w : World) (B : Nat) (a : Option Addr) (n c : Nat) : Prop where
  c0 : w.cell? ⟨B, 0, none⟩ = some (.slice a n c)
  c1 : ∃ i : Nat, i ≤ n ∧ w.cell? ⟨B, 1, none⟩ = some (.int .i64 (i : Int))
  c2 : ∃ h : Int, w.cell? ⟨B, 2, none⟩ = some (.int .i64 h)
  fr : ∀ j, w.frozen? ⟨B, j, none⟩ = false
  bs : Bytes w a n B

theorem Bytes.of_but {w w' : World} {a : Option Addr} {n B : Nat} (h : Bytes w a n B) (hg : w.grownBy w' (some B)) : Bytes w' a n B := fun j hj => by
  obtain ⟨b, o, x, e, hb, hx, hc⟩ := h j hj
  exact ⟨b, o, x, e, hb, hx, by rw [hg.cell_far ⟨b, o + j, none⟩ (World.block_lt_of_cell? w _ hc) (by simpa using hb)]; exact hc⟩

theorem Cur.set1 {w : World} {B : Nat} {a : Option Addr} {n c : Nat} (h : Cur w B a n c) (i : Nat) (hi : i ≤ n) : Cur (w.setCell ⟨B, 1, none⟩ (.int .i64 (i : Int))) B a n c := by
  obtain ⟨c0, ⟨i0, _, c1⟩, ⟨h2, c2⟩, fr, bs⟩ := h
  refine ⟨?_, ⟨i, hi, World.cell?_setCell_same _ _ _ c1⟩, ⟨h2, ?_⟩, fun j => ?_, bs.of_but (Mem.but_setCell _ _ _ _)⟩
  · rw [World.cell?_setCell_other _ _ _ _ (by simp)]; exact c0
  · rw [World.cell?_setCell_other _ _ _ _ (by simp)]; exact c2
  · rw [World.frozen?_setCell]; exact fr j
theorem Cur.set2 {w : World} {B : Nat} {a : Option Addr} {n c : Nat} (h : Cur w B a n c) (v : Int) : Cur (w.setCell ⟨B, 2, none⟩ (.int .i64 v)) B a n c := by
  obtain ⟨c0, ⟨i0, hi, c1⟩, ⟨h2, c2⟩, fr, bs⟩ := h
  refine ⟨?_, ⟨i0, hi, ?_⟩, ⟨v, World.cell?_setCell_same _ _ _ c2⟩, fun j => ?_, bs.of_but (Mem.but_setCell _ _ _ _)⟩
  · rw [World.cell?_setCell_other _ _ _ _ (by simp)]; exact c0
  · rw [World.cell?_setCell_other _ _ _ _ (by simp)]; exact c1
  · rw [World.frozen?_setCell]; exact fr j
theorem Cur.drewN {w : World} {B : Nat} {a : Option Addr} {n c : Nat} (h : Cur w B a n c) (m : Nat) : Cur (w.drewN m) B a n c := ⟨h.c0, h.c1, h.c2, h.fr, h.bs⟩

theorem wrap_small (y : Nat) (h : y ≤ 4294967295) : IntKind.i64.wrap (y : Int) = (y : Int) := by
  rw [IntWalk.i64_in _ (by omega)]
theorem and255 (z : Int) : ∃ x : Nat, x ≤ 255 ∧ bits BinOp.and IntKind.i64 z 255 = (x : Int) := by
  have h : (BitVec.ofInt 64 z &&& BitVec.ofInt 64 255).toNat ≤ 255 := by
    rw [BitVec.toNat_and]; exact Nat.le_trans Nat.and_le_right (by decide)
  refine ⟨_, h, ?_⟩
  show IntKind.i64.wrap ((BitVec.ofInt 64 z &&& BitVec.ofInt 64 255).toNat : Int) = _
  exact wrap_small _ (Nat.le_trans h (by decide))

set_option maxRecDepth 100000 in
set_option maxHeartbeats 2000000 in
theorem byte_any (B : Nat) (a : Option Addr) (n c : Nat) (hn : n ≤ 140737488355328) (w : World) (hc : Cur w B a n c) :
    Calls Tryz.prog 77 #[.pointer (some ⟨B, 0, none⟩)] w fun e w' => ∃ x : Nat, x ≤ 255 ∧ e = .returned (.int .i64 (x : Int)) ∧ Cur w' B a n c ∧ w.grownBy w' (some B) := by
  have HC := Lib.hid hc
  obtain ⟨c0, ⟨i, hi, c1⟩, ⟨h, c2⟩, fr, bs⟩ := hc
  have f2 := fr 2
  clear bs fr c0 c1 hi i
  go_enter Tryz.func77, Tryz.ntmps77
  go_wp2_with fail
  generalize wrap64 (wrap64 (h * 6364136223846793005) + 1442695040888963407) = v
  generalize wrap64 (h * 6364136223846793005) = v'
  have HC1 := Lib.hid (HC.out.set2 v)
  have HG1 := Lib.hid (Mem.but_setCell w B 2 (.int .i64 v))
  clear c2 f2 HC
  generalize w.setCell ⟨B, 2, none⟩ (.int .i64 v) = w1 at *
  obtain ⟨c0, ⟨i, hi, c1⟩, ⟨h2, c2⟩, fr, bs⟩ := HC1.out
  have f1 := fr 1
  have BS := Lib.hid bs
  clear fr bs
  go_quiet (fail)
  obtain ⟨x, hx, ex⟩ := and255 (bits BinOp.xor IntKind.i64 (h2 / 8589934592) (h2 / 35184372088832))
  rw [ex]
  clear ex
  generalize bits BinOp.xor IntKind.i64 (h2 / 8589934592) (h2 / 35184372088832) = z1
  generalize h2 / 8589934592 = z2
  generalize h2 / 35184372088832 = z3
  have c0 : (w1.drewN nq).cell? ⟨B, 0, none⟩ = some (.slice a n c) := c0
  have c1 : (w1.drewN nq).cell? ⟨B, 1, none⟩ = some (.int .i64 (i : Int)) := c1
  have f1 : (w1.drewN nq).frozen? ⟨B, 1, none⟩ = false := f1
  have HC2 := Lib.hid (HC1.out.drewN nq)
  have HG2 := Lib.hid (HG1.out.trans (Mem.but_of_below (Mem.below_drewN w1 nq) _))
  clear HC1 HG1 BS c2
  generalize w1.drewN nq = w2 at *
  by_cases hlt : i < n
  · obtain ⟨b, o, y, rfl, hb, hy, g⟩ := HC2.out.bs i hlt
    go_wp2_with fail
    go_quiet (fail)
    have c0 : (w2.drewN nq).cell? ⟨B, 0, none⟩ = some (.slice (some ⟨b, o, none⟩) n c) := c0
    have c1 : (w2.drewN nq).cell? ⟨B, 1, none⟩ = some (.int .i64 (i : Int)) := c1
    have f1 : (w2.drewN nq).frozen? ⟨B, 1, none⟩ = false := f1
    have g : (w2.drewN nq).cell? ⟨b, o + i, none⟩ = some (.int .u8 (y : Int)) := g
    have HC3 := Lib.hid (HC2.out.drewN nq)
    have HG3 := Lib.hid (HG2.out.trans (Mem.but_of_below (Mem.below_drewN w2 nq) _))
    clear HC2 HG2
    generalize w2.drewN nq = w3 at *
    go_wp2_with fail
    go_quiet (fail)
    obtain ⟨x2, hx2, ex2⟩ := and255 ((x : Int) + (y : Int))
    rw [ex2]
    clear ex2
    have c0 : (w3.drewN nq).cell? ⟨B, 0, none⟩ = some (.slice (some ⟨b, o, none⟩) n c) := c0
    have c1 : (w3.drewN nq).cell? ⟨B, 1, none⟩ = some (.int .i64 (i : Int)) := c1
    have f1 : (w3.drewN nq).frozen? ⟨B, 1, none⟩ = false := f1
    have HC4 := Lib.hid (HC3.out.drewN nq)
    have HG4 := Lib.hid (HG3.out.trans (Mem.but_of_below (Mem.below_drewN w3 nq) _))
    clear HC3 HG3 g
    generalize w3.drewN nq = w4 at *
    go_wp2
    go_ret
    have hs := HC4.out.set1 (i + 1) (by omega)
    have hg := HG4.out.trans (Mem.but_setCell w4 B 1 (.int .i64 ((i + 1 : Nat) : Int)))
    rw [show ((i + 1 : Nat) : Int) = (i : Int) + 1 from by omega] at hs hg
    exact ⟨x2, hx2, rfl, hs, hg⟩
  · go_wp2_with fail
    go_quiet (fail)
    go_wp2
    go_ret
    exact ⟨x, hx, rfl, HC2.out.drewN _, HG2.out.trans (Mem.but_of_below (Mem.below_drewN w2 nq) _)⟩

/-- What a draw hands back: the cursor is as good as before; only its block has changed. -/
def Drew (w w' : World) (B : Nat) (a : Option Addr) (n c : Nat) : Prop := Cur w' B a n c ∧ w.grownBy w' (some B)
theorem Drew.trans {w w1 w2 : World} {B : Nat} {a : Option Addr} {n c : Nat} (h : Drew w w1 B a n c) (k : Drew w1 w2 B a n c) : Drew w w2 B a n c := ⟨k.1, h.2.trans k.2⟩

theorem mod_nat (x n : Nat) (hn : 0 < n) : ∃ r : Nat, r < n ∧ ((x : Int) % (n : Int)) = (r : Int) := ⟨x % n, Nat.mod_lt _ hn, by omega⟩

set_option maxRecDepth 100000 in
set_option maxHeartbeats 2000000 in
theorem below_any (B : Nat) (a : Option Addr) (n c : Nat) (hn : n ≤ 140737488355328) (m : Nat) (hm : 0 < m) (hm2 : m ≤ 4294967296) (w : World) (hc : Cur w B a n c) :
    Calls Tryz.prog 51 #[.pointer (some ⟨B, 0, none⟩), .int .i64 (m : Int)] w fun e w' => ∃ r : Nat, r < m ∧ e = .returned (.int .i64 (r : Int)) ∧ Drew w w' B a n c := by
  have HC := Lib.hid hc
  clear hc
  by_cases hs : m ≤ 256
  · go_enter Tryz.func51, Tryz.ntmps51
    go_wp2_with fail
    refine (byte_any B a n c hn _ HC.out).mono ?_
    rintro e w1 ⟨x, hx, rfl, hc1, hg1⟩
    have HC1 := Lib.hid hc1
    have HG1 := Lib.hid hg1
    clear hc1 hg1
    go_wp2
    go_ret
    obtain ⟨r, hr, er⟩ := mod_nat x m hm
    exact ⟨r, hr, by rw [← er]; rfl, HC1.out, HG1.out⟩
  · go_enter Tryz.func51, Tryz.ntmps51
    go_wp2_with fail
    refine (byte_any B a n c hn _ HC.out).mono ?_
    rintro e w1 ⟨x, hx, rfl, hc1, hg1⟩
    have D1 : Hid (Drew w w1 B a n c) := ⟨hc1, hg1⟩
    clear hc1 hg1
    go_wp2_with fail
    refine (byte_any B a n c hn _ D1.out.1).mono ?_
    rintro e w2 ⟨y, hy, rfl, hc1, hg1⟩
    have D2 : Hid (Drew w w2 B a n c) := D1.out.trans ⟨hc1, hg1⟩
    clear hc1 hg1 D1
    go_wp2_with fail
    refine (byte_any B a n c hn _ D2.out.1).mono ?_
    rintro e w3 ⟨z, hz, rfl, hc1, hg1⟩
    have D3 : Hid (Drew w w3 B a n c) := D2.out.trans ⟨hc1, hg1⟩
    clear hc1 hg1 D2
    go_wp2_with fail
    refine (byte_any B a n c hn _ D3.out.1).mono ?_
    rintro e w4 ⟨t, ht, rfl, hc1, hg1⟩
    have D4 : Hid (Drew w w4 B a n c) := D3.out.trans ⟨hc1, hg1⟩
    clear hc1 hg1 D3
    go_wp2
    go_ret
    obtain ⟨r, hr, er⟩ := mod_nat (x * 16777216 + y * 65536 + z * 256 + t) m hm
    have er' : (((x : Int) * 16777216 + (y : Int) * 65536 + (z : Int) * 256 + (t : Int)) % (m : Int)) = (r : Int) := by rw [← er]; simp
    exact ⟨r, hr, by rw [← er']; rfl, D4.out⟩

/-- A slice of n bytes. -/
def Code (w : World) (a : Option Addr) (n : Nat) : Prop := ∀ j, j < n → ∃ b o x : Nat, a = some ⟨b, o, none⟩ ∧ x ≤ 255 ∧ w.cell? ⟨b, o + j, none⟩ = some (.int .u8 (x : Int))
theorem Code.keeps {w w' : World} {a : Option Addr} {n : Nat} (h : Code w a n) (hb : Below w.heap.size w w') : Code w' a n := fun j hj => by
  obtain ⟨b, o, x, e, hx, hc⟩ := h j hj
  exact ⟨b, o, x, e, hx, by rw [hb.cell (p := ⟨b, o + j, none⟩) (World.block_lt_of_cell? w _ hc)]; exact hc⟩

theorem cur_new (w : World) (a : Option Addr) (n c : Nat) (h : Int) (hc : Code w a n) : Cur (w.alloc (.cells #[.slice a n c, .int .i64 0, .int .i64 h] 60)) w.heap.size a n c := by
  refine ⟨World.cell?_alloc_new w _ _ 0, ⟨0, Nat.zero_le _, World.cell?_alloc_new w _ _ 1⟩, ⟨h, World.cell?_alloc_new w _ _ 2⟩, fun j => World.frozen?_alloc_at _ _ _ _ rfl, fun j hj => ?_⟩
  obtain ⟨b, o, x, e, hx, hcell⟩ := hc j hj
  have hlt := World.block_lt_of_cell? w _ hcell
  exact ⟨b, o, x, e, by simp at hlt; omega, hx, by rw [World.cell?_alloc_lt _ _ _ hlt]; exact hcell⟩

set_option maxRecDepth 100000 in
set_option maxHeartbeats 2000000 in
/-- l1New: a cursor in a new block. -/
theorem new_any (a : Option Addr) (n c : Nat) (hn : n ≤ 140737488355328) (w : World) (hc : Code w a n) :
    Calls Tryz.prog 30 #[.slice a n c] w fun e w' => e = .returned (.pointer (some ⟨w.heap.size, 0, none⟩)) ∧ Cur w' w.heap.size a n c ∧ w.heap.size < w'.heap.size ∧ Below w.heap.size w w' := by
  have HC := Lib.hid hc
  clear hc
  go_enter Tryz.func30, Tryz.ntmps30
  go_wp2
  go_loop [3, 4] (fun h i => ∃ (k : Nat) (v : Int), k ≤ n ∧ i = .int .i64 (k : Int) ∧ h = .int .i64 v) (fun _ i => n - (intOf i).toNat)
  case atStart => exact ⟨0, _, Nat.zero_le _, rfl, rfl⟩
  case round =>
    obtain ⟨k, v, hk, rfl, rfl⟩ := hrel
    by_cases hlt : k < n
    · by_cases h4 : k < 4000
      · obtain ⟨b, o, x, rfl, hx, g⟩ := HC.out k hlt
        go_wp2
        go_round
        case rel => exact ⟨k + 1, _, by omega, by go_num, rfl⟩
        case measure => simp [intOf]; omega
      · go_wp2
        go_ret
        exact ⟨rfl, cur_new _ _ _ _ _ HC.out, by simp, (Below.refl _ _).alloc (Nat.le_refl _) _⟩
    · go_wp2
      go_ret
      exact ⟨rfl, cur_new _ _ _ _ _ HC.out, by simp, (Below.refl _ _).alloc (Nat.le_refl _) _⟩

end Go.Proofs.YtenpcjmhlnalcaaGreat
