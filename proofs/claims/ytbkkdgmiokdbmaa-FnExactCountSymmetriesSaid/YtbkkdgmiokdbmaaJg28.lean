/-
  TEXTS of one claim, put together: Mx, Seq, WNamS5, Mx2.
-/
import Derived.Test.YtbkkdgmiokdbmaaHas
import Derived.Test.YtbkkdgmiokdbmaaJg4
import Derived.RangeFuncRecord
import Derived.RangeFuncSeq
import Derived.RangeFuncLeaves
import Derived.RangeFuncCalls
import Derived.Test.YtbkkdgmiokdbmaaJg23
import Derived.Laws.OwnMore
import Derived.Deep.AppendLies
import Derived.Maps.AppendAt
/-! MEMORY: a matrix of numbers: a slice of slices, each row in a block of its own; a call that writes into some blocks alone. -/

namespace Go.Proofs.Ytbkkdgmiokdbmaa
open Go.RowKit

/-- Only the blocks G are written; new ones may come. -/
structure Only (G : List Nat) (w w' : World) : Prop where
  os : w'.os = w.os
  tape : w'.tape = w.tape
  output : w'.output = w.output
  size : w.heap.size ≤ w'.heap.size
  block : ∀ k, k < w.heap.size → k ∉ G → w'.heap[k]? = w.heap[k]?
theorem Only.refl (G : List Nat) (w : World) : Only G w w := ⟨rfl, rfl, rfl, Nat.le_refl _, fun _ _ _ => rfl⟩
theorem Only.trans {G : List Nat} {a b c : World} (h : Only G a b) (k : Only G b c) : Only G a c :=
  ⟨k.os.trans h.os, k.tape.trans h.tape, k.output.trans h.output, Nat.le_trans h.size k.size, fun i hi hn => (k.block i (Nat.lt_of_lt_of_le hi h.size) hn).trans (h.block i hi hn)⟩
theorem Only.set (G : List Nat) (w : World) {b : Nat} (o : Nat) (hb : b ∈ G) (v : Value) : Only G w (w.setCell ⟨b, o, none⟩ v) := by
  refine ⟨rfl, rfl, rfl, by simp [World.setCell], fun k _ hk => ?_⟩
  simp only [World.setCell, Array.getElem?_modify]
  rw [if_neg (fun e => hk (by rw [← e]; exact hb))]
theorem Only.of_below {w w' : World} (G : List Nat) (h : Below w.heap.size w w') : Only G w w' := ⟨h.os, h.tape, h.output, h.size, fun k hk _ => h.block k hk⟩
theorem Only.below {B : Nat} {G : List Nat} {w w' : World} (h : Only G w w') (hG : ∀ g, g ∈ G → B ≤ g) (hB : B ≤ w.heap.size) : Below B w w' :=
  ⟨h.os, h.tape, h.output, h.size, fun k hk => h.block k (by omega) fun hm => by have := hG k hm; omega⟩
theorem Only.drew {G : List Nat} {w w' : World} (h : Only G w w') : Only G w w'.drew := ⟨h.os, h.tape, h.output, h.size, h.block⟩
theorem IntsAt.only {w w' : World} {G : List Nat} {g : Nat} {a : Option Addr} {xs : List Int} (h : IntsAt w g a xs) (k : Only G w w') (hg : g ∉ G) : IntsAt w' g a xs := fun j hj => by
  obtain ⟨h1, h2, h3, h4⟩ := h j hj
  have hb := k.block g h2 hg
  exact ⟨h1, Nat.lt_of_lt_of_le h2 k.size, by rw [World.cell?_of_block (w := w) hb]; exact h3, by rw [World.frozen?_of_block (w := w) hb]; exact h4⟩

abbrev blk (R : List (Nat × Nat)) (i : Nat) : Nat := (R.getD i (0, 0)).1
abbrev room (R : List (Nat × Nat)) (i : Nat) : Nat := (R.getD i (0, 0)).2
abbrev blks (R : List (Nat × Nat)) : List Nat := R.map (·.1)
theorem blk_mem {R : List (Nat × Nat)} {i : Nat} (h : i < R.length) : blk R i ∈ blks R := by
  refine List.mem_map.2 ⟨R[i], List.getElem_mem h, ?_⟩
  simp [blk, List.getD, List.getElem?_eq_getElem h]
theorem blk_inj {R : List (Nat × Nat)} (hn : (blks R).Nodup) {i k : Nat} (hi : i < R.length) (hk : k < R.length) (h : blk R i = blk R k) : i = k := by
  have e : ∀ j, (hj : j < R.length) → blk R j = (blks R)[j]'(by simpa using hj) := fun j hj => by simp [blk, blks, List.getD, List.getElem?_eq_getElem hj]
  rw [e i hi, e k hk] at h
  exact (List.getElem_inj hn).1 h

/-- A matrix: the outer slice in the block go, its rows in the blocks of R. -/
structure Mx (w : World) (go : Nat) (ao : Option Addr) (R : List (Nat × Nat)) (M : Lin.Mat) : Prop where
  len : R.length = M.length
  nodup : (blks R).Nodup
  out : ∀ i, i < M.length → ao = some ⟨go, 0, none⟩ ∧ go < w.heap.size ∧ w.cell? ⟨go, i, none⟩ = some (.slice (some ⟨blk R i, 0, none⟩) (Lin.row M i).length (room R i)) ∧ w.frozen? ⟨go, i, none⟩ = false
  rows : ∀ i, i < M.length → blk R i < w.heap.size ∧ IntsAt w (blk R i) (some ⟨blk R i, 0, none⟩) (Lin.row M i)
  apart : go ∉ blks R

theorem Mx.keeps {w w' : World} {go : Nat} {ao : Option Addr} {R : List (Nat × Nat)} {M : Lin.Mat} (h : Mx w go ao R M) (hb : Below w.heap.size w w') : Mx w' go ao R M := by
  refine ⟨h.len, h.nodup, fun i hi => ?_, fun i hi => ?_, h.apart⟩
  · obtain ⟨h1, h2, h3, h4⟩ := h.out i hi
    exact ⟨h1, Nat.lt_of_lt_of_le h2 hb.size, by rw [hb.cell (p := ⟨go, i, none⟩) h2]; exact h3, by rw [hb.frozen (p := ⟨go, i, none⟩) h2]; exact h4⟩
  · obtain ⟨h1, h2⟩ := h.rows i hi
    exact ⟨Nat.lt_of_lt_of_le h1 hb.size, h2.keeps hb⟩
theorem Mx.drew {w : World} {go : Nat} {ao : Option Addr} {R : List (Nat × Nat)} {M : Lin.Mat} (h : Mx w go ao R M) : Mx w.drew go ao R M := ⟨h.len, h.nodup, h.out, h.rows, h.apart⟩
theorem Mx.cell {w : World} {go : Nat} {ao : Option Addr} {R : List (Nat × Nat)} {M : Lin.Mat} (h : Mx w go ao R M) {i : Nat} (hi : i < M.length) : w.cell? ⟨go, i, none⟩ = some (.slice (some ⟨blk R i, 0, none⟩) (Lin.row M i).length (room R i)) := (h.out i hi).2.2.1
theorem Mx.ent {w : World} {go : Nat} {ao : Option Addr} {R : List (Nat × Nat)} {M : Lin.Mat} (h : Mx w go ao R M) {i j : Nat} (hi : i < M.length) (hj : j < (Lin.row M i).length) : w.cell? ⟨blk R i, j, none⟩ = some (.int .i64 (Lin.ent M i j)) := ((h.rows i hi).2 j hj).2.2.1
theorem Mx.soft {w : World} {go : Nat} {ao : Option Addr} {R : List (Nat × Nat)} {M : Lin.Mat} (h : Mx w go ao R M) {i j : Nat} (hi : i < M.length) (hj : j < (Lin.row M i).length) : w.frozen? ⟨blk R i, j, none⟩ = false := ((h.rows i hi).2 j hj).2.2.2

theorem row_set (M : Lin.Mat) (i k : Nat) (r : List Int) (hi : i < M.length) : Lin.row (M.set i r) k = if k = i then r else Lin.row M k := by
  unfold Lin.row
  simp only [List.getD, List.getElem?_set]
  by_cases e : k = i
  · subst e; simp [hi]
  · rw [if_neg (fun h => e h.symm), if_neg e]

theorem IntsAt.setOwn {w : World} {g : Nat} {a : Option Addr} {xs : List Int} (h : IntsAt w g a xs) (j : Nat) (x : Int) : IntsAt (w.setCell ⟨g, j, none⟩ (.int .i64 x)) g a (xs.set j x) := fun k hk => by
  rw [List.length_set] at hk
  obtain ⟨h1, h2, h3, h4⟩ := h k hk
  refine ⟨h1, by simpa [World.setCell] using h2, ?_, by rw [World.frozen?_setCell]; exact h4⟩
  by_cases e : k = j
  · subst e
    rw [World.cell?_setCell_same _ _ _ h3]
    simp [List.getD, hk]
  · rw [World.cell?_setCell_other _ _ _ _ (by simp), h3]
    simp [List.getD, Ne.symm e]

/-- One number of one row is written. -/
theorem Mx.set {w : World} {go : Nat} {ao : Option Addr} {R : List (Nat × Nat)} {M : Lin.Mat} (h : Mx w go ao R M) {i : Nat} (hi : i < M.length) (j : Nat) (x : Int) : Mx (w.setCell ⟨blk R i, j, none⟩ (.int .i64 x)) go ao R (M.set i ((Lin.row M i).set j x)) := by
  have hiR : i < R.length := by rw [h.len]; exact hi
  have hne : go ≠ blk R i := fun e => h.apart (e ▸ blk_mem hiR)
  have hlen : ∀ k, (Lin.row (M.set i ((Lin.row M i).set j x)) k).length = (Lin.row M k).length := fun k => by
    rw [row_set M i k _ hi]
    by_cases e : k = i
    · rw [if_pos e, List.length_set, e]
    · rw [if_neg e]
  refine ⟨by rw [List.length_set]; exact h.len, h.nodup, fun k hk => ?_, fun k hk => ?_, h.apart⟩
  · rw [List.length_set] at hk
    obtain ⟨h1, h2, h3, h4⟩ := h.out k hk
    refine ⟨h1, by simpa [World.setCell] using h2, ?_, by rw [World.frozen?_setCell]; exact h4⟩
    rw [World.cell?_setCell_other _ _ _ _ (fun e => hne (congrArg Addr.block e).symm), hlen]; exact h3
  · rw [List.length_set] at hk
    obtain ⟨h1, h2⟩ := h.rows k hk
    refine ⟨by simpa [World.setCell] using h1, ?_⟩
    rw [row_set M i k _ hi]
    by_cases e : k = i
    · rw [if_pos e]; subst e; exact h2.setOwn j x
    · rw [if_neg e]
      exact h2.only (G := [blk R i]) (Only.set _ w j (by simp) _) (by
        rw [List.mem_singleton]; intro e'; exact e (blk_inj h.nodup (by rw [h.len]; exact hk) hiR e'))

/-- A row that is written number by number, j of them so far. -/
def mix (new old : List Int) (j : Nat) : List Int := new.take j ++ old.drop j
theorem mix_zero (new old : List Int) : mix new old 0 = old := rfl
theorem mix_length {new old : List Int} (h : new.length = old.length) (j : Nat) : (mix new old j).length = old.length := by unfold mix; simp; omega
theorem mix_end {new old : List Int} (h : new.length = old.length) {j : Nat} (hj : old.length ≤ j) : mix new old j = new := by
  unfold mix; rw [List.take_of_length_le (by omega), List.drop_eq_nil_of_le hj, List.append_nil]
theorem mix_at {new old : List Int} (h : new.length = old.length) {j : Nat} (hj : j < old.length) : (mix new old j).getD j 0 = old.getD j 0 := by
  unfold mix
  simp only [List.getD]
  rw [List.getElem?_append_right (by simp; omega)]
  simp [List.getElem?_drop, show j - min j new.length = 0 by omega]
theorem mix_step {new old : List Int} (h : new.length = old.length) {j : Nat} (hj : j < old.length) : (mix new old j).set j (new.getD j 0) = mix new old (j + 1) := by
  unfold mix
  apply List.ext_getElem?
  intro k
  rw [List.getElem?_set]
  by_cases e : j = k
  · subst e
    rw [if_pos rfl, if_pos (by simp; omega), List.getElem?_append_left (by simp; omega), List.getElem?_take_of_lt (by omega)]
    simp [List.getD, List.getElem?_eq_getElem (h ▸ hj : j < new.length)]
  · rw [if_neg e]
    by_cases e2 : k < j
    · rw [List.getElem?_append_left (by simp; omega), List.getElem?_append_left (by simp; omega), List.getElem?_take_of_lt e2, List.getElem?_take_of_lt (by omega)]
    · rw [List.getElem?_append_right (by simp; omega), List.getElem?_append_right (by simp; omega), List.getElem?_drop, List.getElem?_drop]
      congr 1
      simp; omega

theorem set_set_mix (M : Lin.Mat) (i : Nat) (a b : List Int) : (M.set i a).set i b = M.set i b := by rw [List.set_set]

/-- The next number of a row is written. -/
theorem Mx.step {w : World} {go : Nat} {ao : Option Addr} {R : List (Nat × Nat)} {M : Lin.Mat} {i j : Nat} {new old : List Int} (h : Mx w go ao R (M.set i (mix new old j))) (hi : i < M.length) (hl : new.length = old.length) (hj : j < old.length) {x : Int} (hx : new.getD j 0 = x) :
    Mx (w.setCell ⟨blk R i, j, none⟩ (.int .i64 x)) go ao R (M.set i (mix new old (j + 1))) := by
  have := h.set (i := i) (by rw [List.length_set]; exact hi) j x
  rw [row_set M i i _ hi, if_pos rfl, ← hx, mix_step hl hj, List.set_set, hx] at this
  exact this

end Go.Proofs.Ytbkkdgmiokdbmaa

/-! RANGES OVER A FUNCTION, of no program: the iterator writes slices in blocks of its own between two rounds; a round reads the slice that it is handed, writes its caller's boxes alone, and never leaves early. -/

namespace Go.Proofs.Ytbkkdgmiokdbmaa
open Go.RowKit

theorem Only.put {G : List Nat} {b : Nat} (hb : b ∈ G) (w : World) (o : Obj) : Only G w (w.putObj b o) :=
  ⟨rfl, rfl, rfl, by simp, fun _ _ hk => World.putObj_heap_other (fun e => hk (by rw [e]; exact hb))⟩
theorem Only.wider {G G' : List Nat} {w w' : World} (h : Only G w w') (hs : ∀ x, x ∈ G → x ∈ G') : Only G' w w' :=
  ⟨h.os, h.tape, h.output, h.size, fun k hk hn => h.block k hk fun hm => hn (hs k hm)⟩
theorem Only.new (G : List Nat) (w : World) (o : Obj) : Only G w (w.alloc o) := Only.of_below G ((Below.refl _ w).alloc (Nat.le_refl _) o)

/-- A slice that reads as xs, in a block from base on (whatever block where there are none). -/
def Row (W : World) (base : Nat) (v : Value) (xs : List Int) : Prop := ∃ a c g, v = .slice a xs.length c ∧ xs.length ≤ c ∧ base ≤ g ∧ IntsAt W g a xs
theorem Row.only {W W' : World} {base : Nat} {v : Value} {xs : List Int} {G : List Nat} (h : Row W base v xs) (k : Only G W W') (hG : ∀ x, x ∈ G → x < base) : Row W' base v xs := by
  obtain ⟨a, c, g, h1, h2, h3, h4⟩ := h
  exact ⟨a, c, g, h1, h2, h3, h4.only k fun hm => by have := hG g hm; omega⟩
theorem Row.lower {W : World} {base b : Nat} {v : Value} {xs : List Int} (h : Row W base v xs) (hb : b ≤ base) : Row W b v xs := by
  obtain ⟨a, c, g, h1, h2, h3, h4⟩ := h
  exact ⟨a, c, g, h1, h2, by omega, h4⟩

/-- What is said of a world while k rounds are over bears what the iterator does: it writes the blocks M that are its own; new ones may be its own, too. -/
def Bears (J : Nat → List Nat → World → Prop) : Prop :=
  ∀ k M M' W W', J k M W → Only M' W W' → (∀ x, x ∈ M' → x ∈ M ∨ W.heap.size ≤ x) → J k M' W'
theorem bears_below (B : Nat) (w : World) : Bears fun _ M W => (∀ x, x ∈ M → B ≤ x) ∧ B ≤ W.heap.size ∧ Below B w W :=
  fun _ M M' W W' ⟨h1, h2, h3⟩ ho hM => by
    have h4 : ∀ x, x ∈ M' → B ≤ x := fun x hx => (hM x hx).elim (h1 x) fun h => Nat.le_trans h2 h
    exact ⟨h4, Nat.le_trans h2 ho.size, h3.trans (ho.below h4 h2)⟩
theorem Bears.and {I J : Nat → List Nat → World → Prop} (h : Bears I) (k : Bears J) : Bears fun n M W => I n M W ∧ J n M W :=
  fun n M M' W W' hs ho hM => ⟨h n M M' W W' hs.1 ho hM, k n M M' W W' hs.2 ho hM⟩

/-- THE ITERATOR's CONTRACT: the function gf with what it has captured hands the slices NS to yield, one by one. -/
def SeqO (P : Program) (gf : FuncId) (lb : Array Value) (NS : List (List Int)) (Pre : Nat → List Nat → World → Prop) : Prop :=
  ∀ (l : Nat) (G : List Nat) (J : Nat → List Nat → World → Prop) (W : World), Pre l G W → l < W.heap.size → (∀ x, x ∈ G → x < W.heap.size) → Bears J →
    (∀ m k M W1 v xs, J k M W1 → NS[k]? = some xs → (∀ x, x ∈ M → W.heap.size ≤ x ∧ x < W1.heap.size) → Row W1 W.heap.size v xs →
      YieldAt Fence.wide m P l #[v] W1 fun e W' => e = .returned (.bool true) ∧ J (k + 1) M W' ∧ Only (l :: G) W1 W') →
    J 0 [] W → ∀ m, CallsIn Fence.wide m P gf (#[.func (.yield l) #[] #[]] ++ lb) W fun e W' => (∃ v, e = .returned v) ∧ ∃ M, J NS.length M W' ∧ ∀ x, x ∈ M → W.heap.size ≤ x

theorem heap_lt {w : World} {k : Nat} {o : Obj} (h : w.heap[k]? = some o) : k < w.heap.size := (Array.getElem?_eq_some_iff.1 h).1

/-- THE STATEMENT 'for x := range seq { .. }', at a call of its own. -/
theorem wp_seq {P : Program} {n : Nat} {g : Operand} {ps : Array Tmp} {assign body : Code} {Q : Exit → Act → World → Prop} {a : Act} {w : World} {gf : FuncId} {lb : Array Value} {NS : List (List Int)} {Pre : Nat → List Nat → World → Prop}
    (hseq : SeqO P gf lb NS Pre) (hg : a.eval g = .func (.func gf) #[] lb) (eg : ∀ args w, (callFunc gf args).run P w = .ok (.enter gf args) w) (hps : ps.size = 1)
    (G : List Nat) (hG : ∀ x, x ∈ G → x < w.heap.size) (hpre : ∀ o1 o2, Pre (w.heap.size + 1) G ((w.alloc o1).alloc o2))
    (I : Nat → List Nat → World → Prop) (hI : Bears I) (h0 : I 0 [] w)
    (hround : ∀ l m k M v xs W, NS[k]? = some xs → assign.wpIn (Fence.wide.inRound l) m P (Exit.then (fun a' W' => W' = W ∧ ∀ W2, I k M W2 → (∀ x, x ∈ M → w.heap.size ≤ x ∧ x < W2.heap.size) → Row W2 (w.heap.size + 2) v xs → w.heap.size + 2 ≤ W2.heap.size →
      body.wpIn (Fence.wide.inRound l) m P (fun e _ W3 => e = .normal ∧ Only G W2 W3 ∧ I (k + 1) M W3) a' W2) fun _ _ _ => False) { tmps := (ps.zip #[v]).foldl (fun t (p, v) => t.setIfInBounds p v) a.tmps, defers := [] } W)
    (hdone : ∀ D M W, w.heap.size ≤ D → (∀ x, x ∈ M → w.heap.size ≤ x) → D ∈ M → I NS.length M W → W.heap[D]? = some (.deferred (some [])) → Q .normal { a with defers := { target := .collected D, args := #[] } :: a.defers } W) :
    (Code.rangeFunc g ps assign body).wpIn Fence.wide n P Q a w := by
  refine wpIn_rangeFunc fun fn hfn => ?_
  obtain ⟨B, hB⟩ : ∃ B, B = w.heap.size := ⟨_, rfl⟩
  obtain ⟨rec, hrec⟩ : ∃ rec : LoopState → Option Code → Loop, rec = fun st pe => { state := st, pending := pe, fn, tmps := a.tmps, params := ps, assign, body, defers := w.heap.size } := ⟨_, rfl⟩
  obtain ⟨W1, hW1⟩ : ∃ W1, (w.alloc (.deferred (some []))).alloc (.loop (rec .ready none)) = W1 := ⟨_, rfl⟩
  have hs1 : W1.heap.size = B + 2 := by rw [← hW1, hB]; simp
  have hl1 : W1.heap[B + 1]? = some (.loop (rec .ready none)) := by
    have := World.alloc_heap_new (w.alloc (.deferred (some []))) (.loop (rec .ready none))
    rwa [World.size_alloc, hW1, ← hB] at this
  have hd1 : W1.heap[B]? = some (.deferred (some [])) := by
    rw [← hW1, hB]
    exact (Below.heap_alloc _ _ _ (by simp)).trans (World.alloc_heap_new w _)
  have hw1 : Only [B + 1, B] w W1 := by rw [← hW1]; exact (Only.new _ w _).trans (Only.new _ _ _)
  -- what is said between two rounds
  obtain ⟨J, hJ⟩ : ∃ J : Nat → List Nat → World → Prop, J = fun k M W => I k ((B + 1) :: B :: M) W ∧ (∀ x, x ∈ M → B + 2 ≤ x) ∧ W.heap[B + 1]? = some (.loop (rec .ready none)) ∧ W.heap[B]? = some (.deferred (some [])) := ⟨_, rfl⟩
  have hbj : Bears J := by
    rw [hJ]
    rintro k M M' W W' ⟨h1, h2, h3, h4⟩ ho hM
    have e1 := heap_lt h3
    have h5 : ∀ x, x ∈ M' → B + 2 ≤ x := fun x hx => (hM x hx).elim (h2 x) fun h => by omega
    refine ⟨hI k _ _ W W' h1 (ho.wider fun x hx => List.mem_cons_of_mem _ (List.mem_cons_of_mem _ hx)) fun x hx => ?_, h5, ?_, ?_⟩
    · rcases List.mem_cons.1 hx with rfl | hx
      · exact .inl (List.mem_cons_self ..)
      rcases List.mem_cons.1 hx with rfl | hx
      · exact .inl (List.mem_cons_of_mem _ (List.mem_cons_self ..))
      · exact (hM x hx).imp (fun h => List.mem_cons_of_mem _ (List.mem_cons_of_mem _ h)) fun h => h
    · rw [ho.block _ e1 fun hm => by have := h5 _ hm; omega]; exact h3
    · rw [ho.block _ (by omega) fun hm => by have := h5 _ hm; omega]; exact h4
  have hj0 : J 0 [] W1 := by
    rw [hJ]
    refine ⟨hI 0 [] _ w W1 h0 hw1 fun x hx => .inr ?_, fun x hx => absurd hx (List.not_mem_nil), hl1, hd1⟩
    rcases List.mem_cons.1 hx with rfl | hx
    · omega
    · rw [List.mem_singleton.1 hx]; omega
  have hp1 : Pre (B + 1) G W1 := by rw [← hW1, hB]; exact hpre _ _
  have hcall := hseq (B + 1) G J W1 hp1 (by omega) (fun x hx => by have := hG x hx; omega) hbj ?_ hj0 (n - 1)
  · refine ⟨B + 1, [{ target := .collected B, args := #[] }], W1, { target := .fn (.func gf) lb, args := #[.func (.yield (B + 1)) #[] #[]] }, W1, gf, #[.func (.yield (B + 1)) #[] #[]] ++ lb, W1, ?_, ?_, ?_, ?_, ?_, ?_⟩
    · rw [← hW1, hrec, hB]; exact run_enterLoop_outer _ _ _ _ _
    · simp only [resolve, hg]
      simp [go_sem]
    · intro _ _; exact trivial
    · simp [invoke, go_sem, eg]
    · intro h; cases h
    · refine hcall.mono ?_
      rintro e W2 ⟨⟨v, rfl⟩, M, hm, hM⟩
      rw [hJ] at hm
      obtain ⟨h1, h2, h3, h4⟩ := hm
      have he := run_endLoop (P := P) h3 (by rw [hrec]; simp)
      rw [hrec] at he
      refine ⟨none, _, he, ?_⟩
      have hput := Only.put (G := (B + 1) :: B :: M) (List.mem_cons_self ..) W2 (.loop { rec .ready none with state := .exhausted })
      refine hdone B ((B + 1) :: B :: M) _ (by omega) (fun x hx => ?_) (List.mem_cons_of_mem _ (List.mem_cons_self ..)) (hI _ _ _ _ _ h1 (by rw [hrec] at hput; exact hput) fun x hx => .inl hx) ((World.putObj_heap_other (by omega)).trans h4)
      rcases List.mem_cons.1 hx with rfl | hx
      · omega
      rcases List.mem_cons.1 hx with rfl | hx
      · omega
      · have := h2 x hx; omega
  · -- one round
    intro m k M W v xs hjk hk hM hv
    rw [hJ] at hjk
    obtain ⟨h1, h2, h3, h4⟩ := hjk
    have e1 := heap_lt h3
    have hy := run_yield (P := P) (args := #[v]) h3 (by rw [hrec]; simp [hps])
    refine ⟨fn, _, assign, body, by rw [hy, hrec], roundIn_of_wpIn hfn (wpIn_mono (hround (B + 1) m k ((B + 1) :: B :: M) v xs W hk) ?_)⟩
    rintro e a1 Wa hp
    have hp : e = .normal ∧ Wa = W ∧ ∀ W2, I k ((B + 1) :: B :: M) W2 → (∀ x, x ∈ (B + 1) :: B :: M → w.heap.size ≤ x ∧ x < W2.heap.size) → Row W2 (w.heap.size + 2) v xs → w.heap.size + 2 ≤ W2.heap.size →
        body.wpIn (Fence.wide.inRound (B + 1)) m P (fun e _ W3 => e = .normal ∧ Only G W2 W3 ∧ I (k + 1) ((B + 1) :: B :: M) W3) a1 W2 := by
      cases e <;> first | exact ⟨rfl, hp⟩ | exact hp.elim
    obtain ⟨rfl, hw, hbody⟩ := hp
    have hw := hw.symm
    subst hw
    obtain ⟨busy, hbusy⟩ : ∃ busy : Obj, busy = .loop { rec .ready none with state := .busy } := ⟨_, rfl⟩
    have hb := run_beginRound (P := P) h3 (by rw [hrec])
    rw [← hbusy] at hb
    refine ⟨_, hb, ?_⟩
    have hl2 : (W.putObj (B + 1) busy).heap[B + 1]? = some busy := World.putObj_heap_same e1
    have ho2 : Only [B + 1] W (W.putObj (B + 1) busy) := Only.put (List.mem_singleton.2 rfl) W busy
    rw [hs1] at hv
    have hM2 : ∀ x, x ∈ ((B + 1) :: B :: M) → w.heap.size ≤ x ∧ x < (W.putObj (B + 1) busy).heap.size := fun x hx => by
      rw [World.putObj_size]
      rcases List.mem_cons.1 hx with rfl | hx
      · omega
      rcases List.mem_cons.1 hx with rfl | hx
      · omega
      · have := hM x hx; omega
    have hi2 : I k ((B + 1) :: B :: M) (W.putObj (B + 1) busy) := hI _ _ _ _ _ h1 (ho2.wider fun x hx => by rw [List.mem_singleton.1 hx]; exact List.mem_cons_self ..) fun x hx => .inl hx
    refine wpIn_mono (hbody _ hi2 hM2 (by rw [← hB]; exact hv.only ho2 fun x hx => by rw [List.mem_singleton.1 hx]; omega) (by rw [World.putObj_size]; omega)) ?_
    rintro e a3 W3 ⟨rfl, ho3, hi3⟩
    have e2 := ho3.size
    rw [World.putObj_size] at e2
    have hl3 : W3.heap[B + 1]? = some busy := by
      rw [ho3.block (B + 1) (by rw [World.putObj_size]; exact e1) fun hm => by have := hG _ hm; omega]; exact hl2
    rw [hbusy] at hl3
    have hend := run_endRound (P := P) none hl3
    obtain ⟨rdy, hrdy⟩ : ∃ rdy : Obj, rdy = .loop (rec .ready none) := ⟨_, rfl⟩
    have hend' : (Instr.endRound (B + 1) none).run P W3 = .ok (.bool true) (W3.putObj (B + 1) rdy) := by
      rw [hend, hrdy, hrec]; rfl
    refine ⟨_, _, hend', rfl, ?_, ?_⟩
    · rw [hJ]
      have ho4 : Only [B + 1] W3 (W3.putObj (B + 1) rdy) := Only.put (List.mem_singleton.2 rfl) W3 rdy
      refine ⟨hI _ _ _ _ _ hi3 (ho4.wider fun x hx => by rw [List.mem_singleton.1 hx]; exact List.mem_cons_self ..) fun x hx => .inl hx, h2, ?_, ?_⟩
      · rw [← hrdy]; exact World.putObj_heap_same (heap_lt hl3)
      · rw [World.putObj_heap_other (by omega), ho3.block B (by rw [World.putObj_size]; omega) fun hm => by have := hG _ hm; omega, World.putObj_heap_other (by omega)]; exact h4
    · exact ((Only.put (List.mem_cons_self ..) W busy).trans (ho3.wider fun x hx => List.mem_cons_of_mem _ hx)).trans (Only.put (List.mem_cons_self ..) W3 rdy)

end Go.Proofs.Ytbkkdgmiokdbmaa

/-! WALKS: spec's chapter 9: lists by their first difference. -/

namespace Go.Proofs.Ytbkkdgmiokdbmaa
open Go.RowKit
open Sets Nam

theorem less_at : ∀ (xs ys : List Int) (k : Nat), k < xs.length → k < ys.length → (∀ j, j < k → xs.getD j 0 = ys.getD j 0) → xs.getD k 0 ≠ ys.getD k 0 → lessL xs ys = decide (xs.getD k 0 < ys.getD k 0)
  | [], _, k, h, _, _, _ => absurd h (Nat.not_lt_zero _)
  | _ :: _, [], k, _, h, _, _ => absurd h (Nat.not_lt_zero _)
  | x :: xs, y :: ys, 0, _, _, _, hne => by
    show (if x ≠ y then decide (x < y) else lessL xs ys) = decide (x < y)
    have hne : x ≠ y := hne
    rw [if_pos hne]
  | x :: xs, y :: ys, k + 1, h1, h2, he, hne => by
    have h0 : x = y := he 0 (Nat.succ_pos _)
    show (if x ≠ y then decide (x < y) else lessL xs ys) = _
    rw [if_neg (fun h => h h0), less_at xs ys k (by simpa using h1) (by simpa using h2) (fun j hj => he (j + 1) (by omega)) hne]
    rfl
theorem less_end : ∀ (xs ys : List Int) (k : Nat), (∀ j, j < k → xs.getD j 0 = ys.getD j 0) → k ≤ xs.length → k ≤ ys.length → (¬ k < xs.length ∨ ¬ k < ys.length) → lessL xs ys = false
  | [], _, k, _, _, _, _ => by unfold lessL; rfl
  | _ :: _, [], k, _, _, _, _ => by unfold lessL; rfl
  | x :: xs, y :: ys, 0, _, _, _, h => by simp at h
  | x :: xs, y :: ys, k + 1, he, h1, h2, h => by
    have h0 : x = y := he 0 (Nat.succ_pos _)
    show (if x ≠ y then decide (x < y) else lessL xs ys) = false
    rw [if_neg (fun h => h h0)]
    exact less_end xs ys k (fun j hj => he (j + 1) (by omega)) (by simpa using h1) (by simpa using h2) (by simpa using h)

set_option maxRecDepth 100000 in
set_option maxHeartbeats 1000000 in
theorem l9Less_any (a1 : Option Addr) (c1 : Nat) (xs : List Int) (a2 : Option Addr) (c2 : Nat) (ys : List Int) (hl1 : xs.length ≤ 1099511627776) (b : Bool) (hb : lessL xs ys = b) (w : World) (h1 : Ints w a1 xs) (h2 : Ints w a2 ys) :
    Calls Try.prog 43 #[.slice a1 xs.length c1, .slice a2 ys.length c2] w fun e w' => e = .returned (.bool b) ∧ ∃ n, w' = w.drewN n := by
  have HX := Lib.hid h1
  have HY := Lib.hid h2
  have HB := Lib.hid hb
  clear h1 h2 hb
  go_enter Try.func43, Try.ntmps43
  go_wp2
  go_loopw [5] (fun i wr => ∃ k nn : Nat, k ≤ xs.length ∧ k ≤ ys.length ∧ i = .int .i64 (k : Int) ∧ (∀ j, j < k → xs.getD j 0 = ys.getD j 0) ∧ wr = w.drewN nn) (fun i _ => xs.length - (intOf i).toNat)
  case atStart => exact ⟨0, 0, Nat.zero_le _, Nat.zero_le _, rfl, fun j hj => absurd hj (Nat.not_lt_zero _), rfl⟩
  case round =>
    obtain ⟨k, nn, hk1, hk2, rfl, hq, rfl⟩ := hrel
    have HQ := Lib.hid hq
    clear hq
    by_cases hx : k < xs.length
    · by_cases hy : k < ys.length
      · obtain ⟨b1, o1, rfl, g1⟩ := HX.out k hx
        obtain ⟨b2, o2, rfl, g2⟩ := HY.out k hy
        obtain ⟨x, hxe⟩ : ∃ x, xs.getD k 0 = x := ⟨_, rfl⟩
        obtain ⟨y, hye⟩ : ∃ y, ys.getD k 0 = y := ⟨_, rfl⟩
        rw [hxe] at g1
        rw [hye] at g2
        have HXE := Lib.hid hxe
        have HYE := Lib.hid hye
        clear hxe hye
        by_cases hxy : x = y
        · have hne : (x == y) = true := by rw [beq_iff_eq]; exact hxy
          have HXY := Lib.hid hxy
          clear hxy
          go_wp2
          go_quiet (fail)
          go_wp2
          go_roundw
          case rel =>
            refine ⟨k + 1, nn + nq, by omega, by omega, by go_num, fun j hj => ?_, rfl⟩
            by_cases e : j = k
            · subst e; rw [HXE.out, HYE.out, HXY.out]
            · exact HQ.out j (by omega)
          case measure => simp [intOf]; omega
        · have hne : (x == y) = false := by rw [beq_eq_false_iff_ne]; exact hxy
          have HL : Hid (decide (x < y) = b) := by
            have := less_at xs ys k hx hy HQ.out (by rw [HXE.out, HYE.out]; exact hxy)
            rw [HB.out, HXE.out, HYE.out] at this
            exact this.symm
          clear hxy
          go_wp2
          go_quiet (fail)
          go_wp2
          go_quiet (fail)
          go_wp2
          go_ret
          exact ⟨by rw [HL.out]; rfl, _, by rw [World.drewN_drewN, World.drewN_drewN]⟩
      · have HR : Hid (b = false) := by
          have : b = false := by rw [← HB.out]; exact less_end xs ys k HQ.out hk1 hk2 (.inr hy)
          exact this
        go_wp2
        go_ret
        exact ⟨by rw [HR.out]; rfl, nn, rfl⟩
    · have HR : Hid (b = false) := by
        have : b = false := by rw [← HB.out]; exact less_end xs ys k HQ.out hk1 hk2 (.inl hx)
        exact this
      go_wp2
      go_ret
      exact ⟨by rw [HR.out]; rfl, nn, rfl⟩

end Go.Proofs.Ytbkkdgmiokdbmaa

/-! MEMORY: a matrix that the call builds row by row. -/

namespace Go.Proofs.Ytbkkdgmiokdbmaa
open Go.RowKit

def vals (R : List (Nat × Nat)) (M : Lin.Mat) : List Value := (List.range M.length).map fun i => .slice (some ⟨blk R i, 0, none⟩) (Lin.row M i).length (room R i)
theorem vals_length (R : List (Nat × Nat)) (M : Lin.Mat) : (vals R M).length = M.length := by simp [vals]
theorem vals_at (R : List (Nat × Nat)) (M : Lin.Mat) (i : Nat) (h : i < M.length) : (vals R M)[i]? = some (.slice (some ⟨blk R i, 0, none⟩) (Lin.row M i).length (room R i)) := by
  unfold vals; rw [List.getElem?_map, List.getElem?_range h]; rfl
theorem blk_left {R : List (Nat × Nat)} {i : Nat} (x : Nat × Nat) (h : i < R.length) : (R ++ [x]).getD i (0, 0) = R.getD i (0, 0) := by
  simp [List.getD, List.getElem?_append_left h]
theorem blk_last {R : List (Nat × Nat)} (x : Nat × Nat) : (R ++ [x]).getD R.length (0, 0) = x := by simp [List.getD]
theorem row_left {M : Lin.Mat} {i : Nat} (r : List Int) (h : i < M.length) : Lin.row (M ++ [r]) i = Lin.row M i := by
  unfold Lin.row; simp [List.getD, List.getElem?_append_left h]
theorem row_last {M : Lin.Mat} (r : List Int) : Lin.row (M ++ [r]) M.length = r := by unfold Lin.row; simp [List.getD]
theorem vals_snoc (R : List (Nat × Nat)) (M : Lin.Mat) (h : R.length = M.length) (g c : Nat) (r : List Int) : vals (R ++ [(g, c)]) (M ++ [r]) = vals R M ++ [.slice (some ⟨g, 0, none⟩) r.length c] := by
  unfold vals
  rw [List.length_append, List.length_singleton, List.range_succ, List.map_append]
  congr 1
  · refine List.map_congr_left fun i hi => ?_
    have hi := List.mem_range.1 hi
    simp only [blk, room]
    rw [blk_left _ (by omega), row_left _ hi]
  · simp only [List.map_cons, List.map_nil, blk, room]
    rw [← h, blk_last, h, row_last]

structure OwnMx (w : World) (base : Nat) (v : Value) (R : List (Nat × Nat)) (M : Lin.Mat) : Prop where
  own : w.ownsRow base 22 1 v M.length (vals R M)
  len : R.length = M.length
  nodup : (blks R).Nodup
  rows : ∀ i, i < M.length → base ≤ blk R i ∧ blk R i < w.heap.size ∧ IntsAt w (blk R i) (some ⟨blk R i, 0, none⟩) (Lin.row M i)
  apart : ∀ g, v.ownBlock = some g → g ∉ blks R

theorem OwnMx.lit (w : World) (base : Nat) (h : base ≤ w.heap.size) : OwnMx (w.alloc (.cells #[] 22)) base (.slice (some ⟨w.heap.size, 0, none⟩) 0 0) [] [] := by
  refine ⟨?_, rfl, by simp, fun i hi => absurd hi (Nat.not_lt_zero _), fun _ _ => by simp⟩
  have h1 := World.ownsRow_lit (base := base) (e := 22) (size := 1) w #[] 0 h (by unfold maxLen; omega) (by simp)
  simpa [vals] using h1
theorem OwnMx.keeps {w w' : World} {base : Nat} {v : Value} {R : List (Nat × Nat)} {M : Lin.Mat} (h : OwnMx w base v R M) (hb : Below w.heap.size w w') : OwnMx w' base v R M := by
  refine ⟨World.ownsRow.kept (row := none) h.own ⟨hb.os, hb.tape, hb.output, hb.size, fun k hk _ => hb.block k hk⟩ ?_, h.len, h.nodup, fun i hi => ?_, h.apart⟩
  · cases v.ownBlock <;> simp
  · obtain ⟨h1, h2, h3⟩ := h.rows i hi
    exact ⟨h1, Nat.lt_of_lt_of_le h2 hb.size, h3.keeps hb⟩
theorem OwnMx.lower {w : World} {base b : Nat} {v : Value} {R : List (Nat × Nat)} {M : Lin.Mat} (h : OwnMx w base v R M) (hb : b ≤ base) : OwnMx w b v R M := by
  refine ⟨⟨h.own.1, ?_⟩, h.len, h.nodup, fun i hi => ⟨Nat.le_trans hb (h.rows i hi).1, (h.rows i hi).2⟩, h.apart⟩
  rcases h.own.2 with h0 | ⟨g, cap, cur, hv, h1, hr⟩
  · exact .inl h0
  · exact .inr ⟨g, cap, cur, hv, by omega, hr⟩
/-- Out of what is owned: the matrix. -/
theorem OwnMx.mx {w : World} {base : Nat} {v : Value} {R : List (Nat × Nat)} {M : Lin.Mat} (h : OwnMx w base v R M) : ∃ go ao co, v = .slice ao M.length co ∧ (0 < M.length → base ≤ go ∧ go < w.heap.size) ∧ Mx w go ao R M := by
  rcases h.own.2 with ⟨hv, h0⟩ | ⟨g, cap, cur, hv, hb, _⟩
  · have hM : M = [] := List.eq_nil_of_length_eq_zero h0
    subst hM
    have hR : R = [] := List.eq_nil_of_length_eq_zero h.len
    subst hR
    exact ⟨0, none, 0, by rw [hv]; rfl, fun h => absurd h (Nat.lt_irrefl 0), ⟨rfl, by simp, fun i hi => absurd hi (Nat.not_lt_zero _), fun i hi => absurd hi (Nat.not_lt_zero _), by simp⟩⟩
  · subst hv
    obtain ⟨h1, h2⟩ := World.ownsRow.lt h.own g rfl
    refine ⟨g, some ⟨g, 0, none⟩, cap, rfl, fun _ => ⟨h1, h2⟩, ⟨h.len, h.nodup, fun i hi => ⟨rfl, h2, ?_, World.ownsRow.frozenAt h.own i⟩, fun i hi => (h.rows i hi).2, h.apart g rfl⟩⟩
    rw [World.ownsRow.cellAt h.own i (by omega), vals_at R M i hi]
/-- A row is appended. -/
theorem OwnMx.next {w w3 : World} {base : Nat} {v v' : Value} {R : List (Nat × Nat)} {M : Lin.Mat} (h : OwnMx w base v R M) {g c : Nat} {r : List Int} (hg : base ≤ g) (hlt : g < w.heap.size) (hr : IntsAt w g (some ⟨g, 0, none⟩) r) (hn : g ∉ blks R) (hv : v.ownBlock ≠ some g)
    (ho : w3.ownsRow base 22 1 v' (M.length + 1) (vals R M ++ [.slice (some ⟨g, 0, none⟩) r.length c])) (hgr : w.grownBy w3 v.ownBlock) (hb : v'.ownBlock = v.ownBlock ∨ ∃ z, v'.ownBlock = some z ∧ w.heap.size ≤ z) : OwnMx w3 base v' (R ++ [(g, c)]) (M ++ [r]) := by
  have keep : ∀ k a xs, IntsAt w k a xs → some k ≠ v.ownBlock → IntsAt w3 k a xs := fun k a xs hk hne j hj => by
    obtain ⟨h1, h2, h3, h4⟩ := hk j hj
    have e := hgr.block k h2 hne
    exact ⟨h1, Nat.lt_of_lt_of_le h2 hgr.size, by rw [World.cell?_of_block (w := w) e]; exact h3, by rw [World.frozen?_of_block (w := w) e]; exact h4⟩
  refine ⟨?_, by rw [List.length_append, List.length_append, h.len]; rfl, ?_, fun i hi => ?_, fun z hz => ?_⟩
  · rw [List.length_append, vals_snoc R M h.len]; exact ho
  · show (blks (R ++ [(g, c)])).Nodup
    rw [show blks (R ++ [(g, c)]) = blks R ++ [g] by simp [blks], List.nodup_append]
    exact ⟨h.nodup, by simp, fun x hx y hy e => by
      rw [List.mem_singleton] at hy; subst hy; subst e; exact hn hx⟩
  · rw [List.length_append] at hi
    by_cases e : i < M.length
    · obtain ⟨h1, h2, h3⟩ := h.rows i e
      simp only [blk] at h1 h2 h3 ⊢
      rw [blk_left _ (by rw [h.len]; exact e), row_left _ e]
      refine ⟨h1, Nat.lt_of_lt_of_le h2 hgr.size, keep _ _ _ h3 fun e' => h.apart _ e'.symm (blk_mem (by rw [h.len]; exact e))⟩
    · have hi' : i = M.length := by simp at hi; omega
      subst hi'
      simp only [blk]
      rw [← h.len, blk_last, h.len, row_last]
      exact ⟨hg, Nat.lt_of_lt_of_le hlt hgr.size, keep _ _ _ hr fun e => hv e.symm⟩
  · show z ∉ blks (R ++ [(g, c)])
    rw [show blks (R ++ [(g, c)]) = blks R ++ [g] by simp [blks], List.mem_append, List.mem_singleton]
    rintro (hm | rfl)
    · rcases hb with e | ⟨y, e, hy⟩
      · exact h.apart z (by rw [← e]; exact hz) hm
      · rw [e] at hz; cases hz
        obtain ⟨⟨a, b⟩, hx, rfl⟩ := List.mem_map.1 hm
        obtain ⟨i, hi, hx2⟩ := List.getElem_of_mem hx
        have := (h.rows i (by rw [← h.len]; exact hi)).2.1
        simp [blk, List.getD, List.getElem?_eq_getElem hi, hx2] at this
        dsimp only at hy
        omega
    · rcases hb with e | ⟨y, e, hy⟩
      · exact hv (by rw [← e]; exact hz)
      · rw [e] at hz; cases hz; omega

theorem OwnMx.old {w : World} {base : Nat} {v : Value} {R : List (Nat × Nat)} {M : Lin.Mat} (h : OwnMx w base v R M) {g : Nat} (hg : g ∈ blks R) : base ≤ g ∧ g < w.heap.size := by
  obtain ⟨⟨a, b⟩, hx, rfl⟩ := List.mem_map.1 hg
  obtain ⟨i, hi, hx2⟩ := List.getElem_of_mem hx
  have := h.rows i (by rw [← h.len]; exact hi)
  simp [blk, List.getD, List.getElem?_eq_getElem hi, hx2] at this
  exact ⟨this.1, this.2.1⟩
theorem OwnInts.known {w : World} {base g n c : Nat} {xs : List Int} (h : OwnInts w base (.slice (some ⟨g, 0, none⟩) n c) xs) : base ≤ g ∧ g < w.heap.size ∧ IntsAt w g (some ⟨g, 0, none⟩) xs ∧ n = xs.length := by
  have h' := h
  unfold OwnInts at h'
  obtain ⟨h1, h2⟩ := World.ownsRow.lt h' g rfl
  obtain ⟨a, c', g', he, _, hI⟩ := h.at
  have e : (some ⟨g, 0, none⟩ : Option Addr) = a ∧ n = xs.length := by cases he; exact ⟨rfl, rfl⟩
  refine ⟨h1, h2, ?_, e.2⟩
  rw [← e.1] at hI
  intro j hj
  obtain ⟨q1, q2, q3, q4⟩ := hI j hj
  have : g' = g := by cases q1; rfl
  subst this
  exact ⟨q1, q2, q3, q4⟩

theorem info_row : (Try.prog.info? 22).map (fun i => (i.zero, i.size, i.bytes)) = some (some (.slice none 0 0), 1, 24) := by kernel_rfl

end Go.Proofs.Ytbkkdgmiokdbmaa
