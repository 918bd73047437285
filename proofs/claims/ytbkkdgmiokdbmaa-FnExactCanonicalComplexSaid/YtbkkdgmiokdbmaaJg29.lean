/-
  TEXTS of one claim, put together: Mx3, WPartS, WPartM, WPartU.
-/
import Derived.Test.YtbkkdgmiokdbmaaJg28
import Derived.Test.YtbkkdgmiokdbmaaJg20
import Derived.Test.YtbkkdgmiokdbmaaJg12
import Derived.Test.YtbkkdgmiokdbmaaJg1
import Derived.Laws.AppendOwnNone
import Derived.StillTactics
import Derived.Deep.RegionHeld3
import Derived.Deep.AppendLies
/-! MEMORY: rows of a matrix exchanged; what a matrix keeps while another row grows. -/

namespace Go.Proofs.Ytbkkdgmiokdbmaa
open Go.RowKit

def swapR (R : List (Nat × Nat)) (a d : Nat) : List (Nat × Nat) := (R.set a (R.getD d (0, 0))).set d (R.getD a (0, 0))
theorem swapR_length (R : List (Nat × Nat)) (a d : Nat) : (swapR R a d).length = R.length := by simp [swapR]
theorem swapR_at (R : List (Nat × Nat)) (a d j : Nat) (ha : a < R.length) (hd : d < R.length) : (swapR R a d).getD j (0, 0) = R.getD (if j = d then a else if j = a then d else j) (0, 0) := by
  unfold swapR
  by_cases e : j = d
  · subst e; simp [List.getD, ha, hd]
  · rw [if_neg e]
    by_cases e' : j = a
    · subst e'
      rw [if_pos rfl]
      simp only [List.getD, List.getElem?_set, List.length_set]
      rw [if_neg (fun h => e h.symm)]
      simp [ha]
    · rw [if_neg e']
      simp only [List.getD, List.getElem?_set, List.length_set]
      rw [if_neg (fun h => e h.symm), if_neg (fun h => e' h.symm)]
theorem blk_of_mem {R : List (Nat × Nat)} {g : Nat} (h : g ∈ blks R) : ∃ i, i < R.length ∧ blk R i = g := by
  obtain ⟨⟨a, b⟩, hx, rfl⟩ := List.mem_map.1 h
  obtain ⟨i, hi, hx2⟩ := List.getElem_of_mem hx
  exact ⟨i, hi, by simp [blk, List.getD, List.getElem?_eq_getElem hi, hx2]⟩
def flip2 (a d j : Nat) : Nat := if j = d then a else if j = a then d else j
theorem flip2_lt {a d j m : Nat} (ha : a < m) (hd : d < m) (hj : j < m) : flip2 a d j < m := by unfold flip2; split <;> (try split) <;> assumption
theorem flip2_flip (a d j : Nat) : flip2 a d (flip2 a d j) = j := by
  unfold flip2
  by_cases h1 : j = d
  · subst h1; rw [if_pos rfl]; by_cases h2 : a = j
    · rw [if_pos h2, h2]
    · rw [if_neg h2, if_pos rfl]
  · rw [if_neg h1]
    by_cases h2 : j = a
    · subst h2; rw [if_pos rfl, if_pos rfl]
    · rw [if_neg h2, if_neg h1, if_neg h2]
theorem flip2_inj {a d i j : Nat} (h : flip2 a d i = flip2 a d j) : i = j := by rw [← flip2_flip a d i, h, flip2_flip]
theorem swapR_mem {R : List (Nat × Nat)} {a d : Nat} (ha : a < R.length) (hd : d < R.length) (g : Nat) : g ∈ blks (swapR R a d) ↔ g ∈ blks R := by
  constructor
  · intro h
    obtain ⟨i, hi, rfl⟩ := blk_of_mem h
    rw [swapR_length] at hi
    have := blk_mem (R := R) (flip2_lt ha hd hi)
    rw [show blk (swapR R a d) i = blk R (flip2 a d i) from congrArg Prod.fst (swapR_at R a d i ha hd)]; exact this
  · intro h
    obtain ⟨i, hi, rfl⟩ := blk_of_mem h
    have hlt : flip2 a d i < (swapR R a d).length := by rw [swapR_length]; exact flip2_lt ha hd hi
    have := blk_mem hlt
    rw [show blk (swapR R a d) (flip2 a d i) = blk R (flip2 a d (flip2 a d i)) from congrArg Prod.fst (swapR_at R a d _ ha hd), flip2_flip] at this
    exact this
theorem swapR_nodup {R : List (Nat × Nat)} {a d : Nat} (ha : a < R.length) (hd : d < R.length) (h : (blks R).Nodup) : (blks (swapR R a d)).Nodup := by
  have e : ∀ (Q : List (Nat × Nat)) j, (hj : j < Q.length) → (blks Q)[j]'(by simpa using hj) = blk Q j := fun Q j hj => by simp [blk, blks, List.getD, List.getElem?_eq_getElem hj]
  unfold List.Nodup
  rw [List.pairwise_iff_getElem]
  intro i j hi hj hij he
  have hi' : i < (swapR R a d).length := by simpa using hi
  have hj' : j < (swapR R a d).length := by simpa using hj
  rw [e _ i hi', e _ j hj'] at he
  rw [show blk (swapR R a d) i = blk R (flip2 a d i) from congrArg Prod.fst (swapR_at R a d i ha hd), show blk (swapR R a d) j = blk R (flip2 a d j) from congrArg Prod.fst (swapR_at R a d j ha hd)] at he
  rw [swapR_length] at hi' hj'
  have := flip2_inj (blk_inj h (flip2_lt ha hd hi') (flip2_lt ha hd hj') he)
  omega

/-- Two rows are exchanged. -/
theorem Mx.swap {w : World} {go : Nat} {ao : Option Addr} {R : List (Nat × Nat)} {M : Lin.Mat} (h : Mx w go ao R M) {a d : Nat} (ha : a < M.length) (hd : d < M.length) :
    Mx ((w.setCell ⟨go, a, none⟩ (.slice (some ⟨blk R d, 0, none⟩) (Lin.row M d).length (room R d))).setCell ⟨go, d, none⟩ (.slice (some ⟨blk R a, 0, none⟩) (Lin.row M a).length (room R a))) go ao (swapR R a d) (Lin.swap M a d) := by
  have haR : a < R.length := by rw [h.len]; exact ha
  have hdR : d < R.length := by rw [h.len]; exact hd
  have hrow : ∀ j, Lin.row (Lin.swap M a d) j = Lin.row M (flip2 a d j) := fun j => Lin.swap_row M a d j ha hd
  have hR : ∀ j, (swapR R a d).getD j (0, 0) = R.getD (flip2 a d j) (0, 0) := fun j => swapR_at R a d j haR hdR
  have hsz : ((w.setCell ⟨go, a, none⟩ (.slice (some ⟨blk R d, 0, none⟩) (Lin.row M d).length (room R d))).setCell ⟨go, d, none⟩ (.slice (some ⟨blk R a, 0, none⟩) (Lin.row M a).length (room R a))).heap.size = w.heap.size := by simp [World.setCell]
  refine ⟨by rw [swapR_length, Lin.swap_length]; exact h.len, swapR_nodup haR hdR h.nodup, fun i hi => ?_, fun i hi => ?_, fun hm => h.apart ((swapR_mem haR hdR go).1 hm)⟩
  · rw [Lin.swap_length] at hi
    obtain ⟨h1, h2, h3, h4⟩ := h.out i hi
    refine ⟨h1, by rw [hsz]; exact h2, ?_, by rw [World.frozen?_setCell, World.frozen?_setCell]; exact h4⟩
    simp only [blk, room]
    rw [hrow, hR]
    unfold flip2
    by_cases e : i = d
    · rw [if_pos e, e]
      have hne := (h.out d hd).2.2.1
      by_cases e2 : a = d
      · subst e2
        exact World.cell?_setCell_same _ _ _ (World.cell?_setCell_same _ _ _ hne)
      · exact World.cell?_setCell_same _ _ _ ((World.cell?_setCell_other _ _ _ _ (by simp)).trans hne)
    · rw [if_neg e]
      rw [World.cell?_setCell_other _ _ _ _ (by simp)]
      by_cases e2 : i = a
      · subst e2
        rw [if_pos rfl]
        exact World.cell?_setCell_same _ _ _ h3
      · rw [if_neg e2, World.cell?_setCell_other _ _ _ _ (by simp)]
        exact h3
  · rw [Lin.swap_length] at hi
    obtain ⟨h1, h2⟩ := h.rows _ (flip2_lt ha hd hi)
    simp only [blk] at h1 h2 ⊢
    rw [hrow, hR]
    refine ⟨by rw [hsz]; exact h1, ?_⟩
    refine IntsAt.only (G := [go]) h2 ((Only.set [go] w a (by simp) _).trans (Only.set [go] _ d (by simp) _)) ?_
    rw [List.mem_singleton]
    intro e
    exact h.apart (by rw [← e]; exact blk_mem (R := R) (by rw [h.len]; exact flip2_lt ha hd hi))

theorem Mx.grown {w w' : World} {go : Nat} {ao : Option Addr} {R : List (Nat × Nat)} {M : Lin.Mat} (h : Mx w go ao R M) {b : Option Nat} (hg : w.grownBy w' b) (hb : ∀ g, b = some g → g ≠ go ∧ g ∉ blks R) : Mx w' go ao R M := by
  have hk : ∀ k, k < w.heap.size → (k = go ∨ k ∈ blks R) → w'.heap[k]? = w.heap[k]? := fun k hk hor => hg.block k hk fun e => by
    obtain ⟨h1, h2⟩ := hb k e.symm
    rcases hor with e | e
    · exact h1 e
    · exact h2 e
  refine ⟨h.len, h.nodup, fun i hi => ?_, fun i hi => ?_, h.apart⟩
  · obtain ⟨h1, h2, h3, h4⟩ := h.out i hi
    have e := hk go h2 (.inl rfl)
    exact ⟨h1, Nat.lt_of_lt_of_le h2 hg.size, by rw [World.cell?_of_block (w := w) e]; exact h3, by rw [World.frozen?_of_block (w := w) e]; exact h4⟩
  · obtain ⟨h1, h2⟩ := h.rows i hi
    have e := hk _ h1 (.inr (blk_mem (by rw [h.len]; exact hi)))
    refine ⟨Nat.lt_of_lt_of_le h1 hg.size, fun j hj => ?_⟩
    obtain ⟨q1, q2, q3, q4⟩ := h2 j hj
    exact ⟨q1, Nat.lt_of_lt_of_le q2 hg.size, by rw [World.cell?_of_block (w := w) e]; exact q3, by rw [World.frozen?_of_block (w := w) e]; exact q4⟩
theorem OwnInts.only {w w' : World} {G : List Nat} {base : Nat} {v : Value} {xs : List Int} (h : OwnInts w base v xs) (k : Only G w w') (hv : ∀ g, v.ownBlock = some g → g ∉ G) : OwnInts w' base v xs := by
  unfold OwnInts at *
  refine ⟨h.1, ?_⟩
  rcases h.2 with h0 | ⟨g, cap, cur, hv', h1, hh, hr⟩
  · exact .inl h0
  · refine .inr ⟨g, cap, cur, hv', h1, ?_, hr⟩
    have hlt : g < w.heap.size := by
      rcases Nat.lt_or_ge g w.heap.size with hl | hl
      · exact hl
      · rw [Array.getElem?_eq_none hl] at hh; cases hh
    rw [k.block g hlt (hv g (by rw [hv']; rfl))]; exact hh
theorem Mx.old {w : World} {go : Nat} {ao : Option Addr} {R : List (Nat × Nat)} {M : Lin.Mat} (h : Mx w go ao R M) {g : Nat} (hg : g ∈ blks R) : g < w.heap.size := by
  obtain ⟨i, hi, rfl⟩ := blk_of_mem hg
  exact (h.rows i (by rw [← h.len]; exact hi)).1

end Go.Proofs.Ytbkkdgmiokdbmaa

/-! WALKS: spec's chapter 5 (written by genpart.py). -/

namespace Go.Proofs.Ytbkkdgmiokdbmaa
open Go.RowKit
open Sets

theorem and_meet (f s : Nat) (hf : f < 64) (hs : s < 64) : bits BinOp.and IntKind.i64 (f : Int) (s : Int) = meetZ s (f : Int) := by
  have H : ∀ a b : Nat, a < 64 → b < 64 → bits BinOp.and IntKind.i64 (a : Int) (b : Int) = ((a &&& b : Nat) : Int) := by
    refine fin64b ?_
    decide +kernel
  exact H f s hf hs
theorem isC_at2 {xs : List Int} (h : allOk xs = true) (j : Nat) (hj : j < xs.length) : ∃ s : Nat, xs.getD j 0 = (s : Int) ∧ s < 64 :=
  okZ_cast _ (by unfold allOk at h; exact List.all_eq_true.1 h _ (by rw [List.getD, List.getElem?_eq_getElem hj]; exact List.getElem_mem hj))
/-- What writes into another row leave. -/
theorem IntsAt.off {w w' : World} {g : Nat} {row : Option Nat} {a : Option Addr} {xs : List Int} (h : IntsAt w g a xs) (hg : w.grownBy w' row) (hne : row ≠ some g) : IntsAt w' g a xs := fun j hj => by
  obtain ⟨e, hl, hc, hf⟩ := h j hj
  have hb := hg.block g hl (Ne.symm hne)
  have := hg.size
  exact ⟨e, by omega, by rw [World.cell?_of_block (w := w) (w' := w') (a := ⟨g, j, none⟩) hb]; exact hc, by rw [World.frozen?_of_block (w := w) (w' := w') (a := ⟨g, j, none⟩) hb]; exact hf⟩
theorem size_ok (n : Int) (xs : List Int) : allOk (faces n xs) = true := by
  unfold faces; split
  · exact ord_ok _
  · rfl
theorem l2Size_v (s p : Nat) (hp : pc s = p) (hs : s < 64) (w : World) : Calls Try.prog 67 #[.int .i64 (s : Int)] w fun e w' => e = .returned (.int .i64 (p : Int)) ∧ w = w' := by
  subst hp; exact l2Size_any s hs w

theorem partO_no {ok : Bool} {n : Int} {q : Nat → Bool} (h : ok = false) : partO ok n q = none := by unfold partO; rw [if_neg (by rw [h]; simp)]
theorem partO_yes {ok : Bool} {n : Int} {q : Nat → Bool} (h : ok = true) : partO ok n q = some (n, maxQ q) := by unfold partO; rw [if_pos h]


end Go.Proofs.Ytbkkdgmiokdbmaa

/-! WALKS: spec's chapter 5: meet (written by genpart.py). -/

namespace Go.Proofs.Ytbkkdgmiokdbmaa
open Go.RowKit
open Sets

theorem Ints.news {w : World} {ad : Addr} {xs : List Int} (h : Ints w (some ad) xs) : ∀ (j : Nat) u, (xs.map (Value.int .i64))[j]? = some u → w.cell? (ad.add j) = some u := fun j u hu => by
  have hj : j < (xs.map (Value.int .i64)).length := (List.getElem?_eq_some_iff.1 hu).1
  rw [List.length_map] at hj
  rw [ints_cell xs j hj] at hu
  cases hu
  obtain ⟨b, o, e, hc⟩ := h j hj
  cases e
  have e1 : (⟨b, o, none⟩ : Addr).add j = ⟨b, o + j, none⟩ := by unfold Addr.add; split <;> simp_all
  rw [e1]; exact hc
theorem Ints.none_nil {w : World} {xs : List Int} (h : Ints w none xs) : xs = [] := by
  rcases Nat.eq_zero_or_pos xs.length with e | e
  · exact List.eq_nil_of_length_eq_zero e
  · obtain ⟨_, _, e, _⟩ := h 0 e; cases e
theorem one_ints (xs : List Int) : ∀ u ∈ xs.map (Value.int .i64), u.oneCell' = true := by
  intro u hu; obtain ⟨x, _, rfl⟩ := List.mem_map.1 hu; rfl
theorem bothOk_le {n : Int} {xs : List Int} (h : isC n xs = true) : xs.length ≤ 64 := isC_le h
theorem and_meet2 (f g : Nat) (hf : f < 64) (hg : g < 64) : bits BinOp.and IntKind.i64 (f : Int) (g : Int) = meetZ f (g : Int) := by
  rw [and_meet f g hf hg]
  show ((f &&& g : Nat) : Int) = ((g &&& f : Nat) : Int)
  rw [Nat.and_comm]


end Go.Proofs.Ytbkkdgmiokdbmaa

/-! WALKS: spec's chapter 5: union (written by genpart.py). -/

namespace Go.Proofs.Ytbkkdgmiokdbmaa
open Go.RowKit
open Sets

/-- append of a slice that lies anywhere or is nil, at a step of a region that draws. -/
theorem step_append_src {P : Program} (w : World) {ops : Array Oper} {o : Oper} {a : Act} {K : Act → World → Prop} {Q : Exit → Act → World → Prop} {E : Prop} (hgd : o.guard = none) (s x : Operand) (t : TypeId)
    (ho : o.op = .call { callee := .builtin .append, args := #[s, x], argTypes := #[t, t] })
    (base : Nat) (e : TypeId) (i : TypeInfo) (z : Value) (ht : P.underlying t = some (.slice e)) (hi : P.info? e = some i) (hz : i.zero = some z)
    (hsize : i.size = 1) (hby : i.bytes = 8) (hzs : z.cells.size = 1)
    (v : Value) (n : Nat) (xs : List Value) (hs : a.eval s = v) (hown : w.ownsRow base e 1 v n xs)
    (src : Option Addr) (c : Nat) (ys : List Int) (hx : a.eval x = .slice src ys.length c) (hsrc : src = none → c = 0) (hys : Ints w src ys)
    (h63 : n + ys.length ≤ maxLen) (hbytes : (n + ys.length) * 8 ≤ 140737488355328) (hbase : base ≤ w.heap.size)
    (h : ∀ v' w', w'.ownsRow base e 1 v' (n + ys.length) (xs ++ ys.map (Value.int .i64)) → w.grownBy w' v.ownBlock → K (a.put o.dst v') w') :
    if Region.wanted o (yielded ops a.tmps) = true then Oper.wp P o a w K Q else E := by
  have hw : Region.wanted o (yielded ops a.tmps) = true := by simp [Region.wanted, hgd]
  rw [if_pos hw]
  cases src with
  | some ad => exact wp_append_own w s x t ho base e i z 1 8 ht hi hz hsize hby hzs (by decide) v n xs hs hown ad ys.length c (ys.map (Value.int .i64)) hx (by simp) (Ints.news hys) (one_ints ys) h63 hbytes hbase fun v' w' h2 h3 _ => h v' w' h2 h3
  | none =>
    have hyn := hys.none_nil
    subst hyn
    obtain rfl := hsrc rfl
    have hrun := run_append_owned_none (P := P) (w := w) base t o.type e i 1 ht hi v n xs hown
    have hk := h v w (by simpa using hown) (World.grownBy.refl w _)
    have hx2 : a.eval x = .slice none 0 0 := hx
    unfold Oper.wp execOp
    simp only [ho, resolve, invoke, builtin, Sem.run_bind, Sem.run_pure, Result.andThen_ok, List.map_toArray, List.map_cons, List.map_nil, hs, hx2, hrun]
    exact hk

end Go.Proofs.Ytbkkdgmiokdbmaa
