/-
  MAPS from numbers to bools that the call has made: what they answer at every natural number.
-/
import Derived.Test.YtfnpkglijknnoaaWSet1
import Derived.Maps.OwnSet
namespace Go.Proofs.Ytfnpkglijknnoaa
open Go.RowKit
open Go.Maps (Keyed)

/-- An element that reads as a bool's datum IS that bool. -/
theorem plainElem_bool_inv {H : Type} {P : Program} {e : TypeId} (he : P.underlying e = some .bool) {v : Value} {z : DataW H × List MemPlace} (h : plainElem P e v = some z) : ∃ x, v = .bool x ∧ z = (.lit (.bool x), []) := by
  unfold plainElem at h
  rw [he] at h
  cases v <;> simp at h
  subst h
  exact ⟨_, rfl, rfl⟩

theorem bmap_key : Keyed Try.prog 3 := Maps.int_keyed Try.underlying3

theorem bmap_zero (w : World) : (zeroValue 4).run Try.prog w = .ok (.bool false) w := by kernel_rfl

/-- Block b is a map of at most k entries that answers f at every natural number. -/
def BMap (w : World) (b k : Nat) (f : Nat → Bool) : Prop :=
  ∃ D : DataW Unit, w.ownsMap Try.prog 3 (plainElem Try.prog 4) b k D ∧ Maps.IsMap D ∧ ∀ s : Nat, D.atKey (.int .i64 (s : Int)) (.lit (.bool false)) = .lit (.bool (f s))

theorem BMap.made (w : World) : BMap (w.alloc (.map #[] 0)) w.heap.size 0 fun _ => false :=
  ⟨.map [], World.ownsMap_made w _ _ _, ⟨[], rfl⟩, fun _ => rfl⟩

theorem BMap.congr {w : World} {b k : Nat} {f g : Nat → Bool} (h : BMap w b k f) (e : ∀ s, g s = f s) : BMap w b k g := by
  obtain ⟨D, h1, h2, h3⟩ := h
  exact ⟨D, h1, h2, fun s => by rw [e s]; exact h3 s⟩

theorem BMap.lt {w : World} {b k : Nat} {f : Nat → Bool} (h : BMap w b k f) : b < w.heap.size := by
  obtain ⟨D, h1, _⟩ := h
  exact h1.lt

theorem BMap.keeps {w w' : World} {b k : Nat} {f : Nat → Bool} (h : BMap w b k f) (hb : Below w.heap.size w w') : BMap w' b k f := by
  obtain ⟨D, h1, h2, h3⟩ := h
  exact ⟨D, h1.kept (Mem.but_of_below hb none) (by simp), h2, h3⟩

theorem BMap.mono {w : World} {b k : Nat} {f : Nat → Bool} (h : BMap w b k f) {j : Nat} (hj : k ≤ j) : BMap w b j f := by
  obtain ⟨D, h1, h2, h3⟩ := h
  exact ⟨D, h1.mono hj, h2, h3⟩

theorem BMap.setCell {w : World} {b k : Nat} {f : Nat → Bool} (h : BMap w b k f) (c o : Nat) (v : Value) (hc : c ≠ b) : BMap (w.setCell ⟨c, o, none⟩ v) b k f := by
  obtain ⟨D, h1, h2, h3⟩ := h
  exact ⟨D, h1.kept (Mem.but_setCell w c o v) (by simpa using fun e => hc e.symm), h2, h3⟩

/-- m[k] at the operation, guarded or not. -/
theorem wpList_bmap_look (w : World) {ops : Array Oper} {rest : List Oper} {o : Oper} {a : Act} {Q : Exit → Act → World → Prop}
    (hg : Region.wanted o (yielded ops a.tmps) = true) (m x : Operand) (hop : o.op = Op.lookup 50 m x false)
    (b k : Nat) (f : Nat → Bool) (hm : a.eval m = .map (some b)) (h : BMap w b k f) (s : Nat) (c : Bool) (hc : f s = c) (z : Int) (hx : a.eval x = .int .i64 z) (hz : z = (s : Int)) (hs : s < 64)
    (hK : wpList Try.prog ops Q rest (a.put o.dst (.bool c)) w) :
    wpList Try.prog ops Q (o :: rest) a w := by
  subst hz
  refine wpList_step fun K' hK' => ?_
  rw [if_pos hg]
  obtain ⟨D, h1, h2, h3⟩ := h
  obtain ⟨v, ps, hrun, hv⟩ := h1.lookup bmap_key Try.underlying50 (bmap_zero w) (plainElem_bool Try.underlying4 false) (key := .int .i64 (s : Int)) (Maps.keyOf_int_mk Try.underlying3 (WalkArith.wf_i64 (by omega)))
  obtain ⟨y, rfl, he⟩ := plainElem_bool_inv Try.underlying4 hv
  rw [h3 s] at he
  injection he with he _
  injection he with he
  injection he with he
  subst he
  subst hc
  unfold Oper.wp
  simp [execOp, hop, hm, hx, hrun, Result.andThen]
  exact hK' _ _ hK

/-- m[k] = true at the operation. -/
theorem wpList_bmap_put (w : World) {ops : Array Oper} {rest : List Oper} {o : Oper} {a : Act} {Q : Exit → Act → World → Prop}
    (hg : o.guard = none) (m x v : Operand) (hop : o.op = Op.mapUpdate 50 m x v)
    (b k : Nat) (f : Nat → Bool) (hm : a.eval m = .map (some b)) (h : BMap w b k f) (hk : k < maxLen) (s : Nat) (z : Int) (hx : a.eval x = .int .i64 z) (hz : z = (s : Int)) (hs : s < 64) (hv : a.eval v = .bool true)
    (hK : ∀ w', BMap w' b (k + 1) (fun t => if t = s then true else f t) → w.grownBy w' (some b) → wpList Try.prog ops Q rest (a.put o.dst undef) w') :
    wpList Try.prog ops Q (o :: rest) a w := by
  subst hz
  obtain ⟨D, h1, h2, h3⟩ := h
  have hwf : (Lit.int .i64 (s : Int)).wf = true := WalkArith.wf_i64 (by omega)
  refine wpList_mapUpdate_own w hg m x v _ hop _ _ bmap_key Try.underlying50 _ b k D hm h1 hk _ _ (.int .i64 (s : Int)) hx hv (Maps.keyOf_int_mk Try.underlying3 hwf) (.lit (.bool true)) [] (plainElem_bool Try.underlying4 true) fun w' h1' hg' => ?_
  refine hK w' ⟨_, h1', h2.put _ _, fun t => ?_⟩ hg'
  show _ = DataW.lit (Lit.bool (if t = s then true else f t))
  by_cases e : t = s
  · subst e
    rw [if_pos rfl]
    exact Maps.atKey_put_same (k := .int .i64 (t : Int)) h2 trivial _ _
  · rw [if_neg e]
    rw [Maps.atKey_put_other (by intro h; injection h with _ h; omega)]
    exact h3 t

end Go.Proofs.Ytfnpkglijknnoaa
