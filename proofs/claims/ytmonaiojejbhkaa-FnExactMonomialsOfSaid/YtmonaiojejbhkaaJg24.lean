/-
  TEXTS of one claim, put together: WPartS, WPartM, WPartU.
-/
import Derived.Test.YtmonaiojejbhkaaJg23
import Derived.Test.YtmonaiojejbhkaaJg13
import Derived.Test.YtmonaiojejbhkaaJg1
import Derived.Laws.AppendOwnNone
import Derived.StillTactics
import Derived.Deep.RegionHeld3
import Derived.Deep.AppendLies
/-! WALKS: spec's chapter 5 (written by genpart.py). -/

namespace Go.Proofs.Ytmonaiojejbhkaa
open Go.RowKit
open Sets

theorem and_meet (f s : Nat) (hf : f < 64) (hs : s < 64) : bits BinOp.and IntKind.i64 (f : Int) (s : Int) = meetZ s (f : Int) := by
  have H : ∀ a b : Nat, a < 64 → b < 64 → bits BinOp.and IntKind.i64 (a : Int) (b : Int) = ((a &&& b : Nat) : Int) := by
    refine fin64b ?_
    decide +kernel
  exact H f s hf hs
theorem isC_at2 {xs : List Int} (h : allOk xs = true) (j : Nat) (hj : j < xs.length) : ∃ s : Nat, xs.getD j 0 = (s : Int) ∧ s < 64 :=
  okZ_cast _ (by unfold allOk at h; exact List.all_eq_true.1 h _ (by rw [List.getD, List.getElem?_eq_getElem hj]; exact List.getElem_mem hj))
/-- What writes into another row leave. -/
theorem IntsAt.off {w w' : World} {g : Nat} {row : Option Nat} {a : Option Addr} {xs : List Int} (h : IntsAt w g a xs) (hg : w.grownBy w' row) (hne : row ≠ some g) : IntsAt w' g a xs := fun j hj => by
  obtain ⟨e, hl, hc, hf⟩ := h j hj
  have hb := hg.block g hl (Ne.symm hne)
  have := hg.size
  exact ⟨e, by omega, by rw [World.cell?_of_block (w := w) (w' := w') (a := ⟨g, j, none⟩) hb]; exact hc, by rw [World.frozen?_of_block (w := w) (w' := w') (a := ⟨g, j, none⟩) hb]; exact hf⟩
theorem size_ok (n : Int) (xs : List Int) : allOk (faces n xs) = true := by
  unfold faces; split
  · exact ord_ok _
  · rfl
theorem l2Size_v (s p : Nat) (hp : pc s = p) (hs : s < 64) (w : World) : Calls Try.prog 58 #[.int .i64 (s : Int)] w fun e w' => e = .returned (.int .i64 (p : Int)) ∧ w = w' := by
  subst hp; exact l2Size_any s hs w

theorem partO_no {ok : Bool} {n : Int} {q : Nat → Bool} (h : ok = false) : partO ok n q = none := by unfold partO; rw [if_neg (by rw [h]; simp)]
theorem partO_yes {ok : Bool} {n : Int} {q : Nat → Bool} (h : ok = true) : partO ok n q = some (n, maxQ q) := by unfold partO; rw [if_pos h]


end Go.Proofs.Ytmonaiojejbhkaa

/-! WALKS: spec's chapter 5: meet (written by genpart.py). -/

namespace Go.Proofs.Ytmonaiojejbhkaa
open Go.RowKit
open Sets

theorem Ints.news {w : World} {ad : Addr} {xs : List Int} (h : Ints w (some ad) xs) : ∀ (j : Nat) u, (xs.map (Value.int .i64))[j]? = some u → w.cell? (ad.add j) = some u := fun j u hu => by
  have hj : j < (xs.map (Value.int .i64)).length := (List.getElem?_eq_some_iff.1 hu).1
  rw [List.length_map] at hj
  rw [ints_cell xs j hj] at hu
  cases hu
  obtain ⟨b, o, e, hc⟩ := h j hj
  cases e
  have e1 : (⟨b, o, none⟩ : Addr).add j = ⟨b, o + j, none⟩ := by unfold Addr.add; split <;> simp_all
  rw [e1]; exact hc
theorem Ints.none_nil {w : World} {xs : List Int} (h : Ints w none xs) : xs = [] := by
  rcases Nat.eq_zero_or_pos xs.length with e | e
  · exact List.eq_nil_of_length_eq_zero e
  · obtain ⟨_, _, e, _⟩ := h 0 e; cases e
theorem one_ints (xs : List Int) : ∀ u ∈ xs.map (Value.int .i64), u.oneCell' = true := by
  intro u hu; obtain ⟨x, _, rfl⟩ := List.mem_map.1 hu; rfl
theorem bothOk_le {n : Int} {xs : List Int} (h : isC n xs = true) : xs.length ≤ 64 := isC_le h
theorem and_meet2 (f g : Nat) (hf : f < 64) (hg : g < 64) : bits BinOp.and IntKind.i64 (f : Int) (g : Int) = meetZ f (g : Int) := by
  rw [and_meet f g hf hg]
  show ((f &&& g : Nat) : Int) = ((g &&& f : Nat) : Int)
  rw [Nat.and_comm]


end Go.Proofs.Ytmonaiojejbhkaa

/-! WALKS: spec's chapter 5: union (written by genpart.py). -/

namespace Go.Proofs.Ytmonaiojejbhkaa
open Go.RowKit
open Sets

/-- append of a slice that lies anywhere or is nil, at a step of a region that draws. -/
theorem step_append_src {P : Program} (w : World) {ops : Array Oper} {o : Oper} {a : Act} {K : Act → World → Prop} {Q : Exit → Act → World → Prop} {E : Prop} (hgd : o.guard = none) (s x : Operand) (t : TypeId)
    (ho : o.op = .call { callee := .builtin .append, args := #[s, x], argTypes := #[t, t] })
    (base : Nat) (e : TypeId) (i : TypeInfo) (z : Value) (ht : P.underlying t = some (.slice e)) (hi : P.info? e = some i) (hz : i.zero = some z)
    (hsize : i.size = 1) (hby : i.bytes = 8) (hzs : z.cells.size = 1)
    (v : Value) (n : Nat) (xs : List Value) (hs : a.eval s = v) (hown : w.ownsRow base e 1 v n xs)
    (src : Option Addr) (c : Nat) (ys : List Int) (hx : a.eval x = .slice src ys.length c) (hsrc : src = none → c = 0) (hys : Ints w src ys)
    (h63 : n + ys.length ≤ maxLen) (hbytes : (n + ys.length) * 8 ≤ 140737488355328) (hbase : base ≤ w.heap.size)
    (h : ∀ v' w', w'.ownsRow base e 1 v' (n + ys.length) (xs ++ ys.map (Value.int .i64)) → w.grownBy w' v.ownBlock → K (a.put o.dst v') w') :
    if Region.wanted o (yielded ops a.tmps) = true then Oper.wp P o a w K Q else E := by
  have hw : Region.wanted o (yielded ops a.tmps) = true := by simp [Region.wanted, hgd]
  rw [if_pos hw]
  cases src with
  | some ad => exact wp_append_own w s x t ho base e i z 1 8 ht hi hz hsize hby hzs (by decide) v n xs hs hown ad ys.length c (ys.map (Value.int .i64)) hx (by simp) (Ints.news hys) (one_ints ys) h63 hbytes hbase fun v' w' h2 h3 _ => h v' w' h2 h3
  | none =>
    have hyn := hys.none_nil
    subst hyn
    obtain rfl := hsrc rfl
    have hrun := run_append_owned_none (P := P) (w := w) base t o.type e i 1 ht hi v n xs hown
    have hk := h v w (by simpa using hown) (World.grownBy.refl w _)
    have hx2 : a.eval x = .slice none 0 0 := hx
    unfold Oper.wp execOp
    simp only [ho, resolve, invoke, builtin, Sem.run_bind, Sem.run_pure, Result.andThen_ok, List.map_toArray, List.map_cons, List.map_nil, hs, hx2, hrun]
    exact hk

end Go.Proofs.Ytmonaiojejbhkaa
