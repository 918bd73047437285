/-
  WALK of chapter 6 (spec): the disjoint union of two complexes.
-/
import Derived.Test.YtenpcjmhlnalcaaGreatJg41
import Derived.Laws.AppendOwnNone
namespace Go.Proofs.YtenpcjmhlnalcaaGreat
open Go.RowKit
open Sets Join Lin Hom

theorem Ints.newsJ {w : World} {ad : Addr} {xs : List Int} (h : Ints w (some ad) xs) : ∀ (j : Nat) u, (xs.map (Value.int .i64))[j]? = some u → w.cell? (ad.add j) = some u := fun j u hu => by
  have hj : j < (xs.map (Value.int .i64)).length := (List.getElem?_eq_some_iff.1 hu).1
  rw [List.length_map] at hj
  rw [ints_cell xs j hj] at hu
  cases hu
  obtain ⟨b, o, e, hc⟩ := h j hj
  cases e
  have e1 : (⟨b, o, none⟩ : Addr).add j = ⟨b, o + j, none⟩ := by unfold Addr.add; split <;> simp_all
  rw [e1]; exact hc
theorem Ints.nilJ {w : World} {xs : List Int} (h : Ints w none xs) : xs = [] := by
  rcases Nat.eq_zero_or_pos xs.length with e | e
  · exact List.eq_nil_of_length_eq_zero e
  · obtain ⟨_, _, e, _⟩ := h 0 e; cases e
theorem one_intsJ (xs : List Int) : ∀ u ∈ xs.map (Value.int .i64), u.oneCell' = true := by
  intro u hu; obtain ⟨x, _, rfl⟩ := List.mem_map.1 hu; rfl
theorem run_append_noneC {P : Program} {w : World} (base : Nat) (t ty e : TypeId) (i : TypeInfo) (size : Nat) (ht : P.underlying t = some (.slice e)) (hi : P.info? e = some i)
    (v : Value) (n : Nat) (xs : List Value) (hown : w.ownsRow base e size v n xs) (c : Nat) :
    (Builtin.append_ #[t, t] ty #[v, .slice none 0 c]).run P w = .ok v w := by
  rcases hown.2 with ⟨rfl, rfl⟩ | ⟨g, cap, cur, rfl, _, _, hnc, _⟩
  · simp [Builtin.append_, run_underlying ht, sizeOf, typeInfo, hi, Builtin.lenOf, Builtin.firstCells]
  · simp [Builtin.append_, run_underlying ht, sizeOf, typeInfo, hi, Builtin.lenOf, Builtin.firstCells, hnc, storeCells]
/-- append of a slice that lies anywhere or is nil. -/
theorem wpList_append_src {P : Program} {ops : Array Oper} {rest : List Oper} {o : Oper} {a : Act} {w : World} {Q : Exit → Act → World → Prop} (hgd : o.guard = none) (s x : Operand) (t : TypeId)
    (ho : o.op = .call { callee := .builtin .append, args := #[s, x], argTypes := #[t, t] })
    (base : Nat) (e : TypeId) (i : TypeInfo) (z : Value) (ht : P.underlying t = some (.slice e)) (hi : P.info? e = some i) (hz : i.zero = some z)
    (hsize : i.size = 1) (hby : i.bytes = 8) (hzs : z.cells.size = 1)
    (v : Value) (n : Nat) (xs : List Value) (hs : a.eval s = v) (hown : w.ownsRow base e 1 v n xs)
    (src : Option Addr) (c : Nat) (ys : List Int) (hx : a.eval x = .slice src ys.length c) (hys : Ints w src ys)
    (h63 : n + ys.length ≤ maxLen) (hbytes : (n + ys.length) * 8 ≤ 140737488355328) (hbase : base ≤ w.heap.size)
    (h : ∀ v' w', w'.ownsRow base e 1 v' (n + ys.length) (xs ++ ys.map (Value.int .i64)) → w.grownBy w' v.ownBlock → wpList P ops Q rest (a.put o.dst v') w') :
    wpList P ops Q (o :: rest) a w := by
  cases src with
  | some ad => exact wpList_append_own w hgd s x t ho base e i z 1 8 ht hi hz hsize hby hzs (by decide) v n xs hs hown ad ys.length c (ys.map (Value.int .i64)) hx (by simp) (Ints.newsJ hys) (one_intsJ ys) h63 hbytes hbase fun v' w' h2 h3 _ => h v' w' h2 h3
  | none =>
    have hyn := hys.nilJ
    subst hyn
    have hrun := run_append_noneC (P := P) (w := w) base t o.type e i 1 ht hi v n xs hown c
    have hk := h v w (by simpa using hown) (World.grownBy.refl w _)
    have hx2 : a.eval x = .slice none 0 c := hx
    refine wpList_plain hgd fun K hK => ?_
    unfold Oper.wp execOp
    simp only [ho, resolve, invoke, builtin, Sem.run_bind, Sem.run_pure, Result.andThen_ok, List.map_toArray, List.map_cons, List.map_nil, hs, hx2, hrun]
    exact hK _ _ hk

/-- The sets of a disjoint union so far: k facets of the other one. -/
def bothL (nn : Nat) (xs ys : List Int) (k : Nat) : List Int := xs ++ (ys.take k).map fun y => 2 ^ nn * y
theorem bothL_zero (nn : Nat) (xs ys : List Int) : bothL nn xs ys 0 = xs := by unfold bothL; simp
theorem bothL_next (nn : Nat) (xs ys : List Int) (k : Nat) (h : k < ys.length) : bothL nn xs ys (k + 1) = bothL nn xs ys k ++ [2 ^ nn * ys.getD k 0] := by
  unfold bothL
  rw [List.take_add_one, List.map_append, ← List.append_assoc]
  simp [List.getD, List.getElem?_eq_getElem h]
theorem bothL_end (nn : Nat) (xs ys : List Int) : bothL nn xs ys ys.length = both nn xs ys := by unfold bothL both; rw [List.take_length]
theorem bothL_length (nn : Nat) (xs ys : List Int) (k : Nat) (h : k ≤ ys.length) : (bothL nn xs ys k).length = xs.length + k := by
  unfold bothL; rw [List.length_append, List.length_map, List.length_take, Nat.min_eq_left h]
theorem both_ok {n m : Int} {xs ys : List Int} (h : joinOk n m xs ys = true) : allOk (both n.toNat xs ys) = true := by
  obtain ⟨hx, hy, hnm⟩ := (joinOk_iff n m xs ys).1 h
  have hn := isC_n hx
  have hm := isC_n hy
  unfold allOk
  rw [List.all_eq_true]
  intro z hz
  unfold both at hz
  rcases List.mem_append.1 hz with hz | hz
  · obtain ⟨f, rfl, hf⟩ := isC_nat hx z hz
    have h2 := Nat.pow_le_pow_right (n := 2) (by decide) (show n.toNat ≤ 6 by omega)
    rw [okZ_nat]; omega
  · obtain ⟨y, hy', rfl⟩ := List.mem_map.1 hz
    obtain ⟨g, rfl, hg⟩ := isC_nat hy y hy'
    have h1 : 2 ^ n.toNat * (g + 1) ≤ 2 ^ n.toNat * 2 ^ m.toNat := Nat.mul_le_mul_left _ (by omega)
    rw [← Nat.pow_add, Nat.mul_add] at h1
    have h2 := Nat.pow_le_pow_right (n := 2) (by decide) (show n.toNat + m.toNat ≤ 6 by omega)
    have h3 := Nat.two_pow_pos n.toNat
    rw [show (2 : Int) ^ n.toNat * (g : Int) = ((2 ^ n.toNat * g : Nat) : Int) by push_cast; rfl, okZ_nat]
    omega
theorem both_max {n m : Int} {xs ys : List Int} (h : joinOk n m xs ys = true) : maximal (both n.toNat xs ys) = maxQ (disQ n.toNat (inF xs) (inF ys)) := by
  obtain ⟨hx, hy, hnm⟩ := (joinOk_iff n m xs ys).1 h
  rw [maximal_maxQ _ (both_ok h)]
  exact maxQ_congr fun s _ => inF_both (isC_nat hx) (fun y hy' => by obtain ⟨g, e, _⟩ := isC_nat hy y hy'; exact ⟨g, e⟩) s

end Go.Proofs.YtenpcjmhlnalcaaGreat
