/-
  A MAP from pairs of numbers to numbers that remembers how many ways there are to choose.
-/
import Derived.Test.YtmonaiojejbhkaaWSet1
import Derived.Test.YtmonaiojejbhkaaHn
import Derived.Maps.OwnSet
import Derived.DeepKeys4
namespace Go.Proofs.Ytmonaiojejbhkaa
open Go.RowKit
open Go.Maps (Keyed)
open Hn

/-- A pair of numbers, as a value. -/
def pairV (n k : Int) : Value := .agg #[.int .i64 n, .int .i64 k]

theorem pair_keyed : Keyed Try.prog 75 := Keyed.of_law (deep_law_laid (m := 2) (by kernel_rfl) (by omega) (of_decide_eq_true (by kernel_rfl)) (by kernel_rfl) (by rw [Try.underlying75]))

theorem pair_type : Try.prog.keyType 75 = true := by kernel_rfl
theorem pair_cells : Try.prog.cellsOf 75 = 2 := by kernel_rfl
theorem int_cells : Try.prog.cellsOf 3 = 1 := by kernel_rfl

theorem pair_lits (d : Nat) (n k : Int) (hn : (Lit.int .i64 n).wf = true) (hk : (Lit.int .i64 k).wf = true) :
    Try.prog.keyLits (d + 2) 75 [.int .i64 n, .int .i64 k] = some [.int .i64 n, .int .i64 k] := by
  simp [Program.keyLits, Try.underlying75, Try.underlying3, pair_cells, int_cells, hn, hk, show List.range 2 = [0, 1] from rfl]

theorem pair_key (n k : Int) (hn : (Lit.int .i64 n).wf = true) (hk : (Lit.int .i64 k).wf = true) : keyOf Try.prog 75 (pairV n k) = some (.string (keyBytes [.int .i64 n, .int .i64 k])) := by
  have hs : ∃ d, Try.prog.types.size + 1 = d + 2 := ⟨Try.prog.types.size - 1, by
    have : (75 : Nat) < Try.prog.types.size := of_decide_eq_true (by kernel_rfl)
    omega⟩
  obtain ⟨d, hd⟩ := hs
  have hf : (pairV n k).formed Try.prog 75 = true := by simp [pairV, Value.formed, Try.underlying75, pair_cells]
  unfold keyOf
  rw [Try.underlying75]
  show (if (Try.prog.keyType 75 && (pairV n k).formed Try.prog 75) = true then (Try.prog.keyLits (Try.prog.types.size + 1) 75 [.int .i64 n, .int .i64 k]).map (fun ls => Lit.string (keyBytes ls)) else none) = _
  rw [pair_type, hf, hd, pair_lits d n k hn hk]
  rfl

/-- Block b is a map of at most m entries: whatever it holds of a pair is how many ways there are to choose. -/
def CMap (w : World) (b m : Nat) : Prop :=
  ∃ D : DataW Unit, w.ownsMap Try.prog 75 (plainElem Try.prog 3) b m D ∧ Maps.IsMap D ∧ ∀ (n k : Nat) (l : Lit), keyOf Try.prog 75 (pairV n k) = some l → Maps.has D l = true → D.atKey l (.lit (.int .i64 0)) = .lit (.int .i64 (ch n k : Nat))

theorem CMap.made (w : World) : CMap (w.alloc (.map #[] 0)) w.heap.size 0 :=
  ⟨.map [], World.ownsMap_made w _ _ _, ⟨[], rfl⟩, fun _ _ _ _ h => by simp [Maps.has] at h⟩

theorem CMap.lt {w : World} {b m : Nat} (h : CMap w b m) : b < w.heap.size := by
  obtain ⟨D, h1, _⟩ := h
  exact h1.lt

theorem CMap.away {w w' : World} {b m : Nat} {row : Option Nat} (h : CMap w b m) (hg : w.grownBy w' row) (hne : some b ≠ row) : CMap w' b m := by
  obtain ⟨D, h1, h2, h3⟩ := h
  exact ⟨D, h1.kept hg hne, h2, h3⟩

theorem CMap.keeps {w w' : World} {b m : Nat} (h : CMap w b m) (hb : Below w.heap.size w w') : CMap w' b m := h.away (Mem.but_of_below hb none) (by simp)

theorem CMap.mono {w : World} {b m : Nat} (h : CMap w b m) {j : Nat} (hj : m ≤ j) : CMap w b j := by
  obtain ⟨D, h1, h2, h3⟩ := h
  exact ⟨D, h1.mono hj, h2, h3⟩

theorem CMap.setCell {w : World} {b m : Nat} (h : CMap w b m) (c o : Nat) (v : Value) (hc : c ≠ b) : CMap (w.setCell ⟨c, o, none⟩ v) b m :=
  h.away (Mem.but_setCell w c o v) (by simpa using fun e => hc e.symm)

theorem CMap.drewN {w : World} {b m : Nat} (h : CMap w b m) (n : Nat) : CMap (w.drewN n) b m := h

theorem cmap_zero (w : World) : (zeroValue 3).run Try.prog w = .ok (.int .i64 0) w := by kernel_rfl

theorem nat_wf {n : Nat} (h : n ≤ 9223372036854775807) : (Lit.int .i64 (n : Int)).wf = true := WalkArith.wf_i64 (by omega)

/-- v, ok := m[{n, k}] at the operation. -/
theorem wpList_cmap_look (w : World) {ops : Array Oper} {rest : List Oper} {o : Oper} {a : Act} {Q : Exit → Act → World → Prop}
    (hg : Region.wanted o (yielded ops a.tmps) = true) (m x : Operand) (hop : o.op = Op.lookup 73 m x true)
    (b j : Nat) (hm : a.eval m = .map (some b)) (h : CMap w b j) (n k : Nat) (hn : n ≤ 60) (hk : k ≤ 60) (hx : a.eval x = pairV n k)
    (hK : ∀ (c : Int) (ok : Bool), (ok = true → c = (ch n k : Nat)) → wpList Try.prog ops Q rest (a.put o.dst (.tuple #[.int .i64 c, .bool ok])) w) :
    wpList Try.prog ops Q (o :: rest) a w := by
  refine wpList_step fun K' hK' => ?_
  rw [if_pos hg]
  obtain ⟨D, h1, h2, h3⟩ := h
  have hkey := pair_key n k (nat_wf (by omega)) (nat_wf (by omega))
  obtain ⟨v, ps, hrun, hv⟩ := h1.look_ok pair_keyed Try.underlying73 (cmap_zero w) (plainElem_int Try.underlying3 (by decide)) hkey
  obtain ⟨c, rfl, hc, hwc⟩ := plainElem_int_inv Try.underlying3 hv
  unfold Oper.wp
  simp [execOp, hop, hm, hx, hrun, Result.andThen]
  refine hK' _ _ (hK c _ fun hok => ?_)
  have e := h3 n k _ hkey hok
  have e2 := congrArg Prod.fst hc
  rw [e] at e2
  injection e2 with e2
  injection e2 with _ e2
  exact e2.symm

/-- m[{n, k}] = how many ways, at the operation. -/
theorem wpList_cmap_put (w : World) {ops : Array Oper} {rest : List Oper} {o : Oper} {a : Act} {Q : Exit → Act → World → Prop}
    (hg : o.guard = none) (m x v : Operand) (hop : o.op = Op.mapUpdate 73 m x v)
    (b j : Nat) (hm : a.eval m = .map (some b)) (h : CMap w b j) (hj : j < maxLen) (n k : Nat) (hn : n ≤ 60) (hk : k ≤ 60) (hx : a.eval x = pairV n k) (z : Int) (hv : a.eval v = .int .i64 z) (hz : z = (ch n k : Nat))
    (hK : ∀ w', CMap w' b (j + 1) → w.grownBy w' (some b) → wpList Try.prog ops Q rest (a.put o.dst undef) w') :
    wpList Try.prog ops Q (o :: rest) a w := by
  subst hz
  obtain ⟨D, h1, h2, h3⟩ := h
  have hkey := pair_key n k (nat_wf (by omega)) (nat_wf (by omega))
  have hc := ch_big n k hn
  refine wpList_mapUpdate_own w hg m x v _ hop _ _ pair_keyed Try.underlying73 _ b j D hm h1 hj _ _ _ hx hv hkey (.lit (.int .i64 (ch n k : Nat))) [] (plainElem_int Try.underlying3 (nat_wf (by omega))) fun w' h1' hg' => ?_
  refine hK w' ⟨_, h1', h2.put _ _, fun n' k' l hl hh => ?_⟩ hg'
  by_cases e : l = .string (keyBytes [.int .i64 (n : Int), .int .i64 (k : Int)])
  · subst e
    have := pair_keyed.inj hl hkey
    unfold pairV at this
    injection this with this
    have e1 := congrArg (fun x : Array Value => x.getD 0 (.bool true)) this
    have e2 := congrArg (fun x : Array Value => x.getD 1 (.bool true)) this
    simp at e1 e2
    obtain rfl : n' = n := by omega
    obtain rfl : k' = k := by omega
    exact Maps.atKey_put_same h2 (pair_keyed.key hkey) _ _
  · rw [Maps.has_put_other e] at hh
    rw [Maps.atKey_put_other e]
    exact h3 n' k' l hl hh

end Go.Proofs.Ytmonaiojejbhkaa
