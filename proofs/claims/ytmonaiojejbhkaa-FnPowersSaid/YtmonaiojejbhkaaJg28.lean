/-
  TEXTS of one claim, put together: HMap, WHI1, Kk4, Kk5.
-/
import Derived.Test.YtmonaiojejbhkaaJg0
import Derived.Test.YtmonaiojejbhkaaJg2
import Derived.Maps.OwnSet
import Derived.DeepKeys4
import Derived.Laws.EntriesVeiled
import Derived.Shelf.Abstract
import Derived.Carry
import Derived.IntWalk
import Derived.Test.YtmonaiojejbhkaaJg9
/-! A MAP from pairs of numbers to numbers that remembers how many ways there are to choose. -/

namespace Go.Proofs.Ytmonaiojejbhkaa
open Go.RowKit
open Go.Maps (Keyed)
open Hn

/-- A pair of numbers, as a value. -/
def pairV (n k : Int) : Value := .agg #[.int .i64 n, .int .i64 k]

theorem pair_keyed : Keyed Try.prog 75 := Keyed.of_law (deep_law_laid (m := 2) (by kernel_rfl) (by omega) (of_decide_eq_true (by kernel_rfl)) (by kernel_rfl) (by rw [Try.underlying75]))

theorem pair_type : Try.prog.keyType 75 = true := by kernel_rfl
theorem pair_cells : Try.prog.cellsOf 75 = 2 := by kernel_rfl
theorem int_cells : Try.prog.cellsOf 3 = 1 := by kernel_rfl

theorem pair_lits (d : Nat) (n k : Int) (hn : (Lit.int .i64 n).wf = true) (hk : (Lit.int .i64 k).wf = true) :
    Try.prog.keyLits (d + 2) 75 [.int .i64 n, .int .i64 k] = some [.int .i64 n, .int .i64 k] := by
  simp [Program.keyLits, Try.underlying75, Try.underlying3, pair_cells, int_cells, hn, hk, show List.range 2 = [0, 1] from rfl]

theorem pair_key (n k : Int) (hn : (Lit.int .i64 n).wf = true) (hk : (Lit.int .i64 k).wf = true) : keyOf Try.prog 75 (pairV n k) = some (.string (keyBytes [.int .i64 n, .int .i64 k])) := by
  have hs : ∃ d, Try.prog.types.size + 1 = d + 2 := ⟨Try.prog.types.size - 1, by
    have : (75 : Nat) < Try.prog.types.size := of_decide_eq_true (by kernel_rfl)
    omega⟩
  obtain ⟨d, hd⟩ := hs
  have hf : (pairV n k).formed Try.prog 75 = true := by simp [pairV, Value.formed, Try.underlying75, pair_cells]
  unfold keyOf
  rw [Try.underlying75]
  show (if (Try.prog.keyType 75 && (pairV n k).formed Try.prog 75) = true then (Try.prog.keyLits (Try.prog.types.size + 1) 75 [.int .i64 n, .int .i64 k]).map (fun ls => Lit.string (keyBytes ls)) else none) = _
  rw [pair_type, hf, hd, pair_lits d n k hn hk]
  rfl

/-- Block b is a map of at most m entries: whatever it holds of a pair is how many ways there are to choose. -/
def CMap (w : World) (b m : Nat) : Prop :=
  ∃ D : DataW Unit, w.ownsMap Try.prog 75 (plainElem Try.prog 3) b m D ∧ Maps.IsMap D ∧ ∀ (n k : Nat) (l : Lit), keyOf Try.prog 75 (pairV n k) = some l → Maps.has D l = true → D.atKey l (.lit (.int .i64 0)) = .lit (.int .i64 (ch n k : Nat))

theorem CMap.made (w : World) : CMap (w.alloc (.map #[] 0)) w.heap.size 0 :=
  ⟨.map [], World.ownsMap_made w _ _ _, ⟨[], rfl⟩, fun _ _ _ _ h => by simp [Maps.has] at h⟩

theorem CMap.lt {w : World} {b m : Nat} (h : CMap w b m) : b < w.heap.size := by
  obtain ⟨D, h1, _⟩ := h
  exact h1.lt

theorem CMap.away {w w' : World} {b m : Nat} {row : Option Nat} (h : CMap w b m) (hg : w.grownBy w' row) (hne : some b ≠ row) : CMap w' b m := by
  obtain ⟨D, h1, h2, h3⟩ := h
  exact ⟨D, h1.kept hg hne, h2, h3⟩

theorem CMap.keeps {w w' : World} {b m : Nat} (h : CMap w b m) (hb : Below w.heap.size w w') : CMap w' b m := h.away (Mem.but_of_below hb none) (by simp)

theorem CMap.mono {w : World} {b m : Nat} (h : CMap w b m) {j : Nat} (hj : m ≤ j) : CMap w b j := by
  obtain ⟨D, h1, h2, h3⟩ := h
  exact ⟨D, h1.mono hj, h2, h3⟩

theorem CMap.setCell {w : World} {b m : Nat} (h : CMap w b m) (c o : Nat) (v : Value) (hc : c ≠ b) : CMap (w.setCell ⟨c, o, none⟩ v) b m :=
  h.away (Mem.but_setCell w c o v) (by simpa using fun e => hc e.symm)

theorem CMap.drewN {w : World} {b m : Nat} (h : CMap w b m) (n : Nat) : CMap (w.drewN n) b m := h

theorem cmap_zero (w : World) : (zeroValue 3).run Try.prog w = .ok (.int .i64 0) w := by kernel_rfl

theorem nat_wf {n : Nat} (h : n ≤ 9223372036854775807) : (Lit.int .i64 (n : Int)).wf = true := WalkArith.wf_i64 (by omega)

/-- v, ok := m[{n, k}] at the operation. -/
theorem wpList_cmap_look (w : World) {ops : Array Oper} {rest : List Oper} {o : Oper} {a : Act} {Q : Exit → Act → World → Prop}
    (hg : Region.wanted o (yielded ops a.tmps) = true) (m x : Operand) (hop : o.op = Op.lookup 73 m x true)
    (b j : Nat) (hm : a.eval m = .map (some b)) (h : CMap w b j) (n k : Nat) (hn : n ≤ 60) (hk : k ≤ 60) (hx : a.eval x = pairV n k)
    (hK : ∀ (c : Int) (ok : Bool), (ok = true → c = (ch n k : Nat)) → wpList Try.prog ops Q rest (a.put o.dst (.tuple #[.int .i64 c, .bool ok])) w) :
    wpList Try.prog ops Q (o :: rest) a w := by
  refine wpList_step fun K' hK' => ?_
  rw [if_pos hg]
  obtain ⟨D, h1, h2, h3⟩ := h
  have hkey := pair_key n k (nat_wf (by omega)) (nat_wf (by omega))
  obtain ⟨v, ps, hrun, hv⟩ := h1.look_ok pair_keyed Try.underlying73 (cmap_zero w) (plainElem_int Try.underlying3 (by decide)) hkey
  obtain ⟨c, rfl, hc, hwc⟩ := plainElem_int_inv Try.underlying3 hv
  unfold Oper.wp
  simp [execOp, hop, hm, hx, hrun, Result.andThen]
  refine hK' _ _ (hK c _ fun hok => ?_)
  have e := h3 n k _ hkey hok
  have e2 := congrArg Prod.fst hc
  rw [e] at e2
  injection e2 with e2
  injection e2 with _ e2
  exact e2.symm

/-- m[{n, k}] = how many ways, at the operation. -/
theorem wpList_cmap_put (w : World) {ops : Array Oper} {rest : List Oper} {o : Oper} {a : Act} {Q : Exit → Act → World → Prop}
    (hg : o.guard = none) (m x v : Operand) (hop : o.op = Op.mapUpdate 73 m x v)
    (b j : Nat) (hm : a.eval m = .map (some b)) (h : CMap w b j) (hj : j < maxLen) (n k : Nat) (hn : n ≤ 60) (hk : k ≤ 60) (hx : a.eval x = pairV n k) (z : Int) (hv : a.eval v = .int .i64 z) (hz : z = (ch n k : Nat))
    (hK : ∀ w', CMap w' b (j + 1) → w.grownBy w' (some b) → wpList Try.prog ops Q rest (a.put o.dst undef) w') :
    wpList Try.prog ops Q (o :: rest) a w := by
  subst hz
  obtain ⟨D, h1, h2, h3⟩ := h
  have hkey := pair_key n k (nat_wf (by omega)) (nat_wf (by omega))
  have hc := ch_big n k hn
  refine wpList_mapUpdate_own w hg m x v _ hop _ _ pair_keyed Try.underlying73 _ b j D hm h1 hj _ _ _ hx hv hkey (.lit (.int .i64 (ch n k : Nat))) [] (plainElem_int Try.underlying3 (nat_wf (by omega))) fun w' h1' hg' => ?_
  refine hK w' ⟨_, h1', h2.put _ _, fun n' k' l hl hh => ?_⟩ hg'
  by_cases e : l = .string (keyBytes [.int .i64 (n : Int), .int .i64 (k : Int)])
  · subst e
    have := pair_keyed.inj hl hkey
    unfold pairV at this
    injection this with this
    have e1 := congrArg (fun x : Array Value => x.getD 0 (.bool true)) this
    have e2 := congrArg (fun x : Array Value => x.getD 1 (.bool true)) this
    simp at e1 e2
    obtain rfl : n' = n := by omega
    obtain rfl : k' = k := by omega
    exact Maps.atKey_put_same h2 (pair_keyed.key hkey) _ _
  · rw [Maps.has_put_other e] at hh
    rw [Maps.atKey_put_other e]
    exact h3 n' k' l hl hh

end Go.Proofs.Ytmonaiojejbhkaa

/-! WALKS: impl's chapter 10: the closure that remembers how many ways there are to choose. -/

namespace Go.Proofs.Ytmonaiojejbhkaa
open Go.RowKit
open Hn

/-- The closure's value. -/
def remV (A C : Nat) : Value := .func (.func 73) #[] #[.pointer (some ⟨A, 0, none⟩), .pointer (some ⟨C, 0, none⟩)]

/-- Its two boxes, and its map. -/
def Rem (w : World) (A C M m : Nat) : Prop :=
  w.cell? ⟨A, 0, none⟩ = some (.map (some M)) ∧ w.cell? ⟨C, 0, none⟩ = some (remV A C) ∧ A < w.heap.size ∧ C < w.heap.size ∧ A ≠ M ∧ C ≠ M ∧ CMap w M m

theorem Rem.away {w w' : World} {A C M m : Nat} {row : Option Nat} (h : Rem w A C M m) (hg : w.grownBy w' row) (h1 : some A ≠ row) (h2 : some C ≠ row) (h3 : some M ≠ row) : Rem w' A C M m := by
  obtain ⟨a, c, la, lc, na, nc, hm⟩ := h
  have := hg.size
  exact ⟨(World.cell?_of_block (w := w) (w' := w') (a := ⟨A, 0, none⟩) (hg.block A la h1)).trans a, (World.cell?_of_block (w := w) (w' := w') (a := ⟨C, 0, none⟩) (hg.block C lc h2)).trans c, by omega, by omega, na, nc, hm.away hg h3⟩
theorem Rem.keeps {w w' : World} {A C M m : Nat} (h : Rem w A C M m) (hb : Below w.heap.size w w') : Rem w' A C M m := h.away (Mem.but_of_below hb none) (by simp) (by simp) (by simp)
theorem Rem.put {w w' : World} {A C M m j : Nat} (h : Rem w A C M m) (hg : w.grownBy w' (some M)) (hm : CMap w' M j) : Rem w' A C M j := by
  obtain ⟨a, c, la, lc, na, nc, _⟩ := h
  have := hg.size
  exact ⟨(World.cell?_of_block (w := w) (w' := w') (a := ⟨A, 0, none⟩) (hg.block A la (by simpa using na))).trans a, (World.cell?_of_block (w := w) (w' := w') (a := ⟨C, 0, none⟩) (hg.block C lc (by simpa using nc))).trans c, by omega, by omega, na, nc, hm⟩
theorem Rem.mono {w : World} {A C M m j : Nat} (h : Rem w A C M m) (hj : m ≤ j) : Rem w A C M j := by
  obtain ⟨a, c, la, lc, na, nc, hm⟩ := h
  exact ⟨a, c, la, lc, na, nc, hm.mono hj⟩
theorem Rem.drewN {w : World} {A C M m : Nat} (h : Rem w A C M m) (n : Nat) : Rem (w.drewN n) A C M m := h
theorem Rem.map {w : World} {A C M m : Nat} (h : Rem w A C M m) : CMap w M m := h.2.2.2.2.2.2

theorem cell_at (w : World) (v : Value) (t : TypeId) (B : Nat) (h : B = w.heap.size) : (w.alloc (.cells #[v] t)).cell? ⟨B, 0, none⟩ = some v := by
  subst h; exact Mem.cell_new w [v] t 0 v rfl

set_option maxRecDepth 100000 in
set_option maxHeartbeats 2000000 in
theorem remember_any (w : World) :
    Calls Try.prog 47 #[] w fun e w' => ∃ A C M : Nat, e = .returned (remV A C) ∧ w.heap.size ≤ A ∧ w.heap.size ≤ C ∧ w.heap.size ≤ M ∧ Rem w' A C M 0 ∧ Below w.heap.size w w' := by
  have hm := CMap.made w
  have hmm := @run_makeMap Try.prog
  go_enter Try.func47, Try.ntmps47
  go_wp2
  go_ret
  refine ⟨w.heap.size + 1, w.heap.size + 1 + 1, w.heap.size, rfl, by omega, by omega, Nat.le_refl _, ⟨?_, ?_, ?_, ?_, by omega, by omega, (hm.keeps ((Below.refl _ _).alloc (Nat.le_refl _) _)).keeps ((Below.refl _ _).alloc (Nat.le_refl _) _)⟩, ?_⟩
  · rw [World.cell?_alloc_past _ _ _ (by simp only [World.size_alloc]; omega)]
    refine cell_at _ _ _ _ ?_
    simp only [World.size_alloc]
  · refine cell_at _ _ _ _ ?_
    simp only [World.size_alloc]
  · simp
  · simp
  · exact (((Below.refl _ _).alloc (Nat.le_refl _) _).alloc (by simp) _).alloc (by simp; omega) _

set_option maxRecDepth 100000 in
set_option maxHeartbeats 2000000 in
theorem choose1_out (A C : Nat) (n k : Int) (h : k < 0 ∨ n < k) (w : World) :
    Calls Try.prog 73 #[.int .i64 n, .int .i64 k, .pointer (some ⟨A, 0, none⟩), .pointer (some ⟨C, 0, none⟩)] w fun e w' => e = .returned (.int .i64 0) ∧ w' = w := by
  by_cases h0 : k < 0
  · have hd : decide (k < 0) = true := by simpa using h0
    go_enter Try.func73, Try.ntmps73
    go_wp2
    go_ret
    exact ⟨rfl, rfl⟩
  · have h1 : n < k := by omega
    have hd : decide (k < 0) = false := by simpa using h0
    have hd1 : decide (n < k) = true := by simpa using h1
    clear h
    go_enter Try.func73, Try.ntmps73
    go_wp2
    go_ret
    exact ⟨rfl, rfl⟩

set_option maxRecDepth 100000 in
set_option maxHeartbeats 4000000 in
theorem choose1_in (A C M : Nat) : ∀ (k n m : Nat) (w : World), k ≤ n → n ≤ 60 → m + k < 1099511627776 → Rem w A C M m →
    Calls Try.prog 73 #[.int .i64 (n : Int), .int .i64 (k : Int), .pointer (some ⟨A, 0, none⟩), .pointer (some ⟨C, 0, none⟩)] w fun e w' => e = .returned (.int .i64 (ch n k : Nat)) ∧ Rem w' A C M (m + k) ∧ w.grownBy w' (some M) := by
  intro k
  induction k with
  | zero =>
    intro n m w hkn hn hm hR
    have HR := Lib.hid hR
    have hd1 : decide ((n : Int) < 0) = false := by simp
    rw [ch_zero]
    clear hR
    go_enter Try.func73, Try.ntmps73
    go_wp2
    go_ret
    exact ⟨rfl, HR.out, Mem.but_refl _ _⟩
  | succ k ih =>
    intro n m w hkn hn hm hR
    obtain ⟨N, hN⟩ : ∃ N, n = N + 1 := ⟨n - 1, by omega⟩
    obtain ⟨K, hK⟩ : ∃ K, K = k + 1 := ⟨_, rfl⟩
    have HR := Lib.hid hR
    obtain ⟨r1, r2o, r3, r4, r5, r6, r7⟩ := hR
    have HM := Lib.hid r7
    have hd0 : decide ((K : Int) < 0) = false := by simp
    have hd1 : decide (n < K) = false := by simp; omega
    have hd2 : ((K : Int) == 0) = false := by simp; omega
    have r2 : w.cell? ⟨C, 0, none⟩ = some (.func (.func 73) #[] #[.pointer (some ⟨A, 0, none⟩), .pointer (some ⟨C, 0, none⟩)]) := r2o
    clear r2o
    have hk0 : (K : Int) ≠ 0 := by omega
    have eg : ∀ args w, (callFunc 73 args).run Try.prog w = .ok (.enter 73 args) w := enters_of Try.func73 (by kernel_rfl) rfl
    obtain ⟨y, hy⟩ : ∃ y, ch n K = y := ⟨_, rfl⟩
    obtain ⟨x, hx⟩ : ∃ x, ch N k = x := ⟨_, rfl⟩
    have hmul := ch_mul N k
    rw [← hN, ← hK, hx, hy] at hmul
    have hby := ch_big n K hn
    rw [hy] at hby
    have hval : wrap64 ((wrap64 ((x : Int) * (n : Int))).tdiv (K : Int)) = (y : Int) := by
      have hz : y * K ≤ 118264581564861424 * 60 := Nat.mul_le_mul hby (by omega)
      have e3 : ((y * K : Nat) : Int).tdiv (K : Int) = (y : Int) := by
        have : ((y * K : Nat) : Int) = (y : Int) * (K : Int) := by simp
        rw [this]
        exact Int.mul_tdiv_cancel _ hk0
      have e2 : (x : Int) * (n : Int) = ((y * K : Nat) : Int) := by rw [hmul]; simp
      rw [e2]
      generalize y * K = z at hz e3
      rw [IntWalk.wrap64_in (z : Int) (by omega), e3, IntWalk.wrap64_in (y : Int) (by omega)]
    have IH : Hid (Calls Try.prog 73 #[.int .i64 ((n : Int) - 1), .int .i64 ((K : Int) - 1), .pointer (some ⟨A, 0, none⟩), .pointer (some ⟨C, 0, none⟩)] w fun e w' => e = .returned (.int .i64 (x : Int)) ∧ Rem w' A C M (m + k) ∧ w.grownBy w' (some M)) := by
      have h := ih N m w (by omega) (by omega) (by omega) HR.out
      rw [hx, show (N : Int) = (n : Int) - 1 by omega, show (k : Int) = (K : Int) - 1 by omega] at h
      exact h
    have HV := Lib.hid hval
    have HY := Lib.hid hy
    have HK := Lib.hid hK
    have hK60 : K ≤ 60 := by omega
    have hK1 : 1 ≤ K := by omega
    have hn1 : 1 ≤ n := by omega
    have hmk : m + k < 1099511627776 := by omega
    rw [← hK, hy]
    clear r7 ih hval hy hx hmul hN hK hm hkn
    go_enter Try.func73, Try.ntmps73
    have hmax : m + k < maxLen := by unfold maxLen; omega
    have HMX := Lib.hid hmax
    clear hmax
    go_wp2_with (first
      | (at_lookup; refine wpList_cmap_look _ rfl _ _ rfl M m rfl HM.out n K hn hK60 rfl ?_; intro c ok hok)
      | (go_at_fn 73; refine IH.out.mono ?_; rintro e w1 ⟨rfl, hR1, hg1⟩; have HR1 := Lib.hid hR1; have HG1 := Lib.hid hg1; obtain ⟨s1, _, s3, s4, _, _, _⟩ := hR1; clear hg1)
      | (at_mapUpdate; refine wpList_cmap_put _ rfl _ _ _ rfl M (m + k) rfl HR1.out.map HMX.out n K hn hK60 rfl _ rfl (HV.out.trans (by rw [HY.out])) ?_; intro w2 hM2 hg2))
    · go_ret
      have hR2 := HR1.out.put hg2 hM2
      rw [show m + k + 1 = m + K by rw [HK.out]; omega] at hR2
      exact ⟨by rw [HV.out]; rfl, hR2, HG1.out.trans hg2⟩
    · rename_i hc
      have e : c = (y : Int) := by rw [hok (by simpa using hc), HY.out]
      go_ret
      exact ⟨by rw [e]; rfl, HR.out.mono (by omega), Mem.but_refl _ _⟩

/-- .. at numbers that are given as such. -/
theorem choose1_z (A C M : Nat) (n k m : Nat) (zn zk : Int) (hzn : zn = (n : Int)) (hzk : zk = (k : Int)) (x : Nat) (hx : ch n k = x) (w : World) (hkn : k ≤ n) (hn : n ≤ 60) (hm : m + 60 < 1099511627776) (hR : Rem w A C M m) :
    Calls Try.prog 73 #[.int .i64 zn, .int .i64 zk, .pointer (some ⟨A, 0, none⟩), .pointer (some ⟨C, 0, none⟩)] w fun e w' => e = .returned (.int .i64 (x : Int)) ∧ Rem w' A C M (m + 60) ∧ w.grownBy w' (some M) := by
  subst hzn hzk hx
  refine (choose1_in A C M k n m w hkn hn (by omega) hR).mono ?_
  rintro e w' ⟨rfl, h1, h2⟩
  exact ⟨rfl, h1.mono (by omega), h2⟩

set_option maxRecDepth 100000 in
set_option maxHeartbeats 4000000 in
theorem implChooseZ_any (n k : Int) (w : World) : Calls Try.prog 57 #[.int .i64 n, .int .i64 k] w fun e w' => e = .returned (.int .i64 (chZ n k)) ∧ Below w.heap.size w w' := by
  have eg : ∀ args w, (callFunc 73 args).run Try.prog w = .ok (.enter 73 args) w := enters_of Try.func73 (by kernel_rfl) rfl
  by_cases h0 : n < 0
  · have hd : decide (n < 0) = true := by simpa using h0
    have e : chZ n k = 0 := by unfold chZ; rw [if_neg (by omega)]
    rw [e]
    go_enter Try.func57, Try.ntmps57
    go_wp2
    go_ret
    exact ⟨rfl, Below.refl _ _⟩
  · have hd : decide (n < 0) = false := by simpa using h0
    by_cases h6 : 60 < n
    · have hd6 : decide (60 < n) = true := by simpa using h6
      have e : chZ n k = 0 := by unfold chZ; rw [if_neg (by omega)]
      rw [e]
      go_enter Try.func57, Try.ntmps57
      go_wp2
      go_ret
      exact ⟨rfl, Below.refl _ _⟩
    · have hd6 : decide (60 < n) = false := by simpa using h6
      by_cases hk : k < 0 ∨ n < k
      · have HE : Hid (chZ n k = 0) := by
          have : chZ n k = 0 := by unfold chZ; rw [if_neg (by omega)]
          exact this
        have HK := Lib.hid hk
        rw [HE.out]
        clear hk
        go_enter Try.func57, Try.ntmps57
        go_wp2_with fail
        refine (remember_any _).mono ?_
        rintro e w1 ⟨A, C, M, rfl, hA, hC, hM, hR, hb⟩
        have HB := Lib.hid hb
        unfold remV
        clear hR hb
        go_wp2_with (go_at_fn 73; refine (choose1_out A C n k HK.out _).mono ?_; rintro e w2 ⟨rfl, rfl⟩)
        go_ret
        exact ⟨rfl, HB.out⟩
      · obtain ⟨N, rfl⟩ : ∃ N : Nat, n = (N : Int) := ⟨n.toNat, by omega⟩
        obtain ⟨K, rfl⟩ : ∃ K : Nat, k = (K : Int) := ⟨k.toNat, by omega⟩
        have hN : N ≤ 60 := by omega
        have hK : K ≤ N := by omega
        obtain ⟨x, hx⟩ : ∃ x, ch N K = x := ⟨_, rfl⟩
        have HE : Hid (chZ (N : Int) (K : Int) = (x : Int)) := by
          have : chZ (N : Int) (K : Int) = (x : Int) := by unfold chZ; rw [if_pos (by omega), ← hx]; rfl
          exact this
        have HX := Lib.hid hx
        rw [HE.out]
        clear hk hx
        go_enter Try.func57, Try.ntmps57
        go_wp2_with fail
        refine (remember_any _).mono ?_
        rintro e w1 ⟨A, C, M, rfl, hA, hC, hM, hR, hb⟩
        have HB := Lib.hid hb
        have HR := Lib.hid hR
        unfold remV
        clear hR hb
        go_wp2_with (go_at_fn 73; refine (choose1_z A C M N K 0 _ _ rfl rfl x HX.out _ hK hN (by omega) HR.out).mono ?_; rintro e w2 ⟨rfl, hR2, hg2⟩)
        go_ret
        exact ⟨rfl, HB.out.trans (Mem.below_of_but hg2 hM HB.out.size)⟩

end Go.Proofs.Ytmonaiojejbhkaa

/-! COMPRESSED COMPLEXES, of no program: they have the counts that they are made of. -/

namespace Go.Proofs.Ytmonaiojejbhkaa.Kk
open Sets Hn

/-- The sets with k points, ascending. -/
def lev : Nat → List Nat
  | 0 => [0]
  | 1 => ones
  | 2 => twos
  | 3 => threes
  | 4 => [15, 23, 27, 29, 30, 39, 43, 45, 46, 51, 53, 54, 57, 58, 60]
  | 5 => [31, 47, 55, 59, 61, 62]
  | 6 => [63]
  | _ => []
theorem lev_is : ∀ k : Fin 7, lev k.val = (List.range 64).filter fun s => pc s == k.val := by decide +kernel
theorem lev_ord : ∀ k : Fin 7, (ord fun _ => true).filter (fun x => pc x.toNat == k.val) = (lev k.val).map Int.ofNat := by decide +kernel
theorem lev_len : ∀ k : Fin 7, (lev k.val).length = ch 6 k.val := by decide +kernel
theorem lev_nodup : ∀ k : Fin 7, (lev k.val).Nodup := by decide +kernel
theorem mem_lev {k s : Nat} (hk : k ≤ 6) : s ∈ lev k ↔ s < 64 ∧ pc s = k := by
  rw [lev_is ⟨k, by omega⟩, List.mem_filter, List.mem_range, beq_iff_eq]
def firstN (k m : Nat) : List Nat := (lev k).take m
/-- FirstSets. -/
def fsZ (k m : Int) : List Int := if 0 ≤ k ∧ k ≤ 6 ∧ 0 ≤ m ∧ m ≤ (ch 6 k.toNat : Int) then (firstN k.toNat m.toNat).map Int.ofNat else []
theorem fsZ_le (k m : Int) : (fsZ k m).length ≤ 20 := by
  unfold fsZ
  split
  · rename_i h
    rw [List.length_map]
    unfold firstN
    rw [List.length_take]
    have := ch_few 6 k.toNat (by omega)
    omega
  · simp
theorem fsZ_in {k m : Nat} (hk : k ≤ 6) (hm : m ≤ ch 6 k) : fsZ (k : Int) (m : Int) = (firstN k m).map Int.ofNat := by
  unfold fsZ; rw [if_pos (by rw [Int.toNat_natCast]; omega)]; rfl

theorem shadows : ∀ k : Fin 6, ∀ m : Fin 21, ((firstN (k.val + 1) m.val).all fun t => (lev k.val).all fun s => !sub s t || (firstN k.val (sh 0 (k.val + 1) m.val)).contains s) = true := by decide +kernel
theorem between : ∀ s t : Fin 64, sub s.val t.val = true → s.val ≠ t.val → ∃ i : Fin 6, sub s.val (t.val - 2 ^ i.val) = true ∧ sub (t.val - 2 ^ i.val) t.val = true ∧ pc (t.val - 2 ^ i.val) + 1 = pc t.val := by decide +kernel

/-- May such a list be compressed? -/
def fitsB (L : List Int) : Bool := countsB L && (List.range L.length).all fun k => decide (L.getD k 0 ≤ (ch 6 k : Int))
/-- What is a face then. -/
def inL (L : List Int) (s : Nat) : Bool := decide (pc s < L.length) && (firstN (pc s) (L.getD (pc s) 0).toNat).contains s
/-- All the sets, one size behind the other. -/
def setsTo (L : List Int) : Nat → List Int
  | 0 => []
  | k + 1 => setsTo L k ++ fsZ (k : Int) (L.getD k 0)
/-- CompressedComplex. -/
def compO (L : List Int) : Option (Int × List Int) := if fitsB L = true then some (6, maximal (setsTo L L.length)) else none

theorem fits_at {L : List Int} (h : fitsB L = true) (k : Nat) (hk : k < L.length) : 1 ≤ L.getD k 0 ∧ L.getD k 0 ≤ (ch 6 k : Int) ∧ k ≤ 6 ∧ (0 < k → sh 0 k (L.getD k 0).toNat ≤ (L.getD (k - 1) 0).toNat) := by
  unfold fitsB at h
  rw [Bool.and_eq_true, List.all_eq_true] at h
  have h1 := (stepB_iff L k).1 (countsB_step h.1 k hk)
  have h2 := of_decide_eq_true (h.2 k (List.mem_range.2 hk))
  have h3 := countsB_length h.1
  refine ⟨h1.1, h2, by omega, fun h0 => ?_⟩
  have h4 := h1.2.2.2 h0
  have e : L.getD k 0 = ((L.getD k 0).toNat : Int) := by omega
  rw [e, boundZ_in (by omega) h0 (by omega)] at h4
  omega
theorem inL_iff {L : List Int} (s : Nat) : inL L s = true ↔ pc s < L.length ∧ s ∈ firstN (pc s) (L.getD (pc s) 0).toNat := by
  unfold inL
  rw [Bool.and_eq_true, decide_eq_true_eq, List.contains_iff_mem]
theorem take_mono {α : Type} {l : List α} {m n : Nat} (h : m ≤ n) {x : α} (hx : x ∈ l.take m) : x ∈ l.take n := by
  have e : l.take m = (l.take n).take m := by rw [List.take_take, Nat.min_eq_left h]
  rw [e] at hx
  exact List.mem_of_mem_take hx
theorem inL_step {L : List Int} (h : fitsB L = true) {s t : Nat} (hs : s < 64) (hst : sub s t = true) (hpc : pc s + 1 = pc t) (hp : inL L t = true) : inL L s = true := by
  rw [inL_iff] at hp ⊢
  obtain ⟨h1, h2⟩ := hp
  obtain ⟨a1, a2, a3, a4⟩ := fits_at h (pc t) h1
  have hs1 := pc_le t
  refine ⟨by omega, ?_⟩
  have h20 := ch_few 6 (pc t) (by omega)
  have hsh := shadows ⟨pc s, by omega⟩ ⟨(L.getD (pc t) 0).toNat, by omega⟩
  dsimp only at hsh
  rw [hpc, List.all_eq_true] at hsh
  have h3 := hsh t h2
  rw [List.all_eq_true] at h3
  have h4 := h3 s ((mem_lev (by omega)).2 ⟨hs, rfl⟩)
  rw [hst] at h4
  have h5 : s ∈ firstN (pc s) (sh 0 (pc t) (L.getD (pc t) 0).toNat) := by
    rw [← List.contains_iff_mem]; simpa using h4
  have h6 := a4 (by omega)
  rw [show pc t - 1 = pc s by omega] at h6
  exact take_mono h6 h5
theorem inL_down {L : List Int} (h : fitsB L = true) : Down (inL L) := by
  have key : ∀ (d s t : Nat), pc t = pc s + d → s < 64 → t < 64 → sub s t = true → inL L t = true → inL L s = true := by
    intro d
    induction d with
    | zero =>
      intro s t hd hs ht hst hp
      by_cases e : s = t
      · rw [e]; exact hp
      · exfalso
        obtain ⟨i, h1, h2, h3⟩ := between ⟨s, hs⟩ ⟨t, ht⟩ hst e
        have : ∀ a b : Fin 64, sub a.val b.val = true → pc a.val ≤ pc b.val := by decide +kernel
        have := this ⟨s, hs⟩ ⟨t - 2 ^ i.val, Nat.lt_of_le_of_lt (Nat.sub_le _ _) ht⟩ h1
        dsimp only at this h3
        omega
    | succ d ih =>
      intro s t hd hs ht hst hp
      have e : s ≠ t := fun e => by rw [e] at hd; omega
      obtain ⟨i, h1, h2, h3⟩ := between ⟨s, hs⟩ ⟨t, ht⟩ hst e
      dsimp only at h1 h2 h3
      have hu : t - 2 ^ i.val < 64 := Nat.lt_of_le_of_lt (Nat.sub_le _ _) ht
      exact ih s (t - 2 ^ i.val) (by omega) hs hu h1 (inL_step h hu h2 (by omega) hp)
  intro s t hs ht hst hp
  have hle : ∀ a b : Fin 64, sub a.val b.val = true → pc a.val ≤ pc b.val := by decide +kernel
  have := hle ⟨s, hs⟩ ⟨t, ht⟩ hst
  dsimp only at this
  exact key (pc t - pc s) s t (by omega) hs ht hst hp

theorem count_take (l : List Nat) (hn : l.Nodup) (m : Nat) (hm : m ≤ l.length) : (l.countP fun s => (l.take m).contains s) = m := by
  have e : l.countP (fun s => (l.take m).contains s) = (l.take m).countP (fun s => (l.take m).contains s) + (l.drop m).countP (fun s => (l.take m).contains s) := by
    rw [← List.countP_append, List.take_append_drop]
  have h1 : (l.take m).countP (fun s => (l.take m).contains s) = (l.take m).length := List.countP_eq_length.2 (fun s hs => by rw [List.contains_iff_mem]; exact hs)
  have h2 : (l.drop m).countP (fun s => (l.take m).contains s) = 0 := by
    rw [List.countP_eq_zero]
    intro s hs hc
    rw [List.contains_iff_mem] at hc
    have hd : (l.take m ++ l.drop m).Nodup := by rw [List.take_append_drop]; exact hn
    exact (List.nodup_append.1 hd).2.2 s hc s hs rfl
  rw [e, h1, h2, List.length_take]
  omega
theorem cnt_inL {L : List Int} (h : fitsB L = true) (k : Nat) (hk : k ≤ 6) : cnt k (ord (inL L)) = if k < L.length then (L.getD k 0).toNat else 0 := by
  rw [cnt_list k (lev k) (lev_ord ⟨k, by omega⟩)]
  by_cases e : k < L.length
  · rw [if_pos e]
    obtain ⟨a1, a2, _, _⟩ := fits_at h k e
    rw [← count_take (lev k) (lev_nodup ⟨k, by omega⟩) (L.getD k 0).toNat (by rw [lev_len ⟨k, by omega⟩]; dsimp only; omega)]
    apply List.countP_congr
    intro s hs
    have hpc := ((mem_lev hk).1 hs).2
    rw [inL_iff, hpc, List.contains_iff_mem]
    exact ⟨fun h => h.2, fun h => ⟨e, h⟩⟩
  · rw [if_neg e, List.countP_eq_zero]
    intro s hs hc
    have hpc := ((mem_lev hk).1 hs).2
    rw [inL_iff, hpc] at hc
    exact e hc.1
theorem mem_setsTo {L : List Int} (h : fitsB L = true) : ∀ (n : Nat), n ≤ L.length → ∀ x : Int, x ∈ setsTo L n ↔ ∃ s : Nat, x = (s : Int) ∧ s < 64 ∧ pc s < n ∧ inL L s = true
  | 0, _, x => by
    constructor
    · intro h; simp [setsTo] at h
    · rintro ⟨s, _, _, h, _⟩; omega
  | n + 1, hn, x => by
    obtain ⟨a1, a2, a3, _⟩ := fits_at h n (by omega)
    have e : L.getD n 0 = ((L.getD n 0).toNat : Int) := by omega
    have e2 : fsZ (n : Int) (L.getD n 0) = (firstN n (L.getD n 0).toNat).map Int.ofNat := by
      conv => lhs; rw [e]
      exact fsZ_in a3 (by omega)
    rw [setsTo, List.mem_append, mem_setsTo h n (by omega) x, e2, List.mem_map]
    constructor
    · rintro (⟨s, h1, h2, h3, h4⟩ | ⟨s, h1, h2⟩)
      · exact ⟨s, h1, h2, by omega, h4⟩
      · have hm := (mem_lev a3).1 (List.mem_of_mem_take h1)
        exact ⟨s, h2.symm, hm.1, by omega, by rw [inL_iff, hm.2]; exact ⟨by omega, h1⟩⟩
    · rintro ⟨s, h1, h2, h3, h4⟩
      rcases Nat.lt_or_eq_of_le (Nat.le_of_lt_succ h3) with e3 | e3
      · exact Or.inl ⟨s, h1, h2, e3, h4⟩
      · rw [inL_iff, e3] at h4
        exact Or.inr ⟨s, h4.2, h1.symm⟩
theorem setsTo_ok {L : List Int} (h : fitsB L = true) : allOk (setsTo L L.length) = true := by
  unfold allOk
  rw [List.all_eq_true]
  intro x hx
  obtain ⟨s, rfl, hs, _⟩ := (mem_setsTo h L.length (Nat.le_refl _) x).1 hx
  exact (okZ_nat s).2 hs
theorem setsTo_len (L : List Int) : ∀ n, (setsTo L n).length ≤ 20 * n
  | 0 => by simp [setsTo]
  | n + 1 => by
    rw [setsTo, List.length_append]
    have := setsTo_len L n
    have := fsZ_le (n : Int) (L.getD n 0)
    omega
theorem inF_sets {L : List Int} (h : fitsB L = true) (t : Nat) (ht : t < 64) : inF (setsTo L L.length) t = inL L t := by
  rw [Bool.eq_iff_iff, inF_iff]
  constructor
  · rintro ⟨x, hx, hs⟩
    obtain ⟨s, rfl, hs64, _, hp⟩ := (mem_setsTo h L.length (Nat.le_refl _) x).1 hx
    exact inL_down h t s ht hs64 hs hp
  · intro hp
    exact ⟨(t : Int), (mem_setsTo h L.length (Nat.le_refl _) _).2 ⟨t, rfl, ht, ((inL_iff t).1 hp).1, hp⟩, by simp [sub]⟩
theorem comp_isC {L : List Int} (h : fitsB L = true) : isC 6 (maximal (setsTo L L.length)) = true := by
  apply isC_maximal 6 _ (by decide) (by decide)
  intro x hx
  obtain ⟨s, rfl, hs, _⟩ := (mem_setsTo h L.length (Nat.le_refl _) x).1 hx
  have : ∀ s : Fin 64, setB 6 (s.val : Int) = true := by decide +kernel
  exact this ⟨s, hs⟩
theorem comp_faces {L : List Int} (h : fitsB L = true) : faces 6 (maximal (setsTo L L.length)) = ord (inL L) := by
  have hd : Down (inF (setsTo L L.length)) := inF_down _
  unfold faces
  rw [if_pos (comp_isC h), maximal_maxQ _ (setsTo_ok h)]
  apply ord_congr
  intro s hs
  rw [inF_maxQ _ hd s hs, inF_sets h s hs]
/-- A compressed complex has the counts that it is made of. -/
theorem comp_counts {L : List Int} (h : fitsB L = true) : counts (faces 6 (maximal (setsTo L L.length))) = L := by
  rw [comp_faces h]
  have hl : 1 ≤ L.length ∧ L.length ≤ 7 := by
    unfold fitsB at h
    rw [Bool.and_eq_true] at h
    exact countsB_length h.1
  have ht : top (ord (inL L)) = L.length := by
    have h1 := top_le (ord (inL L))
    rcases Nat.lt_trichotomy (top (ord (inL L))) L.length with e | e | e
    · exfalso
      have h2 := cnt_inL h (L.length - 1) (by omega)
      rw [if_pos (by omega)] at h2
      have h3 := ge_top (ord (inL L)) (L.length - 1) (by omega)
      have h4 := (fits_at h (L.length - 1) (by omega)).1
      omega
    · exact e
    · exfalso
      have h2 := top_pos (ord (inL L)) (by omega)
      have h3 := cnt_inL h (top (ord (inL L)) - 1) (by omega)
      rw [if_neg (by omega)] at h3
      omega
  apply List.ext_getElem (by rw [counts_length, ht])
  intro k h1 h2
  have e1 := counts_at (ord (inL L)) k (by omega)
  rw [cnt_inL h k (by omega), if_pos h2] at e1
  have a1 := (fits_at h k h2).1
  rw [List.getD, List.getElem?_eq_getElem h1] at e1
  have e2 : L.getD k 0 = L[k] := by rw [List.getD, List.getElem?_eq_getElem h2]; rfl
  simp only [Option.getD_some] at e1
  rw [e1, ← e2]
  omega

end Go.Proofs.Ytmonaiojejbhkaa.Kk

/-! CASCADES, of no program: what the walks need: bounds, lists of numbers. -/

namespace Go.Proofs.Ytmonaiojejbhkaa.Kk
open Sets Hn

/-- For these numbers all products stay small. -/
def goodB (n k : Nat) : Prop := n ≤ 46 ∧ k ≤ 7 ∨ n ≤ 1001 ∧ k ≤ 2
theorem line46 : ∀ j : Fin 8, (line 46).getD j.val 0 ≤ 53524680 := by decide +kernel
theorem ch_one (n : Nat) : ch n 1 = n := by
  induction n with
  | zero => rfl
  | succ n ih => rw [ch_next, ch_zero, ih]; omega
theorem ch_two (n : Nat) : ch n 2 * 2 ≤ n * n := by
  rcases Nat.eq_zero_or_pos n with e | e
  · subst e; decide
  · have := ch_step n 1 e
    rw [ch_one] at this
    show ch n (1 + 1) * (1 + 1) ≤ n * n
    rw [this]
    exact Nat.mul_le_mul_left n (Nat.sub_le _ _)
theorem good_at {n k : Nat} (h : goodB n k) (j : Nat) (hj : j ≤ k) : ch n j * n ≤ 4611686018427387904 := by
  rcases h with ⟨h1, h2⟩ | ⟨h1, h2⟩
  · have h3 : ch n j ≤ 53524680 := by
      rcases Nat.eq_zero_or_pos j with e | e
      · rw [e, ch_zero]; decide
      · have := ch_mono (i := j) e h1
        have h4 := line46 ⟨j, by omega⟩
        have h4 : (line 46).getD j 0 ≤ 53524680 := h4
        rw [line_get] at h4
        omega
    exact Nat.le_trans (Nat.mul_le_mul h3 h1) (by decide)
  · have h3 : ch n j ≤ 1002001 := by
      rcases (by omega : j = 0 ∨ j = 1 ∨ j = 2) with rfl | rfl | rfl
      · rw [ch_zero]; decide
      · rw [ch_one]; omega
      · have h4 := ch_two n
        have h5 := Nat.mul_le_mul h1 h1
        omega
    exact Nat.le_trans (Nat.mul_le_mul h3 h1) (by decide)
theorem small_up {i a q : Nat} (h2 : 2 ≤ i) (h6 : i ≤ 6) (h : ch a i ≤ q) (hq : q ≤ 1000) : a ≤ 45 := by
  rcases Nat.lt_or_ge 45 a with e | e
  · exfalso
    have h1 := big46 ⟨i, by omega⟩ h2
    have h1 : 1001 ≤ (line 46).getD i 0 := h1
    rw [line_get] at h1
    have h3 := ch_mono (i := i) (by omega) (show 46 ≤ a by omega)
    omega
  · exact e
theorem good_up (i a q : Nat) (h1 : 1 ≤ i) (h6 : i ≤ 6) (h : ch a i ≤ q) (hq : q ≤ 1000) : goodB (a + 1) i ∧ a ≤ 1000 ∧ goodB a i := by
  rcases Nat.lt_or_ge i 2 with e | e
  · have e1 : i = 1 := by omega
    subst e1
    rw [ch_one] at h
    exact ⟨.inr ⟨by omega, by omega⟩, by omega, .inr ⟨by omega, by omega⟩⟩
  · have := small_up e h6 h hq
    exact ⟨.inl ⟨by omega, by omega⟩, by omega, .inl ⟨by omega, by omega⟩⟩
/-- Numbers as they stand in a slice. -/
def ofN (L : List Nat) : List Int := L.map Int.ofNat
theorem ofN_length (L : List Nat) : (ofN L).length = L.length := List.length_map ..
theorem ofN_snoc (L : List Nat) (a : Nat) : ofN (L ++ [a]) = ofN L ++ [(a : Int)] := by unfold ofN; rw [List.map_append]; rfl
theorem ofN_at (L : List Nat) (j : Nat) (h : j < L.length) : (ofN L).getD j 0 = (L.getD j 0 : Nat) := by
  unfold ofN
  rw [List.getD, List.getElem?_map, List.getD, List.getElem?_eq_getElem h]
  rfl
def fineB (m k : Int) : Bool := decide (0 ≤ m ∧ m ≤ 1000) && decide (1 ≤ k ∧ k ≤ 6)
/-- CascadeOf. -/
def cascZ (m k : Int) : List Int := if fineB m k = true then ofN (casc k.toNat m.toNat) else []
theorem cascZ_le (m k : Int) : (cascZ m k).length ≤ 1048576 := by
  unfold cascZ
  split
  · rename_i h
    unfold fineB at h
    rw [Bool.and_eq_true, decide_eq_true_eq, decide_eq_true_eq] at h
    rw [ofN_length]
    have := casc_le k.toNat m.toNat
    omega
  · simp
theorem casc_one (m j : Nat) (hm : m ≤ 1000) (hj : j < (casc 1 m).length) : (casc 1 m).getD j 0 ≤ 1000 ∧ j = 0 := by
  have hl := casc_le 1 m
  have e : j = 0 := by omega
  subst e
  refine ⟨?_, rfl⟩
  rw [casc] at hj ⊢
  by_cases e : m = 0
  · rw [if_pos e]; decide
  · rw [if_neg e]
    obtain ⟨_, g1, _⟩ := gr_spec (m := m) (i := 1) (by omega) (by omega) hm
    rw [ch_one] at g1
    show gr m 1 ≤ 1000
    omega
theorem casc_good0 (K M : Nat) (h1 : 1 ≤ K) (h6 : K ≤ 6) (hM : M ≤ 1000) (j : Nat) (hj : j < (casc K M).length) : goodB ((casc K M).getD j 0 + 0) (K - 1 - j + 2 * 0) := by
  rcases Nat.lt_or_ge K 2 with e | e
  · have e1 : K = 1 := by omega
    subst e1
    have := casc_one M j hM hj
    exact .inr ⟨by omega, by omega⟩
  · have := casc_small K M j e h6 hM hj
    exact .inl ⟨by omega, by omega⟩
theorem casc_good1 (K M : Nat) (h1 : 1 ≤ K) (h6 : K ≤ 6) (hM : M ≤ 1000) (j : Nat) (hj : j < (casc K M).length) : goodB ((casc K M).getD j 0 + 1) (K - 1 - j + 2 * 1) := by
  rcases Nat.lt_or_ge K 2 with e | e
  · have e1 : K = 1 := by omega
    subst e1
    have := casc_one M j hM hj
    exact .inr ⟨by omega, by omega⟩
  · have := casc_small K M j e h6 hM hj
    exact .inl ⟨by omega, by omega⟩
/-- A sum of few small numbers. -/
theorem sumT_le (f : Nat → Nat → Nat) (L : List Nat) (b : Nat) : ∀ n : Nat, (∀ j, j < n → f j (L.getD j 0) ≤ b) → sumT f L n ≤ b * n
  | 0, _ => Nat.le_refl _
  | n + 1, h => by
    rw [sumT, Nat.mul_succ]
    exact Nat.add_le_add (sumT_le f L b n (fun j hj => h j (by omega))) (h n (by omega))
theorem good_le {n k : Nat} (h : goodB n k) : ch n k ≤ 53524680 := by
  rcases h with ⟨h1, h2⟩ | ⟨h1, h2⟩
  · rcases Nat.eq_zero_or_pos k with e | e
    · rw [e, ch_zero]; decide
    · have := ch_mono (i := k) e h1
      have h4 : (line 46).getD k 0 ≤ 53524680 := line46 ⟨k, by omega⟩
      rw [line_get] at h4
      omega
  · rcases (by omega : k = 0 ∨ k = 1 ∨ k = 2) with rfl | rfl | rfl
    · rw [ch_zero]; decide
    · rw [ch_one]; omega
    · have h4 := ch_two n
      have h5 := Nat.mul_le_mul h1 h1
      omega
theorem casc_sum_le0 (K M : Nat) (h1 : 1 ≤ K) (h6 : K ≤ 6) (hM : M ≤ 1000) (j : Nat) (hj : j ≤ (casc K M).length) : sumT (fun j x => ch (x + 0) (K - 1 - j + 2 * 0)) (casc K M) j ≤ 400000000 := by
  have hl := casc_le K M
  have := sumT_le (fun j x => ch (x + 0) (K - 1 - j + 2 * 0)) (casc K M) 53524680 j (fun i hi => good_le (casc_good0 K M h1 h6 hM i (by omega)))
  omega
theorem casc_sum_le1 (K M : Nat) (h1 : 1 ≤ K) (h6 : K ≤ 6) (hM : M ≤ 1000) (j : Nat) (hj : j ≤ (casc K M).length) : sumT (fun j x => ch (x + 1) (K - 1 - j + 2 * 1)) (casc K M) j ≤ 400000000 := by
  have hl := casc_le K M
  have := sumT_le (fun j x => ch (x + 1) (K - 1 - j + 2 * 1)) (casc K M) 53524680 j (fun i hi => good_le (casc_good1 K M h1 h6 hM i (by omega)))
  omega

/-- The sets with k points below s. -/
def fl (k s : Nat) : List Nat := (List.range s).filter fun t => pc t == k
theorem fl_zero (k : Nat) : fl k 0 = [] := rfl
theorem fl_hit {k s : Nat} (h : pc s = k) : fl k (s + 1) = fl k s ++ [s] := by
  unfold fl; rw [List.range_succ, List.filter_append]; simp [h]
theorem fl_miss {k s : Nat} (h : pc s ≠ k) : fl k (s + 1) = fl k s := by
  unfold fl; rw [List.range_succ, List.filter_append]; simp [h]
theorem fl_take {k s m : Nat} (hk : k ≤ 6) (hs : s ≤ 64) (hl : (fl k s).length ≤ m) (he : s = 64 ∨ (fl k s).length = m) : firstN k m = fl k s := by
  unfold firstN
  rw [lev_is ⟨k, by omega⟩]
  show (fl k 64).take m = fl k s
  rcases he with e | e
  · subst e; exact List.take_of_length_le hl
  · obtain ⟨d, hd⟩ : ∃ d, 64 = s + d := ⟨64 - s, by omega⟩
    have h2 : fl k 64 = fl k s ++ ((List.range d).map (s + ·)).filter (fun t => pc t == k) := by
      rw [hd]
      unfold fl; rw [List.range_add, List.filter_append]
    rw [h2, ← e]
    exact List.take_left ..
theorem fl_le (k : Nat) : ∀ s, (fl k s).length ≤ s := fun s => by
  unfold fl
  exact Nat.le_trans (List.length_filter_le _ _) (by simp)

end Go.Proofs.Ytmonaiojejbhkaa.Kk
