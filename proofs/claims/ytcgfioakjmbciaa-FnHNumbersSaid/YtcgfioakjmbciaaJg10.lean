/-
  TEXTS of one claim, put together: WHGS, HMap.
-/
import Derived.Test.YtcgfioakjmbciaaWHS3
import Derived.Deep.RegionLaw
import Derived.Deep.AppendLies
import Derived.Test.YtcgfioakjmbciaaJg0
import Derived.Test.YtcgfioakjmbciaaJg2
import Derived.Maps.OwnSet
import Derived.DeepKeys4
/-! WALKS: GNumbers of spec (written by gengn.py). -/

namespace Go.Proofs.Ytcgfioakjmbciaa
open Go.RowKit
open Sets Hn

set_option maxRecDepth 100000 in
set_option maxHeartbeats 4000000 in
theorem specG_any (n : Int) (a : Option Addr) (c : Nat) (xs : List Int) (hlen : xs.length ≤ 1099511627776) (w : World) (h : Ints w a xs) :
    Calls Try.prog 22 #[cx n (.slice a xs.length c)] w fun e w' => ∃ v, e = .returned v ∧ OwnInts w' w.heap.size v (gnum (hnum n xs)) ∧ Below w.heap.size w w' := by
  obtain ⟨i0, hi, hz0, hz1, hz2⟩ := info_parts info_int
  have hb0 : Below w.heap.size w (w.alloc (Obj.cells #[Value.int IntKind.i64 n, Value.slice a xs.length c] 26)) := (Below.refl _ _).alloc (Nat.le_refl _) _
  have htwo := (Two.new w (.int .i64 n) (.slice a xs.length c) 26)
  have H := Lib.hid (h.keeps hb0)
  have HB0 := Lib.hid hb0
  have HT := Lib.hid htwo
  clear h hb0 htwo
  have hl7 := hnum_le7 n xs
  have HNR := Lib.hid (near_at (hnum_near n xs))
  obtain ⟨L, hL⟩ : ∃ L, hnum n xs = L := ⟨_, rfl⟩
  have HLL := Lib.hid hL
  rw [hL] at hl7 HNR
  rw [hL]
  clear hL
  go_enter Try.func22, Try.ntmps22
  obtain ⟨t0, t1, t2, _, _⟩ := HT.out
  go_wp2_with fail
  refine (specH_any n _ _ xs hlen _ H.out).mono ?_
  rw [HLL.out]
  rintro e w1 ⟨v1, rfl, hO1, hb1⟩
  obtain ⟨a1, d1, g1, rfl, hg1, hr1⟩ := hO1.at
  have HB1 : Hid (Below w.heap.size w w1) := HB0.out.trans (hb1.mono HB0.out.size)
  have HR1 := Lib.hid hr1.ints
  have hz1w := HB1.out.size
  clear hO1 hr1 hb1 t0 t1 t2 HB0 HT H hg1
  by_cases h0 : L.length = 0
  · obtain rfl := List.eq_nil_of_length_eq_zero h0
    simp only [List.length_nil]
    go_wp2
    go_ret
    exact ⟨_, rfl, (OwnInts.lit w1 w.heap.size [] hz1w (by simp)), HB1.out.alloc hz1w _⟩
  · obtain ⟨l, hl⟩ : ∃ l, L.length = l := ⟨_, rfl⟩
    have hl0 : 1 ≤ l := by omega
    have hg0 : gto L ((l - 1) / 2) = gnum L := by rw [← gto_end L (by omega), hl]
    have HG0 := Lib.hid hg0
    have HLN := Lib.hid hl
    rw [hl] at hl7 ⊢
    obtain ⟨q, hqq⟩ : ∃ q, (l - 1) / 2 = q := ⟨_, rfl⟩
    have hz : ((l : Int) == 0) = false := by simp; omega
    have HQQ := Lib.hid hqq
    rw [hqq] at HG0
    have hq3 : q ≤ 3 := by omega
    have HQ2 : Hid (2 * q + 1 ≤ l) := by
      have : 2 * q + 1 ≤ l := by omega
      exact this
    clear hg0 hl h0 hqq
    go_wp2
    go_loopw [4, 5] (fun v i wr => ∃ k gg cc : Nat, k ≤ q ∧ i = .int .i64 ((k + 1 : Nat) : Int) ∧ v = .slice (some ⟨gg, 0, none⟩) (k + 1) cc ∧ OwnInts wr w1.heap.size (.slice (some ⟨gg, 0, none⟩) (k + 1) cc) (gto L k) ∧ Below w1.heap.size w1 wr) (fun _ i _ => 4 - (intOf i).toNat)
    case atStart => exact ⟨0, _, _, by omega, rfl, rfl, OwnInts.lit w1 w1.heap.size [1] (by simp) (by simp), (Below.refl _ _).alloc (Nat.le_refl _) _⟩
    case round =>
      obtain ⟨k, gg, cc, hk, rfl, rfl, hO, hB⟩ := hrel
      have HB := Lib.hid hB
      have hsz := hB.size
      by_cases hlt : k < q
      · have hd : decide ((k : Int) + 1 ≤ ((l : Int) - 1) / 2) = true := by
          have := HQQ.out
          simp; omega
        have HO : Hid (wr.ownsRow w1.heap.size 3 1 (.slice (some ⟨gg, 0, none⟩) (k + 1) cc) (k + 1) ((gto L k).map (Value.int .i64))) := by
          have h := hO
          unfold OwnInts at h
          rw [gto_length] at h
          exact h
        have h1 := (HR1.out.keeps hB) k (by rw [HLN.out]; have := HQ2.out; omega)
        have h2 := (HR1.out.keeps hB) (k + 1) (by rw [HLN.out]; have := HQ2.out; omega)
        obtain ⟨b1, o1, rfl, g1⟩ := h1
        obtain ⟨b2, o2, e2, g2⟩ := h2
        injection e2 with e2
        injection e2 with e2 e3
        subst e2 e3
        obtain ⟨x, hx⟩ : ∃ x, L.getD k 0 = x := ⟨_, rfl⟩
        obtain ⟨y, hy⟩ : ∃ y, L.getD (k + 1) 0 = y := ⟨_, rfl⟩
        have hx2 := HNR.out k
        have hy2 := HNR.out (k + 1)
        rw [hx] at g1 hx2
        rw [hy] at g2 hy2
        have HN1 : Hid (gto L (k + 1) = gto L k ++ [y - x]) := by
          have : gto L (k + 1) = gto L k ++ [y - x] := by rw [gto_next, hx, hy]
          exact this
        have hbg : ∀ g, (Value.slice (some ⟨gg, 0, none⟩) (k + 1) cc).ownBlock = some g → w1.heap.size ≤ g := fun g hg => (HO.out.lt g hg).1
        have HBG := Lib.hid hbg
        have hkl : k + 1 < l := by have := HQ2.out; omega
        have hkl1 : k < l := by omega
        have hklz : (k : Int) < (l : Int) := by omega
        have hklz1 : (k : Int) + 1 < (l : Int) := by omega
        have h01 : (0 : Int) ≤ (k : Int) + 1 := by omega
        have hwk : IntKind.i64.wrap (k : Int) = (k : Int) := IntWalk.i64_in _ (by omega)
        have HWX : Hid (IntKind.i64.wrap (y - x) = y - x) := by
          have : IntKind.i64.wrap (y - x) = y - x := IntWalk.i64_in _ (by omega)
          exact this
        clear hO hx hy hbg
        go_wp2_with fail
        go_region_law (refine step_append_lies _ (by rfl) _ _ _ (by rfl) w1.heap.size 3 i0 (.int .i64 0) 1 8 Try.underlying24 hi hz0 hz1 hz2 rfl (by omega) (.slice (some ⟨gg, 0, none⟩) (k + 1) cc) (k + 1) (List.map (Value.int IntKind.i64) (gto L k)) (by rfl) ((HO.out.alloc _).drew) ⟨wr.heap.size, 0, none⟩ 1 1 [.int .i64 (IntKind.i64.wrap (y - x))] (by rfl) (by rfl) (World.news_of_block (cs := #[.int .i64 (IntKind.i64.wrap (y - x))]) (t := 3) (fr := (0, 0)) (heap_alloc_new wr _)) (by simp [Value.oneCell']) (by omega) (by unfold maxLen; omega) (by omega) (by simp; omega) (wr.heap.size + 1) (by simp) ?_; intro gg2 cap w3 hown1 hgrow hat hlt3)
        all_goals
          have hB3 : Below w1.heap.size w1 w3 := ((HB.out.drew).alloc hsz _).grown hgrow (by simp; omega) HBG.out
          have hO3 : OwnInts w3 w1.heap.size (.slice (some ⟨gg2, 0, none⟩) (k + 1 + 1) cap) (gto L (k + 1)) := by
            unfold OwnInts
            rw [HN1.out, List.length_append, List.map_append, gto_length]
            rw [HWX.out] at hown1
            exact hown1
          have HO3 := Lib.hid hO3
          have HB3 := Lib.hid hB3
          clear hown1 hgrow hat hO3 hB3
          go_wp2
          go_roundw
          case rel => exact ⟨k + 1, gg2, cap, by omega, by go_num, rfl, HO3.out, HB3.out⟩
          case measure => simp [intOf]; omega
      · have hd : decide ((k : Int) + 1 ≤ ((l : Int) - 1) / 2) = false := by
          have := HQQ.out
          simp; omega
        have E := Lib.hid (show k = q by omega)
        go_wp2
        go_ret
        have h2 := hO.lower hz1w
        rw [E.out, HG0.out] at h2
        refine ⟨_, rfl, ?_, HB1.out.trans (HB.out.mono hz1w)⟩
        have h3 : (gnum L).length = q + 1 := by rw [← HG0.out, gto_length]
        rw [E.out, ← h3]
        rw [← h3] at h2
        exact h2

end Go.Proofs.Ytcgfioakjmbciaa

/-! A MAP from pairs of numbers to numbers that remembers how many ways there are to choose. -/

namespace Go.Proofs.Ytcgfioakjmbciaa
open Go.RowKit
open Go.Maps (Keyed)
open Hn

/-- A pair of numbers, as a value. -/
def pairV (n k : Int) : Value := .agg #[.int .i64 n, .int .i64 k]

theorem pair_keyed : Keyed Try.prog 75 := Keyed.of_law (deep_law_laid (m := 2) (by kernel_rfl) (by omega) (of_decide_eq_true (by kernel_rfl)) (by kernel_rfl) (by rw [Try.underlying75]))

theorem pair_type : Try.prog.keyType 75 = true := by kernel_rfl
theorem pair_cells : Try.prog.cellsOf 75 = 2 := by kernel_rfl
theorem int_cells : Try.prog.cellsOf 3 = 1 := by kernel_rfl

theorem pair_lits (d : Nat) (n k : Int) (hn : (Lit.int .i64 n).wf = true) (hk : (Lit.int .i64 k).wf = true) :
    Try.prog.keyLits (d + 2) 75 [.int .i64 n, .int .i64 k] = some [.int .i64 n, .int .i64 k] := by
  simp [Program.keyLits, Try.underlying75, Try.underlying3, pair_cells, int_cells, hn, hk, show List.range 2 = [0, 1] from rfl]

theorem pair_key (n k : Int) (hn : (Lit.int .i64 n).wf = true) (hk : (Lit.int .i64 k).wf = true) : keyOf Try.prog 75 (pairV n k) = some (.string (keyBytes [.int .i64 n, .int .i64 k])) := by
  have hs : ∃ d, Try.prog.types.size + 1 = d + 2 := ⟨Try.prog.types.size - 1, by
    have : (75 : Nat) < Try.prog.types.size := of_decide_eq_true (by kernel_rfl)
    omega⟩
  obtain ⟨d, hd⟩ := hs
  have hf : (pairV n k).formed Try.prog 75 = true := by simp [pairV, Value.formed, Try.underlying75, pair_cells]
  unfold keyOf
  rw [Try.underlying75]
  show (if (Try.prog.keyType 75 && (pairV n k).formed Try.prog 75) = true then (Try.prog.keyLits (Try.prog.types.size + 1) 75 [.int .i64 n, .int .i64 k]).map (fun ls => Lit.string (keyBytes ls)) else none) = _
  rw [pair_type, hf, hd, pair_lits d n k hn hk]
  rfl

/-- Block b is a map of at most m entries: whatever it holds of a pair is how many ways there are to choose. -/
def CMap (w : World) (b m : Nat) : Prop :=
  ∃ D : DataW Unit, w.ownsMap Try.prog 75 (plainElem Try.prog 3) b m D ∧ Maps.IsMap D ∧ ∀ (n k : Nat) (l : Lit), keyOf Try.prog 75 (pairV n k) = some l → Maps.has D l = true → D.atKey l (.lit (.int .i64 0)) = .lit (.int .i64 (ch n k : Nat))

theorem CMap.made (w : World) : CMap (w.alloc (.map #[] 0)) w.heap.size 0 :=
  ⟨.map [], World.ownsMap_made w _ _ _, ⟨[], rfl⟩, fun _ _ _ _ h => by simp [Maps.has] at h⟩

theorem CMap.lt {w : World} {b m : Nat} (h : CMap w b m) : b < w.heap.size := by
  obtain ⟨D, h1, _⟩ := h
  exact h1.lt

theorem CMap.away {w w' : World} {b m : Nat} {row : Option Nat} (h : CMap w b m) (hg : w.grownBy w' row) (hne : some b ≠ row) : CMap w' b m := by
  obtain ⟨D, h1, h2, h3⟩ := h
  exact ⟨D, h1.kept hg hne, h2, h3⟩

theorem CMap.keeps {w w' : World} {b m : Nat} (h : CMap w b m) (hb : Below w.heap.size w w') : CMap w' b m := h.away (Mem.but_of_below hb none) (by simp)

theorem CMap.mono {w : World} {b m : Nat} (h : CMap w b m) {j : Nat} (hj : m ≤ j) : CMap w b j := by
  obtain ⟨D, h1, h2, h3⟩ := h
  exact ⟨D, h1.mono hj, h2, h3⟩

theorem CMap.setCell {w : World} {b m : Nat} (h : CMap w b m) (c o : Nat) (v : Value) (hc : c ≠ b) : CMap (w.setCell ⟨c, o, none⟩ v) b m :=
  h.away (Mem.but_setCell w c o v) (by simpa using fun e => hc e.symm)

theorem CMap.drewN {w : World} {b m : Nat} (h : CMap w b m) (n : Nat) : CMap (w.drewN n) b m := h

theorem cmap_zero (w : World) : (zeroValue 3).run Try.prog w = .ok (.int .i64 0) w := by kernel_rfl

theorem nat_wf {n : Nat} (h : n ≤ 9223372036854775807) : (Lit.int .i64 (n : Int)).wf = true := WalkArith.wf_i64 (by omega)

/-- v, ok := m[{n, k}] at the operation. -/
theorem wpList_cmap_look (w : World) {ops : Array Oper} {rest : List Oper} {o : Oper} {a : Act} {Q : Exit → Act → World → Prop}
    (hg : Region.wanted o (yielded ops a.tmps) = true) (m x : Operand) (hop : o.op = Op.lookup 73 m x true)
    (b j : Nat) (hm : a.eval m = .map (some b)) (h : CMap w b j) (n k : Nat) (hn : n ≤ 60) (hk : k ≤ 60) (hx : a.eval x = pairV n k)
    (hK : ∀ (c : Int) (ok : Bool), (ok = true → c = (ch n k : Nat)) → wpList Try.prog ops Q rest (a.put o.dst (.tuple #[.int .i64 c, .bool ok])) w) :
    wpList Try.prog ops Q (o :: rest) a w := by
  refine wpList_step fun K' hK' => ?_
  rw [if_pos hg]
  obtain ⟨D, h1, h2, h3⟩ := h
  have hkey := pair_key n k (nat_wf (by omega)) (nat_wf (by omega))
  obtain ⟨v, ps, hrun, hv⟩ := h1.look_ok pair_keyed Try.underlying73 (cmap_zero w) (plainElem_int Try.underlying3 (by decide)) hkey
  obtain ⟨c, rfl, hc, hwc⟩ := plainElem_int_inv Try.underlying3 hv
  unfold Oper.wp
  simp [execOp, hop, hm, hx, hrun, Result.andThen]
  refine hK' _ _ (hK c _ fun hok => ?_)
  have e := h3 n k _ hkey hok
  have e2 := congrArg Prod.fst hc
  rw [e] at e2
  injection e2 with e2
  injection e2 with _ e2
  exact e2.symm

/-- m[{n, k}] = how many ways, at the operation. -/
theorem wpList_cmap_put (w : World) {ops : Array Oper} {rest : List Oper} {o : Oper} {a : Act} {Q : Exit → Act → World → Prop}
    (hg : o.guard = none) (m x v : Operand) (hop : o.op = Op.mapUpdate 73 m x v)
    (b j : Nat) (hm : a.eval m = .map (some b)) (h : CMap w b j) (hj : j < maxLen) (n k : Nat) (hn : n ≤ 60) (hk : k ≤ 60) (hx : a.eval x = pairV n k) (z : Int) (hv : a.eval v = .int .i64 z) (hz : z = (ch n k : Nat))
    (hK : ∀ w', CMap w' b (j + 1) → w.grownBy w' (some b) → wpList Try.prog ops Q rest (a.put o.dst undef) w') :
    wpList Try.prog ops Q (o :: rest) a w := by
  subst hz
  obtain ⟨D, h1, h2, h3⟩ := h
  have hkey := pair_key n k (nat_wf (by omega)) (nat_wf (by omega))
  have hc := ch_big n k hn
  refine wpList_mapUpdate_own w hg m x v _ hop _ _ pair_keyed Try.underlying73 _ b j D hm h1 hj _ _ _ hx hv hkey (.lit (.int .i64 (ch n k : Nat))) [] (plainElem_int Try.underlying3 (nat_wf (by omega))) fun w' h1' hg' => ?_
  refine hK w' ⟨_, h1', h2.put _ _, fun n' k' l hl hh => ?_⟩ hg'
  by_cases e : l = .string (keyBytes [.int .i64 (n : Int), .int .i64 (k : Int)])
  · subst e
    have := pair_keyed.inj hl hkey
    unfold pairV at this
    injection this with this
    have e1 := congrArg (fun x : Array Value => x.getD 0 (.bool true)) this
    have e2 := congrArg (fun x : Array Value => x.getD 1 (.bool true)) this
    simp at e1 e2
    obtain rfl : n' = n := by omega
    obtain rfl : k' = k := by omega
    exact Maps.atKey_put_same h2 (pair_keyed.key hkey) _ _
  · rw [Maps.has_put_other e] at hh
    rw [Maps.atKey_put_other e]
    exact h3 n' k' l hl hh

end Go.Proofs.Ytcgfioakjmbciaa
