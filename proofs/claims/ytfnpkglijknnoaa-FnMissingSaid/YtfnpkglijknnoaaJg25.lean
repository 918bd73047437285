/-
  TEXTS of one claim, put together: WMissS3, BMap, WMissI1, WMissI2.
-/
import Derived.Test.YtfnpkglijknnoaaJg24
import Derived.Test.YtfnpkglijknnoaaJg11
import Derived.Test.YtfnpkglijknnoaaJg8
import Derived.Test.YtfnpkglijknnoaaJg1
import Derived.Maps.OwnSet
import Derived.Test.YtfnpkglijknnoaaJg7
import Derived.Test.YtfnpkglijknnoaaJg5
/-! WALKS: spec's chapter 7: GreatestMissing, CompleteUpTo, IsFlag, FlagOf (written by genmiss.py). -/

namespace Go.Proofs.Ytfnpkglijknnoaa
open Go.RowKit
open Sets

theorem okM_at {xs : List Int} (h : allOk xs = true) (k : Nat) (hk : k < xs.length) : ∃ t : Nat, xs.getD k 0 = (t : Int) ∧ t < 64 := by
  refine ok_nat h ?_
  rw [List.getD, List.getElem?_eq_getElem hk]; exact List.getElem_mem hk

set_option maxRecDepth 100000 in
set_option maxHeartbeats 2000000 in
theorem specGreat_any (n : Int) (a : Option Addr) (c : Nat) (xs : List Int) (hlen : xs.length ≤ 1099511627776) (w : World) (h : Ints w a xs) :
    Calls Try.prog 25 #[cx n (.slice a xs.length c)] w fun e w' => e = .returned (.int .i64 (great n xs)) ∧ Below w.heap.size w w' := by
  have hb0 : Below w.heap.size w (w.alloc (Obj.cells #[Value.int IntKind.i64 n, Value.slice a xs.length c] 26)) := (Below.refl _ _).alloc (Nat.le_refl _) _
  have htwo : Two (w.alloc (Obj.cells #[Value.int IntKind.i64 n, Value.slice a xs.length c] 26)) w.heap.size (.int .i64 n) (.slice a xs.length c) := Two.new _ _ _ _
  have H := Lib.hid (h.keeps hb0)
  have HB0 := Lib.hid hb0
  have HT := Lib.hid htwo
  clear h hb0 htwo
  obtain ⟨M, hM⟩ : ∃ M, missing n xs = M := ⟨_, rfl⟩
  have hok := missing_ok n xs
  have hle := missing_le n xs
  have hG : great n xs = if M.length = 0 then -1 else (pc (M.getD (M.length - 1) 0).toNat : Int) := by unfold great; rw [hM]
  rw [hM] at hok hle
  by_cases h0 : M.length = 0
  · obtain rfl : M = [] := List.length_eq_zero_iff.1 h0
    have HG : Hid (great n xs = -1) := hG
    have HM := Lib.hid hM
    clear hG hM hok hle h0
    obtain ⟨t0, t1, t2, _, _⟩ := HT.out
    go_enter Try.func25, Try.ntmps25
    go_wp2_with fail
    refine (specMissing_b n _ _ xs [] HM.out hlen _ H.out).mono ?_
    rintro e w1 ⟨v, rfl, hO, hb1⟩
    obtain ⟨a1, c1, g1, rfl, _⟩ := OwnInts.at hO
    clear hO t0 t1 t2
    go_wp2
    go_ret
    exact ⟨by rw [HG.out]; rfl, HB0.out.trans (hb1.mono (by simp))⟩
  · obtain ⟨L, hL⟩ : ∃ L, M.length = L + 1 := ⟨M.length - 1, by omega⟩
    have hL1 : M.length - 1 = L := by omega
    rw [if_neg h0, hL1] at hG
    obtain ⟨t, ht, ht6⟩ := okM_at hok L (by omega)
    rw [ht, Int.toNat_natCast] at hG
    have HG := Lib.hid hG
    have HM := Lib.hid hM
    have HL := Lib.hid hL
    have HTT := Lib.hid ht
    clear hG hM hok h0 hL1 hL ht
    obtain ⟨t0, t1, t2, _, _⟩ := HT.out
    go_enter Try.func25, Try.ntmps25
    go_wp2_with fail
    refine (specMissing_b n _ _ xs M HM.out hlen _ H.out).mono ?_
    rintro e w1 ⟨v, rfl, hO, hb1⟩
    obtain ⟨a1, c1, g1, rfl, _, hI⟩ := OwnInts.at hO
    obtain ⟨rfl, _, hcell, _⟩ := hI L (by rw [HL.out]; omega)
    rw [HTT.out] at hcell
    have hLn : M.length = L + 1 := HL.out
    rw [hLn] at hle ⊢
    have e1 : ((L + 1 : Nat) : Int) - 1 = (L : Int) := by omega
    clear hO hI hLn t0 t1 t2
    go_wp2_with fail
    refine (l2Size_b t _ rfl ht6 _).mono ?_
    rintro e w' ⟨rfl, rfl⟩
    go_wp2
    go_ret
    exact ⟨by rw [HG.out]; rfl, HB0.out.trans (hb1.mono (by simp))⟩

theorem specGreat_b (n : Int) (a : Option Addr) (c : Nat) (xs : List Int) (G : Int) (hG : great n xs = G) (hlen : xs.length ≤ 1099511627776) (w : World) (h : Ints w a xs) :
    Calls Try.prog 25 #[cx n (.slice a xs.length c)] w fun e w' => e = .returned (.int .i64 G) ∧ Below w.heap.size w w' := by
  subst hG; exact specGreat_any n a c xs hlen w h

set_option maxRecDepth 100000 in
set_option maxHeartbeats 2000000 in
theorem specFullTo_any (n : Int) (a : Option Addr) (c : Nat) (xs : List Int) (hlen : xs.length ≤ 1099511627776) (w : World) (h : Ints w a xs) :
    Calls Try.prog 27 #[cx n (.slice a xs.length c)] w fun e w' => e = .returned (.int .i64 (fullTo n xs)) ∧ Below w.heap.size w w' := by
  have hb0 : Below w.heap.size w (w.alloc (Obj.cells #[Value.int IntKind.i64 n, Value.slice a xs.length c] 26)) := (Below.refl _ _).alloc (Nat.le_refl _) _
  have htwo : Two (w.alloc (Obj.cells #[Value.int IntKind.i64 n, Value.slice a xs.length c] 26)) w.heap.size (.int .i64 n) (.slice a xs.length c) := Two.new _ _ _ _
  have H := Lib.hid (h.keeps hb0)
  have HB0 := Lib.hid hb0
  have HT := Lib.hid htwo
  clear h hb0 htwo
  cases hC : isC n xs with
  | false =>
    have HC := Lib.hid hC
    have HG : Hid (fullTo n xs = -1) := by
      have : fullTo n xs = -1 := by unfold fullTo; rw [if_neg (by rw [hC]; simp)]
      exact this
    clear hC
    obtain ⟨t0, t1, t2, _, _⟩ := HT.out
    go_enter Try.func27, Try.ntmps27
    go_wp2_with fail
    refine (specIsC_b n _ _ xs false HC.out hlen _ H.out).mono ?_
    rintro e w1 ⟨rfl, hb1⟩
    clear t0 t1 t2
    go_wp2
    go_ret
    exact ⟨by rw [HG.out]; rfl, HB0.out.trans (hb1.mono (by simp))⟩
  | true =>
    have HC := Lib.hid hC
    obtain ⟨M, hM⟩ : ∃ M, missing n xs = M := ⟨_, rfl⟩
    have hok := missing_ok n xs
    have hG : fullTo n xs = if M.length = 0 then n else (pc (M.getD 0 0).toNat : Int) - 1 := by unfold fullTo; rw [if_pos hC, hM]
    rw [hM] at hok
    clear hC
    by_cases h0 : M.length = 0
    · obtain rfl : M = [] := List.length_eq_zero_iff.1 h0
      have HG : Hid (fullTo n xs = n) := hG
      have HM := Lib.hid hM
      clear hG hM hok h0
      obtain ⟨t0, t1, t2, _, _⟩ := HT.out
      go_enter Try.func27, Try.ntmps27
      go_wp2_with fail
      refine (specIsC_b n _ _ xs true HC.out hlen _ H.out).mono ?_
      rintro e w1 ⟨rfl, hb1⟩
      have HB1 : Hid (Below w.heap.size w w1) := HB0.out.trans (hb1.mono HB0.out.size)
      have HI1 := Lib.hid (H.out.keeps hb1)
      have HT1 := Lib.hid (HT.out.keeps hb1)
      clear t0 t1 t2 hb1
      obtain ⟨t0, t1, t2, _, _⟩ := HT1.out
      go_wp2_with fail
      refine (specMissing_b n _ _ xs [] HM.out hlen _ HI1.out).mono ?_
      rintro e w2 ⟨v, rfl, hO, hb2⟩
      obtain ⟨a1, c1, g1, rfl, _⟩ := OwnInts.at hO
      clear hO t0 t1 t2
      obtain ⟨t0, t1, t2, _, _⟩ := HT1.out.keeps hb2
      have hsz1 := HB1.out.size
      go_wp2
      go_ret
      exact ⟨by rw [HG.out]; rfl, HB1.out.trans (hb2.mono hsz1)⟩
    · obtain ⟨t, ht, ht6⟩ := okM_at hok 0 (by omega)
      rw [if_neg h0, ht, Int.toNat_natCast] at hG
      have HG := Lib.hid hG
      have HM := Lib.hid hM
      have HTT := Lib.hid ht
      have hpos : 0 < M.length := by omega
      have h0b : ((M.length : Int) == 0) = false := by rw [beq_eq_false_iff_ne]; omega
      clear hG hM hok ht h0
      obtain ⟨t0, t1, t2, _, _⟩ := HT.out
      go_enter Try.func27, Try.ntmps27
      go_wp2_with fail
      refine (specIsC_b n _ _ xs true HC.out hlen _ H.out).mono ?_
      rintro e w1 ⟨rfl, hb1⟩
      have HB1 : Hid (Below w.heap.size w w1) := HB0.out.trans (hb1.mono HB0.out.size)
      have HI1 := Lib.hid (H.out.keeps hb1)
      have HT1 := Lib.hid (HT.out.keeps hb1)
      clear t0 t1 t2 hb1
      obtain ⟨t0, t1, t2, _, _⟩ := HT1.out
      go_wp2_with fail
      refine (specMissing_b n _ _ xs M HM.out hlen _ HI1.out).mono ?_
      rintro e w2 ⟨v, rfl, hO, hb2⟩
      obtain ⟨a1, c1, g1, rfl, _, hI⟩ := OwnInts.at hO
      obtain ⟨rfl, _, hcell, _⟩ := hI 0 hpos
      rw [HTT.out] at hcell
      have hsz1 := HB1.out.size
      have hpt := pc_le t
      clear hO hI t0 t1 t2
      go_wp2_with fail
      refine (l2Size_b t _ rfl ht6 _).mono ?_
      rintro e w' ⟨rfl, rfl⟩
      go_wp2
      go_ret
      exact ⟨by rw [HG.out]; rfl, HB1.out.trans (hb2.mono hsz1)⟩

theorem specFullTo_b (n : Int) (a : Option Addr) (c : Nat) (xs : List Int) (G : Int) (hG : fullTo n xs = G) (hlen : xs.length ≤ 1099511627776) (w : World) (h : Ints w a xs) :
    Calls Try.prog 27 #[cx n (.slice a xs.length c)] w fun e w' => e = .returned (.int .i64 G) ∧ Below w.heap.size w w' := by
  subst hG; exact specFullTo_any n a c xs hlen w h

set_option maxRecDepth 100000 in
set_option maxHeartbeats 2000000 in
theorem specFlag_any (n : Int) (a : Option Addr) (c : Nat) (xs : List Int) (hlen : xs.length ≤ 1099511627776) (w : World) (h : Ints w a xs) :
    Calls Try.prog 23 #[cx n (.slice a xs.length c)] w fun e w' => e = .returned (.bool (flagB n xs)) ∧ Below w.heap.size w w' := by
  have hb0 : Below w.heap.size w (w.alloc (Obj.cells #[Value.int IntKind.i64 n, Value.slice a xs.length c] 26)) := (Below.refl _ _).alloc (Nat.le_refl _) _
  have htwo : Two (w.alloc (Obj.cells #[Value.int IntKind.i64 n, Value.slice a xs.length c] 26)) w.heap.size (.int .i64 n) (.slice a xs.length c) := Two.new _ _ _ _
  have H := Lib.hid (h.keeps hb0)
  have HB0 := Lib.hid hb0
  have HT := Lib.hid htwo
  clear h hb0 htwo
  cases hC : isC n xs with
  | false =>
    have HC := Lib.hid hC
    have HG : Hid (flagB n xs = false) := by
      have : flagB n xs = false := by unfold flagB; rw [hC]; rfl
      exact this
    clear hC
    obtain ⟨t0, t1, t2, _, _⟩ := HT.out
    go_enter Try.func23, Try.ntmps23
    go_wp2_with fail
    refine (specIsC_b n _ _ xs false HC.out hlen _ H.out).mono ?_
    rintro e w1 ⟨rfl, hb1⟩
    clear t0 t1 t2
    go_wp2
    go_ret
    exact ⟨by rw [HG.out]; rfl, HB0.out.trans (hb1.mono (by simp))⟩
  | true =>
    have HC := Lib.hid hC
    obtain ⟨G, hG⟩ : ∃ G, great n xs = G := ⟨_, rfl⟩
    have hgb := great_bounds n xs
    have HF : Hid (flagB n xs = decide (G ≤ 2)) := by
      have : flagB n xs = decide (G ≤ 2) := by unfold flagB; rw [hC, hG, Bool.true_and]
      exact this
    rw [hG] at hgb
    have HG := Lib.hid hG
    clear hC hG
    obtain ⟨t0, t1, t2, _, _⟩ := HT.out
    go_enter Try.func23, Try.ntmps23
    go_wp2_with fail
    refine (specIsC_b n _ _ xs true HC.out hlen _ H.out).mono ?_
    rintro e w1 ⟨rfl, hb1⟩
    have HB1 : Hid (Below w.heap.size w w1) := HB0.out.trans (hb1.mono HB0.out.size)
    have HI1 := Lib.hid (H.out.keeps hb1)
    have HT1 := Lib.hid (HT.out.keeps hb1)
    have hsz1 := HB1.out.size
    clear t0 t1 t2 hb1
    obtain ⟨t0, t1, t2, _, _⟩ := HT1.out
    go_wp2_with fail
    refine (specGreat_b n _ _ xs G HG.out hlen _ HI1.out).mono ?_
    rintro e w2 ⟨rfl, hb2⟩
    go_wp2
    go_ret
    exact ⟨by rw [HF.out]; rfl, HB1.out.trans (hb2.mono hsz1)⟩

theorem specFlag_b (n : Int) (a : Option Addr) (c : Nat) (xs : List Int) (b : Bool) (hb : flagB n xs = b) (hlen : xs.length ≤ 1099511627776) (w : World) (h : Ints w a xs) :
    Calls Try.prog 23 #[cx n (.slice a xs.length c)] w fun e w' => e = .returned (.bool b) ∧ Below w.heap.size w w' := by
  subst hb; exact specFlag_any n a c xs hlen w h

end Go.Proofs.Ytfnpkglijknnoaa

/-! MAPS from numbers to bools that the call has made: what they answer at every natural number. -/

namespace Go.Proofs.Ytfnpkglijknnoaa
open Go.RowKit
open Go.Maps (Keyed)

/-- An element that reads as a bool's datum IS that bool. -/
theorem plainElem_bool_inv {H : Type} {P : Program} {e : TypeId} (he : P.underlying e = some .bool) {v : Value} {z : DataW H × List MemPlace} (h : plainElem P e v = some z) : ∃ x, v = .bool x ∧ z = (.lit (.bool x), []) := by
  unfold plainElem at h
  rw [he] at h
  cases v <;> simp at h
  subst h
  exact ⟨_, rfl, rfl⟩

theorem bmap_key : Keyed Try.prog 3 := Maps.int_keyed Try.underlying3

theorem bmap_zero (w : World) : (zeroValue 4).run Try.prog w = .ok (.bool false) w := by kernel_rfl

/-- Block b is a map of at most k entries that answers f at every natural number. -/
def BMap (w : World) (b k : Nat) (f : Nat → Bool) : Prop :=
  ∃ D : DataW Unit, w.ownsMap Try.prog 3 (plainElem Try.prog 4) b k D ∧ Maps.IsMap D ∧ ∀ s : Nat, D.atKey (.int .i64 (s : Int)) (.lit (.bool false)) = .lit (.bool (f s))

theorem BMap.made (w : World) : BMap (w.alloc (.map #[] 0)) w.heap.size 0 fun _ => false :=
  ⟨.map [], World.ownsMap_made w _ _ _, ⟨[], rfl⟩, fun _ => rfl⟩

theorem BMap.congr {w : World} {b k : Nat} {f g : Nat → Bool} (h : BMap w b k f) (e : ∀ s, g s = f s) : BMap w b k g := by
  obtain ⟨D, h1, h2, h3⟩ := h
  exact ⟨D, h1, h2, fun s => by rw [e s]; exact h3 s⟩

theorem BMap.lt {w : World} {b k : Nat} {f : Nat → Bool} (h : BMap w b k f) : b < w.heap.size := by
  obtain ⟨D, h1, _⟩ := h
  exact h1.lt

theorem BMap.keeps {w w' : World} {b k : Nat} {f : Nat → Bool} (h : BMap w b k f) (hb : Below w.heap.size w w') : BMap w' b k f := by
  obtain ⟨D, h1, h2, h3⟩ := h
  exact ⟨D, h1.kept (Mem.but_of_below hb none) (by simp), h2, h3⟩

theorem BMap.mono {w : World} {b k : Nat} {f : Nat → Bool} (h : BMap w b k f) {j : Nat} (hj : k ≤ j) : BMap w b j f := by
  obtain ⟨D, h1, h2, h3⟩ := h
  exact ⟨D, h1.mono hj, h2, h3⟩

theorem BMap.setCell {w : World} {b k : Nat} {f : Nat → Bool} (h : BMap w b k f) (c o : Nat) (v : Value) (hc : c ≠ b) : BMap (w.setCell ⟨c, o, none⟩ v) b k f := by
  obtain ⟨D, h1, h2, h3⟩ := h
  exact ⟨D, h1.kept (Mem.but_setCell w c o v) (by simpa using fun e => hc e.symm), h2, h3⟩

/-- m[k] at the operation, guarded or not. -/
theorem wpList_bmap_look (w : World) {ops : Array Oper} {rest : List Oper} {o : Oper} {a : Act} {Q : Exit → Act → World → Prop}
    (hg : Region.wanted o (yielded ops a.tmps) = true) (m x : Operand) (hop : o.op = Op.lookup 50 m x false)
    (b k : Nat) (f : Nat → Bool) (hm : a.eval m = .map (some b)) (h : BMap w b k f) (s : Nat) (c : Bool) (hc : f s = c) (z : Int) (hx : a.eval x = .int .i64 z) (hz : z = (s : Int)) (hs : s < 64)
    (hK : wpList Try.prog ops Q rest (a.put o.dst (.bool c)) w) :
    wpList Try.prog ops Q (o :: rest) a w := by
  subst hz
  refine wpList_step fun K' hK' => ?_
  rw [if_pos hg]
  obtain ⟨D, h1, h2, h3⟩ := h
  obtain ⟨v, ps, hrun, hv⟩ := h1.lookup bmap_key Try.underlying50 (bmap_zero w) (plainElem_bool Try.underlying4 false) (key := .int .i64 (s : Int)) (Maps.keyOf_int_mk Try.underlying3 (WalkArith.wf_i64 (by omega)))
  obtain ⟨y, rfl, he⟩ := plainElem_bool_inv Try.underlying4 hv
  rw [h3 s] at he
  injection he with he _
  injection he with he
  injection he with he
  subst he
  subst hc
  unfold Oper.wp
  simp [execOp, hop, hm, hx, hrun, Result.andThen]
  exact hK' _ _ hK

/-- m[k] = true at the operation. -/
theorem wpList_bmap_put (w : World) {ops : Array Oper} {rest : List Oper} {o : Oper} {a : Act} {Q : Exit → Act → World → Prop}
    (hg : o.guard = none) (m x v : Operand) (hop : o.op = Op.mapUpdate 50 m x v)
    (b k : Nat) (f : Nat → Bool) (hm : a.eval m = .map (some b)) (h : BMap w b k f) (hk : k < maxLen) (s : Nat) (z : Int) (hx : a.eval x = .int .i64 z) (hz : z = (s : Int)) (hs : s < 64) (hv : a.eval v = .bool true)
    (hK : ∀ w', BMap w' b (k + 1) (fun t => if t = s then true else f t) → w.grownBy w' (some b) → wpList Try.prog ops Q rest (a.put o.dst undef) w') :
    wpList Try.prog ops Q (o :: rest) a w := by
  subst hz
  obtain ⟨D, h1, h2, h3⟩ := h
  have hwf : (Lit.int .i64 (s : Int)).wf = true := WalkArith.wf_i64 (by omega)
  refine wpList_mapUpdate_own w hg m x v _ hop _ _ bmap_key Try.underlying50 _ b k D hm h1 hk _ _ (.int .i64 (s : Int)) hx hv (Maps.keyOf_int_mk Try.underlying3 hwf) (.lit (.bool true)) [] (plainElem_bool Try.underlying4 true) fun w' h1' hg' => ?_
  refine hK w' ⟨_, h1', h2.put _ _, fun t => ?_⟩ hg'
  show _ = DataW.lit (Lit.bool (if t = s then true else f t))
  by_cases e : t = s
  · subst e
    rw [if_pos rfl]
    exact Maps.atKey_put_same (k := .int .i64 (t : Int)) h2 trivial _ _
  · rw [if_neg e]
    rw [Maps.atKey_put_other (by intro h; injection h with _ h; omega)]
    exact h3 t

end Go.Proofs.Ytfnpkglijknnoaa

/-! WALKS: impl's chapter 7: the map of the sets that are no faces; a point less. -/

namespace Go.Proofs.Ytfnpkglijknnoaa
open Go.RowKit
open Sets

theorem andNot_pow : ∀ s : Fin 64, ∀ p : Fin 6, ptB s.val p.val = true → bits BinOp.andNot IntKind.i64 (s.val : Int) (wrap64 (2 ^ p.val)) = ((s.val - 2 ^ p.val : Nat) : Int) := by decide +kernel

set_option maxRecDepth 100000 in
set_option maxHeartbeats 2000000 in
theorem loses_any (B m : Nat) (f : Nat → Bool) (s : Nat) (hs : s < 64) (b : Bool) (hb : loses f s = b) (w : World) (h : BMap w B m f) :
    Calls Try.prog 46 #[.map (some B), .int .i64 (s : Int)] w fun e w' => e = .returned (.bool b) ∧ w = w' := by
  have HM := Lib.hid h
  have HB := Lib.hid hb
  clear h hb
  go_enter Try.func46, Try.ntmps46
  go_wp2
  go_loop [6] (fun i => ∃ p : Nat, p ≤ 6 ∧ i = .int .i64 (p : Int) ∧ ∀ j, j < p → ptB s j = true → f (s - 2 ^ j) = false) (fun i => 6 - (intOf i).toNat)
  case atStart => exact ⟨0, by omega, rfl, fun j hj => absurd hj (Nat.not_lt_zero _)⟩
  case round =>
    obtain ⟨p, hp, rfl, hq⟩ := hrel
    have HQ := Lib.hid hq
    clear hq
    by_cases hlt : p < 6
    · cases ht : ptB s p with
      | true =>
        have HT := Lib.hid ht
        clear ht
        cases hf : f (s - 2 ^ p) with
        | true =>
          have HF := Lib.hid hf
          have HR : Hid (b = true) := by
            have : b = true := by rw [← HB.out]; exact loses_hit hlt HT.out HF.out
            exact this
          clear hf
          go_wp2_with fail
          refine (hasPoint_b s p true HT.out hs hlt _).mono ?_
          rintro e w' ⟨rfl, rfl⟩
          go_wp2_with (at_lookup; refine wpList_bmap_look _ rfl _ _ rfl B m f rfl HM.out (s - 2 ^ p) true HF.out _ rfl ?hz (Nat.lt_of_le_of_lt (Nat.sub_le _ _) hs) ?_)
          case hz => exact andNot_pow ⟨s, hs⟩ ⟨p, hlt⟩ HT.out
          go_ret
          exact ⟨by rw [HR.out]; rfl, rfl⟩
        | false =>
          have HF := Lib.hid hf
          clear hf
          go_wp2_with fail
          refine (hasPoint_b s p true HT.out hs hlt _).mono ?_
          rintro e w' ⟨rfl, rfl⟩
          go_wp2_with (at_lookup; refine wpList_bmap_look _ rfl _ _ rfl B m f rfl HM.out (s - 2 ^ p) false HF.out _ rfl ?hz (Nat.lt_of_le_of_lt (Nat.sub_le _ _) hs) ?_)
          case hz => exact andNot_pow ⟨s, hs⟩ ⟨p, hlt⟩ HT.out
          go_round
          case rel =>
            refine ⟨p + 1, by omega, by go_num, fun j hj ht => ?_⟩
            by_cases e : j = p
            · subst e; exact HF.out
            · exact HQ.out j (by omega) ht
          case measure => simp [intOf]; omega
      | false =>
        have HT := Lib.hid ht
        clear ht
        go_wp2_with fail
        refine (hasPoint_b s p false HT.out hs hlt _).mono ?_
        rintro e w' ⟨rfl, rfl⟩
        go_wp2
        go_round
        case rel =>
          refine ⟨p + 1, by omega, by go_num, fun j hj ht => ?_⟩
          by_cases e : j = p
          · subst e; rw [HT.out] at ht; cases ht
          · exact HQ.out j (by omega) ht
        case measure => simp [intOf]; omega
    · have HR : Hid (b = false) := by
        have : b = false := by rw [← HB.out]; exact loses_miss fun j hj => HQ.out j (by omega)
        exact this
      go_wp2
      go_ret
      exact ⟨by rw [HR.out]; rfl, rfl⟩

theorem shl_pow (n : Int) (h1 : 1 ≤ n) (h2 : n ≤ 6) : wrap64 (2 ^ n.toNat) = ((2 ^ n.toNat : Nat) : Int) := by
  rcases seven n (by omega) h2 with rfl | rfl | rfl | rfl | rfl | rfl | rfl <;> decide +kernel

set_option maxRecDepth 100000 in
set_option maxHeartbeats 2000000 in
theorem noFaces_any (n : Int) (a : Option Addr) (c : Nat) (xs : List Int) (hC : isC n xs = true) (hlen : xs.length ≤ 1099511627776) (w : World) (h : Ints w a xs) :
    Calls Try.prog 43 #[cx n (.slice a xs.length c)] w fun e w' => e = .returned (.map (some (w.heap.size + 1))) ∧ BMap w' (w.heap.size + 1) 64 (missQ n xs) ∧ Below w.heap.size w w' := by
  have hmm := @run_makeMap Try.prog
  have hb0 : Below w.heap.size w (w.alloc (Obj.cells #[Value.int IntKind.i64 n, Value.slice a xs.length c] 26)) := (Below.refl _ _).alloc (Nat.le_refl _) _
  have htwo : Two (w.alloc (Obj.cells #[Value.int IntKind.i64 n, Value.slice a xs.length c] 26)) w.heap.size (.int .i64 n) (.slice a xs.length c) := Two.new _ _ _ _
  have H := Lib.hid (h.keeps hb0)
  have HB0 := Lib.hid hb0
  have HT := Lib.hid htwo
  have hn := isC_n hC
  obtain ⟨hn1, hn2⟩ := hn
  have HOK := Lib.hid (isC_ok hC)
  have hsh := shl_pow n hn1 hn2
  have h64 := pow_le64 n hn1 hn2
  have hs0 := fun s : Nat => setB_lt n s (by omega) hn2
  obtain ⟨N, hN⟩ : ∃ N : Nat, 2 ^ n.toNat = N := ⟨_, rfl⟩
  rw [hN] at hsh h64
  have HS : Hid (∀ s : Nat, setB n (s : Int) = decide (s < N)) := fun s => by rw [hs0 s, hN]
  have HSH := Lib.hid hsh
  clear h hb0 htwo hC hs0 hN hsh
  have hm0 := BMap.made (w.alloc (Obj.cells #[Value.int IntKind.i64 n, Value.slice a xs.length c] 26))
  go_enter Try.func43, Try.ntmps43
  go_wp2
  have hszW : (w.alloc (Obj.cells #[Value.int IntKind.i64 n, Value.slice a xs.length c] 26)).heap.size = w.heap.size + 1 := by simp
  rw [HSH.out, ← hszW]
  clear HSH
  generalize (w.alloc (Obj.cells #[Value.int IntKind.i64 n, Value.slice a xs.length c] 26)) = W at *
  have HM0 := Lib.hid hm0
  have HSZ := Lib.hid hszW
  clear hm0 hszW
  go_loopw [9] (fun i wr => ∃ k : Nat, k ≤ N ∧ i = .int .i64 (k : Int) ∧ BMap wr W.heap.size k (fun s => decide (s < k) && !inF xs s) ∧ Below W.heap.size W wr) (fun i _ => N - (intOf i).toNat)
  case atStart => exact ⟨0, by omega, rfl, HM0.out.congr fun s => by simp, (Below.refl _ _).alloc (Nat.le_refl _) _⟩
  case round =>
    obtain ⟨k, hk, rfl, hM, hB⟩ := hrel
    have HM := Lib.hid hM
    clear hM
    have hsz := hB.size
    obtain ⟨t0, t1, t2, _, _⟩ := HT.out.keeps hB
    by_cases hlt : k < N
    · have HI := Lib.hid (H.out.keeps hB)
      have hk64 : k < 64 := by omega
      cases hp : inF xs k with
      | true =>
        have HP := Lib.hid hp
        have HZ := Lib.hid ((inFZ_nat xs k hk64).trans hp)
        clear hp
        go_wp2_with fail
        refine (inFacet_any n a c xs HOK.out hlen (k : Int) (by omega) true HZ.out _ HI.out).mono ?_
        rintro e w1 ⟨rfl, hb1⟩
        have HM1 := Lib.hid (HM.out.keeps hb1)
        have hB1 : Below W.heap.size W w1 := hB.trans (hb1.mono hsz)
        clear hb1 HM
        go_wp2
        go_roundw
        case rel =>
          refine ⟨k + 1, by omega, by go_num, (HM1.out.mono (by omega)).congr fun s => ?_, hB1⟩
          by_cases e : s = k
          · subst e; rw [HP.out]; simp
          · rw [show decide (s < k + 1) = decide (s < k) by rw [Bool.eq_iff_iff, decide_eq_true_iff, decide_eq_true_iff]; omega]
        case measure => simp [intOf]; omega
      | false =>
        have HP := Lib.hid hp
        have HZ := Lib.hid ((inFZ_nat xs k hk64).trans hp)
        clear hp
        go_wp2_with fail
        refine (inFacet_any n a c xs HOK.out hlen (k : Int) (by omega) false HZ.out _ HI.out).mono ?_
        rintro e w1 ⟨rfl, hb1⟩
        have HM1 := Lib.hid (HM.out.keeps hb1)
        have hB1 : Below W.heap.size W w1 := hB.trans (hb1.mono hsz)
        have hsz1 := hB1.size
        clear hb1 HM
        go_wp2_with (at_mapUpdate; refine wpList_bmap_put _ rfl _ _ _ rfl W.heap.size k _ rfl HM1.out (by unfold maxLen; omega) k _ rfl rfl hk64 rfl ?_; intro w2 hM2 hg2)
        have HM2 := Lib.hid hM2
        have hB2 : Below W.heap.size W w2 := hB1.grown hg2 hsz1 (fun g hg => by cases hg; exact Nat.le_refl _)
        clear hM2 hg2 HM1
        go_wp2
        go_roundw
        case rel =>
          refine ⟨k + 1, by omega, by go_num, HM2.out.congr fun s => ?_, hB2⟩
          by_cases e : s = k
          · subst e; rw [if_pos rfl, HP.out]; simp
          · rw [if_neg e, show decide (s < k + 1) = decide (s < k) by rw [Bool.eq_iff_iff, decide_eq_true_iff, decide_eq_true_iff]; omega]
        case measure => simp [intOf]; omega
    · have E := Lib.hid (show k = N by omega)
      have HM2 : Hid (BMap wr W.heap.size 64 (missQ n xs)) := (HM.out.mono (by omega)).congr fun s => by unfold missQ; rw [HS.out s, E.out]
      go_wp2
      go_ret
      exact ⟨by rw [← HSZ.out]; rfl, by rw [← HSZ.out]; exact HM2.out, HB0.out.trans (hB.mono (by rw [HSZ.out]; omega))⟩

end Go.Proofs.Ytfnpkglijknnoaa

/-! WALKS: impl.MissingSets. -/

namespace Go.Proofs.Ytfnpkglijknnoaa
open Go.RowKit
open Sets

set_option maxRecDepth 100000 in
set_option maxHeartbeats 2000000 in
theorem miss1_pred (B m K : Nat) (f : Nat → Bool) (w : World) (hK : K < w.heap.size) (hk : w.cell? ⟨K, 0, none⟩ = some (.map (some B))) (h : BMap w B m f) :
    PredB 45 #[.pointer (some ⟨K, 0, none⟩)] (fun s => f s && !loses f s) w := by
  intro W s hs hb
  have HM := Lib.hid (h.keeps hb)
  have k1 : W.cell? ⟨K, 0, none⟩ = some (.map (some B)) := (hb.cell (p := ⟨K, 0, none⟩) hK).trans hk
  show Calls Try.prog 45 #[.int .i64 (s : Int), .pointer (some ⟨K, 0, none⟩)] W fun e w' => e = .returned (.bool (f s && !loses f s)) ∧ Below W.heap.size W w'
  clear hk h hb
  cases hf : f s with
  | false =>
    have HF := Lib.hid hf
    clear hf
    rw [Bool.false_and]
    go_enter Try.func45, Try.ntmps45
    go_wp2_with (at_lookup; refine wpList_bmap_look _ rfl _ _ rfl B m f rfl HM.out s false HF.out _ rfl rfl hs ?_)
    go_ret
    exact ⟨rfl, Below.refl _ _⟩
  | true =>
    have HF := Lib.hid hf
    clear hf
    rw [Bool.true_and]
    generalize hl : loses f s = b at *
    have HL := Lib.hid hl
    clear hl
    go_enter Try.func45, Try.ntmps45
    go_wp2_with (at_lookup; refine wpList_bmap_look _ rfl _ _ rfl B m f rfl HM.out s true HF.out _ rfl rfl hs ?_)
    refine (loses_any B m f s hs b HL.out _ HM.out).mono ?_
    rintro e w' ⟨rfl, rfl⟩
    go_wp2
    go_ret
    exact ⟨rfl, Below.refl _ _⟩

set_option maxRecDepth 100000 in
set_option maxHeartbeats 2000000 in
theorem implMissing_any (n : Int) (a : Option Addr) (c : Nat) (xs : List Int) (hcap : xs.length ≤ c) (hlen : xs.length ≤ 1099511627776) (w : World) (h : Ints w a xs) :
    Calls Try.prog 12 #[cx n (.slice a xs.length c)] w fun e w' => ∃ v, e = .returned v ∧ OwnInts w' w.heap.size v (missing n xs) ∧ Below w.heap.size w w' := by
  have hb0 : Below w.heap.size w (w.alloc (Obj.cells #[Value.int IntKind.i64 n, Value.slice a xs.length c] 26)) := (Below.refl _ _).alloc (Nat.le_refl _) _
  have htwo : Two (w.alloc (Obj.cells #[Value.int IntKind.i64 n, Value.slice a xs.length c] 26)) w.heap.size (.int .i64 n) (.slice a xs.length c) := Two.new _ _ _ _
  have H := Lib.hid (h.keeps hb0)
  have HB0 := Lib.hid hb0
  have HT := Lib.hid htwo
  clear h hb0 htwo
  obtain ⟨t0, t1, t2, _, _⟩ := HT.out
  cases hC : isC n xs with
  | false =>
    have HC := Lib.hid hC
    rw [missing_no hC]
    clear hC
    go_enter Try.func12, Try.ntmps12
    go_wp2_with fail
    refine (implIsC_b n _ _ xs hcap false HC.out hlen _ H.out).mono ?_
    rintro e w1 ⟨rfl, hb1⟩
    go_wp2
    go_ret
    exact ⟨_, rfl, OwnInts.nil _ _, HB0.out.trans (hb1.mono (by simp))⟩
  | true =>
    have HC := Lib.hid hC
    have HF : Hid (missing n xs = ord fun s => missQ n xs s && !loses (missQ n xs) s) := by
      have : missing n xs = ord fun s => missQ n xs s && !loses (missQ n xs) s := by rw [missing_yes hC, minQ_loses hC]
      exact this
    clear hC
    have eg : ∀ args w, (callFunc 45 args).run Try.prog w = .ok (.enter 45 args) w := enters_of Try.func45 (by kernel_rfl) rfl
    have EG := Lib.hid eg
    clear eg
    go_enter Try.func12, Try.ntmps12
    go_wp2_with fail
    refine (implIsC_b n _ _ xs hcap true HC.out hlen _ H.out).mono ?_
    rintro e w1 ⟨rfl, hb1⟩
    have HB1 : Hid (Below w.heap.size w w1) := HB0.out.trans (hb1.mono (by simp))
    have HI1 := Lib.hid (H.out.keeps hb1)
    clear t0 t1 t2
    obtain ⟨t0, t1, t2, _, _⟩ := HT.out.keeps hb1
    clear hb1
    go_wp2_with fail
    refine (noFaces_any n a c xs HC.out hlen _ HI1.out).mono ?_
    rintro e w2 ⟨rfl, hM, hb2⟩
    have HB2 : Hid (Below w.heap.size w w2) := HB1.out.trans (hb2.mono HB1.out.size)
    have hsz2 := HB2.out.size
    have hM2 := hM.keeps ((Below.refl w2.heap.size w2).alloc (Nat.le_refl _) (Obj.cells #[Value.map (some (w1.heap.size + 1))] 50))
    have HP := Lib.hid (miss1_pred (w1.heap.size + 1) 64 w2.heap.size (missQ n xs) (w2.alloc (Obj.cells #[Value.map (some (w1.heap.size + 1))] 50)) (by simp) (by simp) hM2)
    clear t0 t1 t2 hM2 hM hb2
    go_wp2_with fail
    refine (setsWhere_bel _ _ _ _ EG.out HP.out).mono ?_
    rintro e w3 ⟨v, rfl, hO, hb3⟩
    go_wp2
    go_ret
    refine ⟨v, rfl, ?_, (HB2.out.alloc (by omega) _).trans (hb3.mono (by simp; omega))⟩
    rw [HF.out]
    exact hO.lower (by simp; omega)

theorem implMissing_b (n : Int) (a : Option Addr) (c : Nat) (xs M : List Int) (hM : missing n xs = M) (hcap : xs.length ≤ c) (hlen : xs.length ≤ 1099511627776) (w : World) (h : Ints w a xs) :
    Calls Try.prog 12 #[cx n (.slice a xs.length c)] w fun e w' => ∃ v, e = .returned v ∧ OwnInts w' w.heap.size v M ∧ Below w.heap.size w w' := by
  subst hM; exact implMissing_any n a c xs hcap hlen w h

end Go.Proofs.Ytfnpkglijknnoaa
