/-
  WALKS: spec's chapter 5: union (written by genpart.py).
-/
import Derived.Test.YtpakjcagdnnedaaWPartM
import Derived.Laws.AppendOwnNone
import Derived.StillTactics
import Derived.Deep.RegionHeld3
import Derived.Deep.AppendLies
namespace Go.Proofs.Ytpakjcagdnnedaa
open Go.RowKit
open Sets

/-- append of a slice that lies anywhere or is nil, at a step of a region that draws. -/
theorem step_append_src {P : Program} (w : World) {ops : Array Oper} {o : Oper} {a : Act} {K : Act → World → Prop} {Q : Exit → Act → World → Prop} {E : Prop} (hgd : o.guard = none) (s x : Operand) (t : TypeId)
    (ho : o.op = .call { callee := .builtin .append, args := #[s, x], argTypes := #[t, t] })
    (base : Nat) (e : TypeId) (i : TypeInfo) (z : Value) (ht : P.underlying t = some (.slice e)) (hi : P.info? e = some i) (hz : i.zero = some z)
    (hsize : i.size = 1) (hby : i.bytes = 8) (hzs : z.cells.size = 1)
    (v : Value) (n : Nat) (xs : List Value) (hs : a.eval s = v) (hown : w.ownsRow base e 1 v n xs)
    (src : Option Addr) (c : Nat) (ys : List Int) (hx : a.eval x = .slice src ys.length c) (hsrc : src = none → c = 0) (hys : Ints w src ys)
    (h63 : n + ys.length ≤ maxLen) (hbytes : (n + ys.length) * 8 ≤ 140737488355328) (hbase : base ≤ w.heap.size)
    (h : ∀ v' w', w'.ownsRow base e 1 v' (n + ys.length) (xs ++ ys.map (Value.int .i64)) → w.grownBy w' v.ownBlock → K (a.put o.dst v') w') :
    if Region.wanted o (yielded ops a.tmps) = true then Oper.wp P o a w K Q else E := by
  have hw : Region.wanted o (yielded ops a.tmps) = true := by simp [Region.wanted, hgd]
  rw [if_pos hw]
  cases src with
  | some ad => exact wp_append_own w s x t ho base e i z 1 8 ht hi hz hsize hby hzs (by decide) v n xs hs hown ad ys.length c (ys.map (Value.int .i64)) hx (by simp) (Ints.news hys) (one_ints ys) h63 hbytes hbase fun v' w' h2 h3 _ => h v' w' h2 h3
  | none =>
    have hyn := hys.none_nil
    subst hyn
    obtain rfl := hsrc rfl
    have hrun := run_append_owned_none (P := P) (w := w) base t o.type e i 1 ht hi v n xs hown
    have hk := h v w (by simpa using hown) (World.grownBy.refl w _)
    have hx2 : a.eval x = .slice none 0 0 := hx
    unfold Oper.wp execOp
    simp only [ho, resolve, invoke, builtin, Sem.run_bind, Sem.run_pure, Result.andThen_ok, List.map_toArray, List.map_cons, List.map_nil, hs, hx2, hrun]
    exact hk

set_option maxRecDepth 100000 in
set_option maxHeartbeats 4000000 in
theorem specUnion_any (n m : Int) (pa pb : Option Addr) (ca cb : Nat) (xs ys : List Int) (hlx : xs.length ≤ 1099511627776) (hly : ys.length ≤ 1099511627776) (w : World) (hna : pa = none → ca = 0) (hnb : pb = none → cb = 0) (hx : Ints w pa xs) (hy : Ints w pb ys) :
    Calls Try.prog 27 #[cx n (.slice pa xs.length ca), cx m (.slice pb ys.length cb)] w fun e w' => ∃ v, e = .returned (.tuple #[cx (oN (unionO n m xs ys)) v, .bool (unionO n m xs ys).isSome]) ∧ OwnInts w' w.heap.size v (oL (unionO n m xs ys)) ∧ Below w.heap.size w w' := by
  have HNA := Lib.hid hna
  have HNB := Lib.hid hnb
  clear hna hnb
  obtain ⟨i0, hi, hz0, hz1, hz2⟩ := info_parts info_int
  have hb0 : Below w.heap.size w (((w.alloc (.cells #[.int .i64 n, .slice pa xs.length ca] 26)).alloc (.cells #[.int .i64 m, .slice pb ys.length cb] 26)).alloc (.cells #[.int .i64 0, .slice none 0 0] 26)) := (((Below.refl _ _).alloc (Nat.le_refl _) _).alloc (by simp) _).alloc (by simp; omega) _
  have hta := ((Two.new w (.int .i64 n) (.slice pa xs.length ca) 26).alloc (.cells #[.int .i64 m, .slice pb ys.length cb] 26)).alloc (.cells #[.int .i64 0, .slice none 0 0] 26)
  have htb := (Two.new (w.alloc (.cells #[.int .i64 n, .slice pa xs.length ca] 26)) (.int .i64 m) (.slice pb ys.length cb) 26).alloc (.cells #[.int .i64 0, .slice none 0 0] 26)
  have htr := Two.new ((w.alloc (.cells #[.int .i64 n, .slice pa xs.length ca] 26)).alloc (.cells #[.int .i64 m, .slice pb ys.length cb] 26)) (.int .i64 0) (.slice none 0 0) 26
  simp only [World.size_alloc] at htb htr
  have hX := hx.keeps hb0
  have hY := hy.keeps hb0
  obtain ⟨bb, hbb⟩ : ∃ bb, w.heap.size + 1 = bb := ⟨_, rfl⟩
  obtain ⟨br, hbr⟩ : ∃ br, bb + 1 = br := ⟨_, rfl⟩
  rw [hbb] at htb htr
  rw [hbr] at htr
  have hwb : w.heap.size < bb := by omega
  have hwr : bb < br := by omega
  have TA := Lib.hid hta
  have TB := Lib.hid htb
  have TR := Lib.hid htr
  have HX := Lib.hid hX
  have HY := Lib.hid hY
  have HBV := Lib.hid hb0
  obtain ⟨k0, k1, k2, k3, k4⟩ := hta
  obtain ⟨l0, l1, l2, l3, l4⟩ := htb
  clear hx hy htr hX hY hb0
  cases hcx : isC n xs with
  | false =>
    have HCX := Lib.hid hcx
    rw [show unionO n m xs ys = none from partO_no (by unfold bothOk; rw [hcx]; rfl)]
    clear hcx
    go_enter Try.func27, Try.ntmps27
    go_wp2_with fail
    try rw [hbb]
    try rw [hbr]
    refine (specIsC_b n _ _ xs false HCX.out hlx _ HX.out).mono ?_
    rintro e w1 ⟨rfl, hb1⟩
    obtain ⟨r0, r1, r2, r3, r4⟩ := TR.out.keeps hb1
    have HB1 : Hid (Below w.heap.size w w1) := HBV.out.trans (hb1.mono HBV.out.size)
    clear hb1
    go_wp2
    refine ret_cx2 br rfl rfl rfl (x := .int .i64 0) (y := .slice none 0 0) (by go_simp) (by go_simp) rfl ?_
    exact ⟨_, rfl, OwnInts.nil _ _, by first | exact (HB1.out.setCell (by dsimp only; omega) _).setCell (by dsimp only; omega) _ | exact HB1.out⟩
  | true =>
  cases hcy : isC m ys with
  | false =>
    have HCX := Lib.hid hcx
    have HCY := Lib.hid hcy
    rw [show unionO n m xs ys = none from partO_no (by unfold bothOk; rw [hcx, hcy]; rfl)]
    clear hcx hcy
    go_enter Try.func27, Try.ntmps27
    go_wp2_with fail
    try rw [hbb]
    try rw [hbr]
    refine (specIsC_b n _ _ xs true HCX.out hlx _ HX.out).mono ?_
    rintro e w1 ⟨rfl, hb1⟩
    have TA1 := Lib.hid (TA.out.keeps hb1)
    have TB1 := Lib.hid (TB.out.keeps hb1)
    have TR1 := Lib.hid (TR.out.keeps hb1)
    have HX1 := Lib.hid (HX.out.keeps hb1)
    have HY1 := Lib.hid (HY.out.keeps hb1)
    have HBV1 : Hid (Below w.heap.size w w1) := HBV.out.trans (hb1.mono HBV.out.size)
    clear hb1
    obtain ⟨d0, d1, d2, d3, d4⟩ := TB1.out
    go_wp2_with fail
    refine (specIsC_b m _ _ ys false HCY.out hly _ HY1.out).mono ?_
    rintro e w2 ⟨rfl, hb2⟩
    obtain ⟨r0, r1, r2, r3, r4⟩ := TR1.out.keeps hb2
    have HB1 : Hid (Below w.heap.size w w2) := HBV1.out.trans (hb2.mono HBV1.out.size)
    clear hb2
    go_wp2
    refine ret_cx2 br rfl rfl rfl (x := .int .i64 0) (y := .slice none 0 0) (by go_simp) (by go_simp) rfl ?_
    exact ⟨_, rfl, OwnInts.nil _ _, by first | exact (HB1.out.setCell (by dsimp only; omega) _).setCell (by dsimp only; omega) _ | exact HB1.out⟩
  | true =>
  by_cases hnm : n = m
  case neg =>
    have HCX := Lib.hid hcx
    have HCY := Lib.hid hcy
    have hnq : (n != m) = true := by simp [hnm]
    rw [show unionO n m xs ys = none from partO_no (by unfold bothOk; rw [hcx, hcy]; simp [hnm])]
    clear hcx hcy hnm
    go_enter Try.func27, Try.ntmps27
    go_wp2_with fail
    try rw [hbb]
    try rw [hbr]
    refine (specIsC_b n _ _ xs true HCX.out hlx _ HX.out).mono ?_
    rintro e w1 ⟨rfl, hb1⟩
    have TA1 := Lib.hid (TA.out.keeps hb1)
    have TB1 := Lib.hid (TB.out.keeps hb1)
    have TR1 := Lib.hid (TR.out.keeps hb1)
    have HX1 := Lib.hid (HX.out.keeps hb1)
    have HY1 := Lib.hid (HY.out.keeps hb1)
    have HBV1 : Hid (Below w.heap.size w w1) := HBV.out.trans (hb1.mono HBV.out.size)
    clear hb1
    obtain ⟨d0, d1, d2, d3, d4⟩ := TB1.out
    go_wp2_with fail
    refine (specIsC_b m _ _ ys true HCY.out hly _ HY1.out).mono ?_
    rintro e w2 ⟨rfl, hb2⟩
    obtain ⟨e0, e1, e2, e3, e4⟩ := TA1.out.keeps hb2
    obtain ⟨f0, f1, f2, f3, f4⟩ := TB1.out.keeps hb2
    obtain ⟨r0, r1, r2, r3, r4⟩ := TR1.out.keeps hb2
    have HB1 : Hid (Below w.heap.size w w2) := HBV1.out.trans (hb2.mono HBV1.out.size)
    clear hb2
    go_wp2
    refine ret_cx2 br rfl rfl rfl (x := .int .i64 0) (y := .slice none 0 0) (by go_simp) (by go_simp) rfl ?_
    exact ⟨_, rfl, OwnInts.nil _ _, by first | exact (HB1.out.setCell (by dsimp only; omega) _).setCell (by dsimp only; omega) _ | exact HB1.out⟩
  case pos =>
    subst hnm
    have HCX := Lib.hid hcx
    have HCY := Lib.hid hcy
    have hnq : (n != n) = false := by simp
    rw [show unionO n n xs ys = some (n, maxQ (orQ xs ys)) from partO_yes (by unfold bothOk; rw [hcx, hcy]; simp)]
    clear hcx hcy
    go_enter Try.func27, Try.ntmps27
    go_wp2_with fail
    try rw [hbb]
    try rw [hbr]
    refine (specIsC_b n _ _ xs true HCX.out hlx _ HX.out).mono ?_
    rintro e w1 ⟨rfl, hb1⟩
    have TA1 := Lib.hid (TA.out.keeps hb1)
    have TB1 := Lib.hid (TB.out.keeps hb1)
    have TR1 := Lib.hid (TR.out.keeps hb1)
    have HX1 := Lib.hid (HX.out.keeps hb1)
    have HY1 := Lib.hid (HY.out.keeps hb1)
    have HBV1 : Hid (Below w.heap.size w w1) := HBV.out.trans (hb1.mono HBV.out.size)
    clear hb1
    obtain ⟨d0, d1, d2, d3, d4⟩ := TB1.out
    go_wp2_with fail
    refine (specIsC_b n _ _ ys true HCY.out hly _ HY1.out).mono ?_
    rintro e w2 ⟨rfl, hb2⟩
    obtain ⟨V, rfl⟩ : ∃ V : World, V = w2 := ⟨_, rfl⟩
    have TAv := Lib.hid (TA1.out.keeps hb2)
    have TBv := Lib.hid (TB1.out.keeps hb2)
    have TRv := Lib.hid (TR1.out.keeps hb2)
    have HXv := Lib.hid (HX1.out.keeps hb2)
    have HYv := Lib.hid (HY1.out.keeps hb2)
    have HBVv : Hid (Below w.heap.size w V) := HBV1.out.trans (hb2.mono HBV1.out.size)
    have hvs := HBVv.out.size
    have hbv := TRv.out.1
    clear hb2 hbb hbr k0 k1 k2 k3 k4 l0 l1 l2 l3 l4 d0 d1 d2 d3 d4 TA1 TB1 TR1 HX1 HY1 HBV1
    obtain ⟨e0, e1, e2, e3, e4⟩ := TAv.out
    obtain ⟨f0, f1, f2, f3, f4⟩ := TBv.out
    have hxl := isC_le HCX.out
    have hyl := isC_le HCY.out
    have hba : Below V.heap.size V (V.alloc (.cells #[] 3)) := (Below.refl _ _).alloc (Nat.le_refl _) _
    have HO0 : Hid ((V.alloc (.cells #[] 3)).ownsRow V.heap.size 3 1 (.slice (some ⟨V.heap.size, 0, none⟩) 0 0) 0 []) := Lib.hid (OwnInts.lit V V.heap.size [] (Nat.le_refl _) (by simp))
    have HBA := Lib.hid hba
    clear hba
    have KEEP : ∀ w' : World, Below V.heap.size V w' → w'.cell? ⟨w.heap.size, 0, none⟩ = some (.int .i64 n) ∧ w'.cell? ⟨w.heap.size, 1, none⟩ = some (.slice pa xs.length ca) ∧ w'.cell? ⟨bb, 1, none⟩ = some (.slice pb ys.length cb) := fun w' hb => ⟨(TAv.out.keeps hb).2.1, (TAv.out.keeps hb).2.2.1, (TBv.out.keeps hb).2.2.1⟩
    have hbA : Below V.heap.size V ((V.alloc (.cells #[] 3)).drew) := HBA.out.drew
    have hle : (xs ++ ys).length ≤ 1099511627776 := by rw [List.length_append]; omega
    have LM : ∀ (a1 : Option Addr) (c1 : Nat) (W : World), Ints W a1 (xs ++ ys) → Calls Try.prog 45 #[.int .i64 n, .slice a1 (xs.length + ys.length) c1] W fun e w' => ∃ v, e = .returned (cx n v) ∧ OwnInts w' W.heap.size v (maxQ (orQ xs ys)) ∧ Below W.heap.size W w' := fun a1 c1 W h => by
      have hm := l3Make_any n a1 c1 (xs ++ ys) (app_ok (isC_ok HCX.out) (isC_ok HCY.out)) hle W h
      rw [union_spec xs ys (isC_ok HCX.out) (isC_ok HCY.out), List.length_append] at hm
      exact hm
    have KS : ∀ (W : World) (x y : Value), (W.cell? ⟨w.heap.size, 0, none⟩ = some (.int .i64 n) ∧ W.cell? ⟨w.heap.size, 1, none⟩ = some (.slice pa xs.length ca) ∧ W.cell? ⟨bb, 1, none⟩ = some (.slice pb ys.length cb)) → (((W.setCell ⟨br, 0, none⟩ x).setCell ⟨br, 1, none⟩ y).cell? ⟨w.heap.size, 0, none⟩ = some (.int .i64 n) ∧ ((W.setCell ⟨br, 0, none⟩ x).setCell ⟨br, 1, none⟩ y).cell? ⟨w.heap.size, 1, none⟩ = some (.slice pa xs.length ca) ∧ ((W.setCell ⟨br, 0, none⟩ x).setCell ⟨br, 1, none⟩ y).cell? ⟨bb, 1, none⟩ = some (.slice pb ys.length cb)) := fun W x y ⟨h1, h2, h3⟩ => by
      have q1 : w.heap.size ≠ br := by omega
      have q2 : bb ≠ br := by omega
      refine ⟨?_, ?_, ?_⟩ <;> (rw [World.cell?_setCell_far _ _ _ _ (by first | exact Ne.symm q1 | exact Ne.symm q2), World.cell?_setCell_far _ _ _ _ (by first | exact Ne.symm q1 | exact Ne.symm q2)]; assumption)
    have HBD : Hid (Below V.heap.size V V.drew) := Lib.hid (Below.refl _ _).drew
    go_wp2_with fail
    go_region_held3 (fun w' => w'.cell? ⟨w.heap.size, 0, none⟩ = some (.int .i64 n) ∧ w'.cell? ⟨w.heap.size, 1, none⟩ = some (.slice pa xs.length ca) ∧ w'.cell? ⟨bb, 1, none⟩ = some (.slice pb ys.length cb))
      (first | exact KS _ _ _ (KEEP _ hb6') | exact KEEP _ hb6' | exact KEEP _ hb4 | exact KEEP _ hb3 | exact KEEP _ hbA | exact KEEP _ HBD.out | exact KEEP _ HBA.out | fail "keep")
      ((first
        | (go_at_call 45
           with_reducible refine (LM _ _ _ hr1.ints).mono ?_
           rintro e w6 ⟨v, rfl, hO2, hb6⟩
           obtain ⟨a2, c2x, g2, rfl, hc2, hg2, hr2, _⟩ := OwnInts.ata hO2 hb6.size
           have hb6' : Below V.heap.size V w6 := hb4.trans (hb6.mono hs4)
           obtain ⟨r0, r1, r2, r3, r4⟩ := TRv.out.keeps hb6'
           have hs6 := hb6'.size)
        | (refine step_append_src _ (by rfl) _ _ _ (by rfl) V.heap.size 3 i0 (.int .i64 0) Try.underlying24 hi hz0 hz1 hz2 rfl v1 (0 + xs.length) _ (by rfl) hown1 pb cb ys (by rfl) HNB.out (HYv.out.keeps hb3) (by unfold maxLen; omega) (by omega) hs3 ?_; intro v2 w4 hown2 hgrow2
           have hb4 : Below V.heap.size V w4 := hb3.grown hgrow2 hs3 (fun g hg => (hown1.lt g hg).1)
           have hO4 : OwnInts w4 V.heap.size v2 (xs ++ ys) := (by unfold OwnInts; rw [List.length_append, List.map_append]; have h := hown2; rw [Nat.zero_add, List.nil_append] at h; exact h)
           have hs4 := hb4.size
           obtain ⟨a1, c1, g1x, rfl, hg1x, hr1⟩ := OwnInts.at hO4)
        | (refine step_append_src _ (by rfl) _ _ _ (by rfl) V.heap.size 3 i0 (.int .i64 0) Try.underlying24 hi hz0 hz1 hz2 rfl (.slice (some ⟨V.heap.size, 0, none⟩) 0 0) 0 [] (by rfl) HO0.out.drew pa ca xs (by rfl) HNA.out (HXv.out.keeps hbA) (by unfold maxLen; omega) (by omega) (by simp) ?_; intro v1 w3 hown1 hgrow1
           have hb3 : Below V.heap.size V w3 := hbA.grown hgrow1 (by simp) (fun g hg => (HO0.out.lt g hg).1)
           have hs3 := hb3.size)
        | fail "arm"))
    have HO2 := Lib.hid (OwnInts.lower hO2 hs4)
    have HB6 : Hid (Below w.heap.size w w6) := HBVv.out.trans (hb6'.mono hvs)
    clear hO2 hr2 hb6
    go_wp2
    refine ret_cx2 br rfl rfl rfl (x := .int .i64 n) (y := .slice a2 (maxQ (orQ xs ys)).length c2x) (by go_simp) (by go_simp) rfl ?_
    exact ⟨_, rfl, (OwnInts.set (OwnInts.set HO2.out _ _ _ (by omega)) _ _ _ (by omega)).lower (by omega), (HB6.out.setCell (by dsimp only; omega) _).setCell (by dsimp only; omega) _⟩

end Go.Proofs.Ytpakjcagdnnedaa
