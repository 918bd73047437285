/-
  TEXTS of one claim, put together: WJoinS3, Mx.
-/
import Derived.Test.YthobncbggaggjaaJg11
import Derived.Laws.AppendOwnNone
import Derived.Test.YthobncbggaggjaaJg10
import Derived.Test.YthobncbggaggjaaLin2
/-! WALK of chapter 6 (spec): the disjoint union of two complexes. -/

namespace Go.Proofs.Ythobncbggaggjaa
open Go.RowKit
open Sets Join Lin Hom

theorem Ints.newsJ {w : World} {ad : Addr} {xs : List Int} (h : Ints w (some ad) xs) : ∀ (j : Nat) u, (xs.map (Value.int .i64))[j]? = some u → w.cell? (ad.add j) = some u := fun j u hu => by
  have hj : j < (xs.map (Value.int .i64)).length := (List.getElem?_eq_some_iff.1 hu).1
  rw [List.length_map] at hj
  rw [ints_cell xs j hj] at hu
  cases hu
  obtain ⟨b, o, e, hc⟩ := h j hj
  cases e
  have e1 : (⟨b, o, none⟩ : Addr).add j = ⟨b, o + j, none⟩ := by unfold Addr.add; split <;> simp_all
  rw [e1]; exact hc
theorem Ints.nilJ {w : World} {xs : List Int} (h : Ints w none xs) : xs = [] := by
  rcases Nat.eq_zero_or_pos xs.length with e | e
  · exact List.eq_nil_of_length_eq_zero e
  · obtain ⟨_, _, e, _⟩ := h 0 e; cases e
theorem one_intsJ (xs : List Int) : ∀ u ∈ xs.map (Value.int .i64), u.oneCell' = true := by
  intro u hu; obtain ⟨x, _, rfl⟩ := List.mem_map.1 hu; rfl
theorem run_append_noneC {P : Program} {w : World} (base : Nat) (t ty e : TypeId) (i : TypeInfo) (size : Nat) (ht : P.underlying t = some (.slice e)) (hi : P.info? e = some i)
    (v : Value) (n : Nat) (xs : List Value) (hown : w.ownsRow base e size v n xs) (c : Nat) :
    (Builtin.append_ #[t, t] ty #[v, .slice none 0 c]).run P w = .ok v w := by
  rcases hown.2 with ⟨rfl, rfl⟩ | ⟨g, cap, cur, rfl, _, _, hnc, _⟩
  · simp [Builtin.append_, run_underlying ht, sizeOf, typeInfo, hi, Builtin.lenOf, Builtin.firstCells]
  · simp [Builtin.append_, run_underlying ht, sizeOf, typeInfo, hi, Builtin.lenOf, Builtin.firstCells, hnc, storeCells]
/-- append of a slice that lies anywhere or is nil. -/
theorem wpList_append_src {P : Program} {ops : Array Oper} {rest : List Oper} {o : Oper} {a : Act} {w : World} {Q : Exit → Act → World → Prop} (hgd : o.guard = none) (s x : Operand) (t : TypeId)
    (ho : o.op = .call { callee := .builtin .append, args := #[s, x], argTypes := #[t, t] })
    (base : Nat) (e : TypeId) (i : TypeInfo) (z : Value) (ht : P.underlying t = some (.slice e)) (hi : P.info? e = some i) (hz : i.zero = some z)
    (hsize : i.size = 1) (hby : i.bytes = 8) (hzs : z.cells.size = 1)
    (v : Value) (n : Nat) (xs : List Value) (hs : a.eval s = v) (hown : w.ownsRow base e 1 v n xs)
    (src : Option Addr) (c : Nat) (ys : List Int) (hx : a.eval x = .slice src ys.length c) (hys : Ints w src ys)
    (h63 : n + ys.length ≤ maxLen) (hbytes : (n + ys.length) * 8 ≤ 140737488355328) (hbase : base ≤ w.heap.size)
    (h : ∀ v' w', w'.ownsRow base e 1 v' (n + ys.length) (xs ++ ys.map (Value.int .i64)) → w.grownBy w' v.ownBlock → wpList P ops Q rest (a.put o.dst v') w') :
    wpList P ops Q (o :: rest) a w := by
  cases src with
  | some ad => exact wpList_append_own w hgd s x t ho base e i z 1 8 ht hi hz hsize hby hzs (by decide) v n xs hs hown ad ys.length c (ys.map (Value.int .i64)) hx (by simp) (Ints.newsJ hys) (one_intsJ ys) h63 hbytes hbase fun v' w' h2 h3 _ => h v' w' h2 h3
  | none =>
    have hyn := hys.nilJ
    subst hyn
    have hrun := run_append_noneC (P := P) (w := w) base t o.type e i 1 ht hi v n xs hown c
    have hk := h v w (by simpa using hown) (World.grownBy.refl w _)
    have hx2 : a.eval x = .slice none 0 c := hx
    refine wpList_plain hgd fun K hK => ?_
    unfold Oper.wp execOp
    simp only [ho, resolve, invoke, builtin, Sem.run_bind, Sem.run_pure, Result.andThen_ok, List.map_toArray, List.map_cons, List.map_nil, hs, hx2, hrun]
    exact hK _ _ hk

/-- The sets of a disjoint union so far: k facets of the other one. -/
def bothL (nn : Nat) (xs ys : List Int) (k : Nat) : List Int := xs ++ (ys.take k).map fun y => 2 ^ nn * y
theorem bothL_zero (nn : Nat) (xs ys : List Int) : bothL nn xs ys 0 = xs := by unfold bothL; simp
theorem bothL_next (nn : Nat) (xs ys : List Int) (k : Nat) (h : k < ys.length) : bothL nn xs ys (k + 1) = bothL nn xs ys k ++ [2 ^ nn * ys.getD k 0] := by
  unfold bothL
  rw [List.take_add_one, List.map_append, ← List.append_assoc]
  simp [List.getD, List.getElem?_eq_getElem h]
theorem bothL_end (nn : Nat) (xs ys : List Int) : bothL nn xs ys ys.length = both nn xs ys := by unfold bothL both; rw [List.take_length]
theorem bothL_length (nn : Nat) (xs ys : List Int) (k : Nat) (h : k ≤ ys.length) : (bothL nn xs ys k).length = xs.length + k := by
  unfold bothL; rw [List.length_append, List.length_map, List.length_take, Nat.min_eq_left h]
theorem both_ok {n m : Int} {xs ys : List Int} (h : joinOk n m xs ys = true) : allOk (both n.toNat xs ys) = true := by
  obtain ⟨hx, hy, hnm⟩ := (joinOk_iff n m xs ys).1 h
  have hn := isC_n hx
  have hm := isC_n hy
  unfold allOk
  rw [List.all_eq_true]
  intro z hz
  unfold both at hz
  rcases List.mem_append.1 hz with hz | hz
  · obtain ⟨f, rfl, hf⟩ := isC_nat hx z hz
    have h2 := Nat.pow_le_pow_right (n := 2) (by decide) (show n.toNat ≤ 6 by omega)
    rw [okZ_nat]; omega
  · obtain ⟨y, hy', rfl⟩ := List.mem_map.1 hz
    obtain ⟨g, rfl, hg⟩ := isC_nat hy y hy'
    have h1 : 2 ^ n.toNat * (g + 1) ≤ 2 ^ n.toNat * 2 ^ m.toNat := Nat.mul_le_mul_left _ (by omega)
    rw [← Nat.pow_add, Nat.mul_add] at h1
    have h2 := Nat.pow_le_pow_right (n := 2) (by decide) (show n.toNat + m.toNat ≤ 6 by omega)
    have h3 := Nat.two_pow_pos n.toNat
    rw [show (2 : Int) ^ n.toNat * (g : Int) = ((2 ^ n.toNat * g : Nat) : Int) by push_cast; rfl, okZ_nat]
    omega
theorem both_max {n m : Int} {xs ys : List Int} (h : joinOk n m xs ys = true) : maximal (both n.toNat xs ys) = maxQ (disQ n.toNat (inF xs) (inF ys)) := by
  obtain ⟨hx, hy, hnm⟩ := (joinOk_iff n m xs ys).1 h
  rw [maximal_maxQ _ (both_ok h)]
  exact maxQ_congr fun s _ => inF_both (isC_nat hx) (fun y hy' => by obtain ⟨g, e, _⟩ := isC_nat hy y hy'; exact ⟨g, e⟩) s

set_option maxRecDepth 100000 in
set_option maxHeartbeats 4000000 in
theorem specDis_any (n m : Int) (pa pb : Option Addr) (ca cb : Nat) (xs ys : List Int) (hlx : xs.length ≤ 1099511627776) (hly : ys.length ≤ 1099511627776) (w : World) (hx : Ints w pa xs) (hy : Ints w pb ys) :
    Calls Try.prog 16 #[cx n (.slice pa xs.length ca), cx m (.slice pb ys.length cb)] w fun e w' => ∃ v, e = .returned (.tuple #[cx (oN (disO n m xs ys)) v, .bool (disO n m xs ys).isSome]) ∧ OwnInts w' w.heap.size v (oL (disO n m xs ys)) ∧ Below w.heap.size w w' := by
  obtain ⟨i0, hi, hz0, hz1, hz2⟩ := info_parts info_int
  have hb0 : Below w.heap.size w (((w.alloc (.cells #[.int .i64 n, .slice pa xs.length ca] 26)).alloc (.cells #[.int .i64 m, .slice pb ys.length cb] 26)).alloc (.cells #[.int .i64 0, .slice none 0 0] 26)) := (((Below.refl _ _).alloc (Nat.le_refl _) _).alloc (by simp) _).alloc (by simp; omega) _
  have hta := ((Two.new w (.int .i64 n) (.slice pa xs.length ca) 26).alloc (.cells #[.int .i64 m, .slice pb ys.length cb] 26)).alloc (.cells #[.int .i64 0, .slice none 0 0] 26)
  have htb := (Two.new (w.alloc (.cells #[.int .i64 n, .slice pa xs.length ca] 26)) (.int .i64 m) (.slice pb ys.length cb) 26).alloc (.cells #[.int .i64 0, .slice none 0 0] 26)
  have htr := Two.new ((w.alloc (.cells #[.int .i64 n, .slice pa xs.length ca] 26)).alloc (.cells #[.int .i64 m, .slice pb ys.length cb] 26)) (.int .i64 0) (.slice none 0 0) 26
  simp only [World.size_alloc] at htb htr
  have hX := hx.keeps hb0
  have hY := hy.keeps hb0
  obtain ⟨bb, hbb⟩ : ∃ bb, w.heap.size + 1 = bb := ⟨_, rfl⟩
  obtain ⟨br, hbr⟩ : ∃ br, bb + 1 = br := ⟨_, rfl⟩
  rw [hbb] at htb htr
  rw [hbr] at htr
  have hwb : w.heap.size < bb := by omega
  have hwr : bb < br := by omega
  have TA := Lib.hid hta
  have TB := Lib.hid htb
  have TR := Lib.hid htr
  have HX := Lib.hid hX
  have HY := Lib.hid hY
  have HBV := Lib.hid hb0
  have HBB := Lib.hid hbb
  have HBR := Lib.hid hbr
  obtain ⟨k0, k1, k2, k3, k4⟩ := hta
  obtain ⟨l0, l1, l2, l3, l4⟩ := htb
  clear hx hy htr hX hY hb0 hbb hbr
  cases hok : joinOk n m xs ys with
  | false =>
    have HOK := Lib.hid hok
    rw [show disO n m xs ys = none from partJ_no hok]
    clear hok
    go_enter Try.func16, Try.ntmps16
    go_wp2_with fail
    try rw [HBB.out]
    try rw [HBR.out]
    refine (l6Fit_b n m _ _ _ _ xs ys hlx hly false HOK.out _ HX.out HY.out).mono ?_
    rintro e w1 ⟨rfl, hb1⟩
    obtain ⟨r0, r1, r2, r3, r4⟩ := TR.out.keeps hb1
    have HB1 : Hid (Below w.heap.size w w1) := HBV.out.trans (hb1.mono HBV.out.size)
    clear hb1
    go_wp2
    refine ret_cx2 br rfl rfl rfl (x := .int .i64 0) (y := .slice none 0 0) (by go_simp) (by go_simp) rfl ?_
    exact ⟨_, rfl, OwnInts.nil _ _, by first | exact (HB1.out.setCell (by dsimp only; omega) _).setCell (by dsimp only; omega) _ | exact HB1.out⟩
  | true =>
    have HOK := Lib.hid hok
    rw [show disO n m xs ys = some (n + m, maxQ (disQ n.toNat (inF xs) (inF ys))) from partJ_yes hok]
    obtain ⟨hcx, hcy, hnm⟩ := (joinOk_iff n m xs ys).1 hok
    have hn := isC_n hcx
    have hm := isC_n hcy
    have HCX := Lib.hid hcx
    have HCY := Lib.hid hcy
    have hxl := isC_le hcx
    have hyl := isC_le hcy
    have HPO := Lib.hid (both_ok hok)
    have HPM := Lib.hid (both_max hok)
    have HNX := Lib.hid (isC_nat hcx)
    have HNY := Lib.hid (isC_nat hcy)
    have hprod : xs.length * ys.length ≤ 64 * 64 := Nat.mul_le_mul hxl hyl
    obtain ⟨nn, hnn⟩ : ∃ nn : Nat, (nn : Int) = n := ⟨n.toNat, by omega⟩
    subst hnn
    rw [show ((nn : Int)).toNat = nn from rfl] at HPO HPM HNX ⊢
    have hn6 : nn ≤ 5 := by omega
    clear hok hcx hcy
    go_enter Try.func16, Try.ntmps16
    go_wp2_with fail
    try rw [HBB.out]
    try rw [HBR.out]
    refine (l6Fit_b (nn : Int) m _ _ _ _ xs ys hlx hly true HOK.out _ HX.out HY.out).mono ?_
    rintro e w1 ⟨rfl, hb1⟩
    obtain ⟨V, rfl⟩ : ∃ V : World, V = w1 := ⟨_, rfl⟩
    have TA2 := Lib.hid (TA.out.keeps hb1)
    have TB2 := Lib.hid (TB.out.keeps hb1)
    have TR2 := Lib.hid (TR.out.keeps hb1)
    have HX2 := Lib.hid (HX.out.keeps hb1)
    have HY2 := Lib.hid (HY.out.keeps hb1)
    have HBV2 : Hid (Below w.heap.size w V) := HBV.out.trans (hb1.mono HBV.out.size)
    have hvs := HBV2.out.size
    have hbv := TR2.out.1
    clear hb1 k0 k1 k2 k3 k4 l0 l1 l2 l3 l4 TA TB TR HX HY HBV
    obtain ⟨e0, e1, e2, e3, e4⟩ := TA2.out
    obtain ⟨f0, f1, f2, f3, f4⟩ := TB2.out
    have HO0 := Lib.hid (OwnInts.lit V V.heap.size [] (Nat.le_refl _) (by simp))
    have hb9 : Below V.heap.size V (V.alloc (.cells #[] 3)) := (Below.refl _ _).alloc (Nat.le_refl _) _
    have HX9 := Lib.hid (HX2.out.keeps hb9)
    have HB9 := Lib.hid hb9
    clear hb9
    go_wp2_with (at_builtin; refine wpList_append_src rfl _ _ 24 rfl V.heap.size 3 i0 (.int .i64 0) Try.underlying24 hi hz0 hz1 hz2 rfl _ 0 [] rfl HO0.out pa ca xs rfl HX9.out ?c1 ?c2 ?c3 ?_)
    case c1 => unfold maxLen; omega
    case c2 => omega
    case c3 => simp
    intro v1 w3 hown1 hgrow1
    have hO3 : OwnInts w3 V.heap.size v1 (bothL nn xs ys 0) := by
      rw [bothL_zero]
      unfold OwnInts
      simpa using hown1
    have hB3 : Below V.heap.size V w3 := HB9.out.grown hgrow1 (by simp) (fun g hg => (HO0.out.lt g hg).1)
    have HO3 := Lib.hid hO3
    have HB3 := Lib.hid hB3
    clear hown1 hgrow1 hO3 hB3 e0 e1 e2 e3 e4 f0 f1 f2 f3 f4 HO0 HX9 HB9
    go_wp2
    go_loopw [6, 7] (fun v i wr => ∃ k : Nat, k ≤ ys.length ∧ i = .int .i64 (k : Int) ∧ OwnInts wr V.heap.size v (bothL nn xs ys k) ∧ Below V.heap.size V wr) (fun _ i _ => ys.length - (intOf i).toNat)
    case atStart => exact ⟨0, Nat.zero_le _, rfl, HO3.out, HB3.out⟩
    case round =>
      clear HO3 HB3
      obtain ⟨k, hk, rfl, hO, hB⟩ := hrel
      have HO := Lib.hid hO
      unfold OwnInts at HO
      have hsz := hB.size
      have hl := bothL_length nn xs ys k hk
      rw [hl] at HO
      have HL := Lib.hid hl
      have HOI := Lib.hid hO
      clear hO hl
      obtain ⟨e0, e1, e2, e3, e4⟩ := TA2.out.keeps hB
      obtain ⟨f0, f1, f2, f3, f4⟩ := TB2.out.keeps hB
      by_cases hlk : k < ys.length
      · obtain ⟨b1, o1, hbe, g1⟩ := (HY2.out.keeps hB) k hlk
        have hby : b1 < V.heap.size := by
          obtain ⟨_, _, hq3, hq4⟩ := HY2.out k hlk
          rw [hbe] at hq3
          cases hq3
          exact World.block_lt_of_cell? V _ hq4
        obtain ⟨t, ht, ht64⟩ : ∃ f : Nat, ys.getD k 0 = (f : Int) ∧ f < 2 ^ m.toNat := HNY.out _ (by simp only [List.getD, List.getElem?_eq_getElem hlk, Option.getD_some]; exact List.getElem_mem hlk)
        rw [ht] at g1
        have HN := Lib.hid ((bothL_next nn xs ys k hlk).trans (by rw [ht] : _ = bothL nn xs ys k ++ [2 ^ nn * (t : Int)]))
        subst hbe
        have hft : 2 ^ nn * t < 64 := by
          have h1 : 2 ^ nn * (t + 1) ≤ 2 ^ nn * 2 ^ m.toNat := Nat.mul_le_mul_left _ (by omega)
          rw [← Nat.pow_add, Nat.mul_add] at h1
          have h2 := Nat.pow_le_pow_right (n := 2) (by decide) (show nn + m.toNat ≤ 6 by omega)
          have h3 := Nat.two_pow_pos nn
          omega
        have HZ : Hid (IntKind.i64.wrap ((t : Int) * 2 ^ min (IntKind.u64.wrap (nn : Int)).toNat 64) = 2 ^ nn * (t : Int)) := by
          show _ = _
          rw [shl_small t nn (by omega) hft]; push_cast; rfl
        have hno : ∀ g, g < V.heap.size → u6.ownBlock ≠ some g := fun g hg e => absurd (HO.out.lt g e).1 (by omega)
        have hn0 := hno _ (show w.heap.size < V.heap.size by omega)
        have hn1 := hno _ (show bb < V.heap.size by omega)
        have hn3 := hno _ hby
        clear hno ht
        go_wp2_with fail
        go_region_held3 (fun w' => w'.cell? ⟨w.heap.size, 0, none⟩ = some (.int .i64 (nn : Int)) ∧ w'.cell? ⟨bb, 1, none⟩ = some (.slice (some ⟨b1, o1, none⟩) ys.length cb) ∧ w'.cell? ⟨b1, o1 + k, none⟩ = some (.int .i64 (t : Int)))
          (first | go_keep | (go_split_ands; refine ⟨?_, ?_, ?_⟩ <;> (first | (rw [hgrow.cell_far _ (by simp; omega) (Ne.symm hn0)]; assumption) | (rw [hgrow.cell_far _ (by simp; omega) (Ne.symm hn1)]; assumption) | (rw [hgrow.cell_far _ (by simp; omega) (Ne.symm hn3)]; assumption))))
          ((refine step_append_lies _ (by rfl) _ _ _ (by rfl) V.heap.size 3 i0 (.int .i64 0) 1 8 Try.underlying24 hi hz0 hz1 hz2 rfl (by omega) u6 (xs.length + k) (List.map (Value.int IntKind.i64) (bothL nn xs ys k)) (by rfl) ((HO.out.alloc _).drew) ⟨wr.heap.size, 0, none⟩ 1 1 [.int .i64 (IntKind.i64.wrap ((t : Int) * 2 ^ min (IntKind.u64.wrap (nn : Int)).toNat 64))] (by rfl) (by rfl) (World.news_of_block (cs := #[.int .i64 (IntKind.i64.wrap ((t : Int) * 2 ^ min (IntKind.u64.wrap (nn : Int)).toNat 64))]) (t := 3) (fr := (0, 0)) (heap_alloc_new wr _)) (by simp [Value.oneCell']) (by omega) (by unfold maxLen; omega) (by omega) (by simp; omega) (wr.heap.size + 1) (by simp) ?_; intro gg cap w1 hown1 hgrow hat hlt))
        have hB5 : Below V.heap.size V w1 := ((hB.alloc hsz _).drew).grown hgrow (by simp; omega) (fun g hg => (HO.out.lt g hg).1)
        rw [HZ.out] at hown1
        have hO5 : OwnInts w1 V.heap.size (.slice (some ⟨gg, 0, none⟩) (xs.length + k + 1) cap) (bothL nn xs ys (k + 1)) := by
          rw [HN.out]
          unfold OwnInts
          rw [List.length_append, List.map_append, HL.out]
          exact hown1
        have H1 := Lib.hid hO5
        clear hown1 hgrow hO5
        go_wp2
        go_roundw
        case rel => exact ⟨k + 1, by omega, by go_num, H1.out, hB5⟩
        case measure => simp [intOf]; omega
      · have HO2 : Hid (OwnInts wr V.heap.size u6 (both nn xs ys)) := Lib.hid (by have h := HOI.out; rw [show k = ys.length by omega, bothL_end] at h; exact h)
        have hbl : Hid ((both nn xs ys).length ≤ 128) := by
          show (both nn xs ys).length ≤ 128
          unfold both; rw [List.length_append, List.length_map]; omega
        clear HO HOI HL
        obtain ⟨a1, c1, g1x, rfl, hg1x, hr1⟩ := OwnInts.at HO2.out
        have R1 := Lib.hid hr1
        have R0 := Lib.hid (TR2.out.keeps hB)
        have HBO2 := Lib.hid hB
        clear hr1 HO2 hB
        go_wp2_with fail
        refine (l3Make_any ((nn : Int) + m) _ _ (both nn xs ys) HPO.out (Nat.le_trans hbl.out (by decide)) _ R1.out.ints).mono ?_
        rw [HPM.out]
        rintro e w6 ⟨v, rfl, hO2, hb6⟩
        obtain ⟨a2, c2x, g2, rfl, hc2, hg2, hr2, _⟩ := OwnInts.ata hO2 hb6.size
        obtain ⟨r0, r1, r2, r3, r4⟩ := R0.out.keeps hb6
        have HO2 := Lib.hid (OwnInts.lower hO2 hsz)
        have HB6 : Hid (Below w.heap.size w w6) := HBV2.out.trans ((HBO2.out.trans (hb6.mono hsz)).mono hvs)
        clear hO2 hr2 hb6
        go_wp2
        refine ret_cx2 br rfl rfl rfl (x := .int .i64 ((nn : Int) + m)) (y := .slice a2 (maxQ (disQ nn (inF xs) (inF ys))).length c2x) (by go_simp) (by go_simp) rfl ?_
        exact ⟨_, rfl, (OwnInts.set (OwnInts.set HO2.out _ _ _ (by omega)) _ _ _ (by omega)).lower (by omega), (HB6.out.setCell (by dsimp only; omega) _).setCell (by dsimp only; omega) _⟩

end Go.Proofs.Ythobncbggaggjaa

/-! MEMORY: a matrix of numbers: a slice of slices, each row in a block of its own; a call that writes into some blocks alone. -/

namespace Go.Proofs.Ythobncbggaggjaa
open Go.RowKit

/-- Only the blocks G are written; new ones may come. -/
structure Only (G : List Nat) (w w' : World) : Prop where
  os : w'.os = w.os
  tape : w'.tape = w.tape
  output : w'.output = w.output
  size : w.heap.size ≤ w'.heap.size
  block : ∀ k, k < w.heap.size → k ∉ G → w'.heap[k]? = w.heap[k]?
theorem Only.refl (G : List Nat) (w : World) : Only G w w := ⟨rfl, rfl, rfl, Nat.le_refl _, fun _ _ _ => rfl⟩
theorem Only.trans {G : List Nat} {a b c : World} (h : Only G a b) (k : Only G b c) : Only G a c :=
  ⟨k.os.trans h.os, k.tape.trans h.tape, k.output.trans h.output, Nat.le_trans h.size k.size, fun i hi hn => (k.block i (Nat.lt_of_lt_of_le hi h.size) hn).trans (h.block i hi hn)⟩
theorem Only.set (G : List Nat) (w : World) {b : Nat} (o : Nat) (hb : b ∈ G) (v : Value) : Only G w (w.setCell ⟨b, o, none⟩ v) := by
  refine ⟨rfl, rfl, rfl, by simp [World.setCell], fun k _ hk => ?_⟩
  simp only [World.setCell, Array.getElem?_modify]
  rw [if_neg (fun e => hk (by rw [← e]; exact hb))]
theorem Only.of_below {w w' : World} (G : List Nat) (h : Below w.heap.size w w') : Only G w w' := ⟨h.os, h.tape, h.output, h.size, fun k hk _ => h.block k hk⟩
theorem Only.below {B : Nat} {G : List Nat} {w w' : World} (h : Only G w w') (hG : ∀ g, g ∈ G → B ≤ g) (hB : B ≤ w.heap.size) : Below B w w' :=
  ⟨h.os, h.tape, h.output, h.size, fun k hk => h.block k (by omega) fun hm => by have := hG k hm; omega⟩
theorem Only.drew {G : List Nat} {w w' : World} (h : Only G w w') : Only G w w'.drew := ⟨h.os, h.tape, h.output, h.size, h.block⟩
theorem IntsAt.only {w w' : World} {G : List Nat} {g : Nat} {a : Option Addr} {xs : List Int} (h : IntsAt w g a xs) (k : Only G w w') (hg : g ∉ G) : IntsAt w' g a xs := fun j hj => by
  obtain ⟨h1, h2, h3, h4⟩ := h j hj
  have hb := k.block g h2 hg
  exact ⟨h1, Nat.lt_of_lt_of_le h2 k.size, by rw [World.cell?_of_block (w := w) hb]; exact h3, by rw [World.frozen?_of_block (w := w) hb]; exact h4⟩

abbrev blk (R : List (Nat × Nat)) (i : Nat) : Nat := (R.getD i (0, 0)).1
abbrev room (R : List (Nat × Nat)) (i : Nat) : Nat := (R.getD i (0, 0)).2
abbrev blks (R : List (Nat × Nat)) : List Nat := R.map (·.1)
theorem blk_mem {R : List (Nat × Nat)} {i : Nat} (h : i < R.length) : blk R i ∈ blks R := by
  refine List.mem_map.2 ⟨R[i], List.getElem_mem h, ?_⟩
  simp [blk, List.getD, List.getElem?_eq_getElem h]
theorem blk_inj {R : List (Nat × Nat)} (hn : (blks R).Nodup) {i k : Nat} (hi : i < R.length) (hk : k < R.length) (h : blk R i = blk R k) : i = k := by
  have e : ∀ j, (hj : j < R.length) → blk R j = (blks R)[j]'(by simpa using hj) := fun j hj => by simp [blk, blks, List.getD, List.getElem?_eq_getElem hj]
  rw [e i hi, e k hk] at h
  exact (List.getElem_inj hn).1 h

/-- A matrix: the outer slice in the block go, its rows in the blocks of R. -/
structure Mx (w : World) (go : Nat) (ao : Option Addr) (R : List (Nat × Nat)) (M : Lin.Mat) : Prop where
  len : R.length = M.length
  nodup : (blks R).Nodup
  out : ∀ i, i < M.length → ao = some ⟨go, 0, none⟩ ∧ go < w.heap.size ∧ w.cell? ⟨go, i, none⟩ = some (.slice (some ⟨blk R i, 0, none⟩) (Lin.row M i).length (room R i)) ∧ w.frozen? ⟨go, i, none⟩ = false
  rows : ∀ i, i < M.length → blk R i < w.heap.size ∧ IntsAt w (blk R i) (some ⟨blk R i, 0, none⟩) (Lin.row M i)
  apart : go ∉ blks R

theorem Mx.keeps {w w' : World} {go : Nat} {ao : Option Addr} {R : List (Nat × Nat)} {M : Lin.Mat} (h : Mx w go ao R M) (hb : Below w.heap.size w w') : Mx w' go ao R M := by
  refine ⟨h.len, h.nodup, fun i hi => ?_, fun i hi => ?_, h.apart⟩
  · obtain ⟨h1, h2, h3, h4⟩ := h.out i hi
    exact ⟨h1, Nat.lt_of_lt_of_le h2 hb.size, by rw [hb.cell (p := ⟨go, i, none⟩) h2]; exact h3, by rw [hb.frozen (p := ⟨go, i, none⟩) h2]; exact h4⟩
  · obtain ⟨h1, h2⟩ := h.rows i hi
    exact ⟨Nat.lt_of_lt_of_le h1 hb.size, h2.keeps hb⟩
theorem Mx.drew {w : World} {go : Nat} {ao : Option Addr} {R : List (Nat × Nat)} {M : Lin.Mat} (h : Mx w go ao R M) : Mx w.drew go ao R M := ⟨h.len, h.nodup, h.out, h.rows, h.apart⟩
theorem Mx.cell {w : World} {go : Nat} {ao : Option Addr} {R : List (Nat × Nat)} {M : Lin.Mat} (h : Mx w go ao R M) {i : Nat} (hi : i < M.length) : w.cell? ⟨go, i, none⟩ = some (.slice (some ⟨blk R i, 0, none⟩) (Lin.row M i).length (room R i)) := (h.out i hi).2.2.1
theorem Mx.ent {w : World} {go : Nat} {ao : Option Addr} {R : List (Nat × Nat)} {M : Lin.Mat} (h : Mx w go ao R M) {i j : Nat} (hi : i < M.length) (hj : j < (Lin.row M i).length) : w.cell? ⟨blk R i, j, none⟩ = some (.int .i64 (Lin.ent M i j)) := ((h.rows i hi).2 j hj).2.2.1
theorem Mx.soft {w : World} {go : Nat} {ao : Option Addr} {R : List (Nat × Nat)} {M : Lin.Mat} (h : Mx w go ao R M) {i j : Nat} (hi : i < M.length) (hj : j < (Lin.row M i).length) : w.frozen? ⟨blk R i, j, none⟩ = false := ((h.rows i hi).2 j hj).2.2.2

theorem row_set (M : Lin.Mat) (i k : Nat) (r : List Int) (hi : i < M.length) : Lin.row (M.set i r) k = if k = i then r else Lin.row M k := by
  unfold Lin.row
  simp only [List.getD, List.getElem?_set]
  by_cases e : k = i
  · subst e; simp [hi]
  · rw [if_neg (fun h => e h.symm), if_neg e]

theorem IntsAt.setOwn {w : World} {g : Nat} {a : Option Addr} {xs : List Int} (h : IntsAt w g a xs) (j : Nat) (x : Int) : IntsAt (w.setCell ⟨g, j, none⟩ (.int .i64 x)) g a (xs.set j x) := fun k hk => by
  rw [List.length_set] at hk
  obtain ⟨h1, h2, h3, h4⟩ := h k hk
  refine ⟨h1, by simpa [World.setCell] using h2, ?_, by rw [World.frozen?_setCell]; exact h4⟩
  by_cases e : k = j
  · subst e
    rw [World.cell?_setCell_same _ _ _ h3]
    simp [List.getD, hk]
  · rw [World.cell?_setCell_other _ _ _ _ (by simp), h3]
    simp [List.getD, Ne.symm e]

/-- One number of one row is written. -/
theorem Mx.set {w : World} {go : Nat} {ao : Option Addr} {R : List (Nat × Nat)} {M : Lin.Mat} (h : Mx w go ao R M) {i : Nat} (hi : i < M.length) (j : Nat) (x : Int) : Mx (w.setCell ⟨blk R i, j, none⟩ (.int .i64 x)) go ao R (M.set i ((Lin.row M i).set j x)) := by
  have hiR : i < R.length := by rw [h.len]; exact hi
  have hne : go ≠ blk R i := fun e => h.apart (e ▸ blk_mem hiR)
  have hlen : ∀ k, (Lin.row (M.set i ((Lin.row M i).set j x)) k).length = (Lin.row M k).length := fun k => by
    rw [row_set M i k _ hi]
    by_cases e : k = i
    · rw [if_pos e, List.length_set, e]
    · rw [if_neg e]
  refine ⟨by rw [List.length_set]; exact h.len, h.nodup, fun k hk => ?_, fun k hk => ?_, h.apart⟩
  · rw [List.length_set] at hk
    obtain ⟨h1, h2, h3, h4⟩ := h.out k hk
    refine ⟨h1, by simpa [World.setCell] using h2, ?_, by rw [World.frozen?_setCell]; exact h4⟩
    rw [World.cell?_setCell_other _ _ _ _ (fun e => hne (congrArg Addr.block e).symm), hlen]; exact h3
  · rw [List.length_set] at hk
    obtain ⟨h1, h2⟩ := h.rows k hk
    refine ⟨by simpa [World.setCell] using h1, ?_⟩
    rw [row_set M i k _ hi]
    by_cases e : k = i
    · rw [if_pos e]; subst e; exact h2.setOwn j x
    · rw [if_neg e]
      exact h2.only (G := [blk R i]) (Only.set _ w j (by simp) _) (by
        rw [List.mem_singleton]; intro e'; exact e (blk_inj h.nodup (by rw [h.len]; exact hk) hiR e'))

/-- A row that is written number by number, j of them so far. -/
def mix (new old : List Int) (j : Nat) : List Int := new.take j ++ old.drop j
theorem mix_zero (new old : List Int) : mix new old 0 = old := rfl
theorem mix_length {new old : List Int} (h : new.length = old.length) (j : Nat) : (mix new old j).length = old.length := by unfold mix; simp; omega
theorem mix_end {new old : List Int} (h : new.length = old.length) {j : Nat} (hj : old.length ≤ j) : mix new old j = new := by
  unfold mix; rw [List.take_of_length_le (by omega), List.drop_eq_nil_of_le hj, List.append_nil]
theorem mix_at {new old : List Int} (h : new.length = old.length) {j : Nat} (hj : j < old.length) : (mix new old j).getD j 0 = old.getD j 0 := by
  unfold mix
  simp only [List.getD]
  rw [List.getElem?_append_right (by simp; omega)]
  simp [List.getElem?_drop, show j - min j new.length = 0 by omega]
theorem mix_step {new old : List Int} (h : new.length = old.length) {j : Nat} (hj : j < old.length) : (mix new old j).set j (new.getD j 0) = mix new old (j + 1) := by
  unfold mix
  apply List.ext_getElem?
  intro k
  rw [List.getElem?_set]
  by_cases e : j = k
  · subst e
    rw [if_pos rfl, if_pos (by simp; omega), List.getElem?_append_left (by simp; omega), List.getElem?_take_of_lt (by omega)]
    simp [List.getD, List.getElem?_eq_getElem (h ▸ hj : j < new.length)]
  · rw [if_neg e]
    by_cases e2 : k < j
    · rw [List.getElem?_append_left (by simp; omega), List.getElem?_append_left (by simp; omega), List.getElem?_take_of_lt e2, List.getElem?_take_of_lt (by omega)]
    · rw [List.getElem?_append_right (by simp; omega), List.getElem?_append_right (by simp; omega), List.getElem?_drop, List.getElem?_drop]
      congr 1
      simp; omega

theorem set_set_mix (M : Lin.Mat) (i : Nat) (a b : List Int) : (M.set i a).set i b = M.set i b := by rw [List.set_set]

/-- The next number of a row is written. -/
theorem Mx.step {w : World} {go : Nat} {ao : Option Addr} {R : List (Nat × Nat)} {M : Lin.Mat} {i j : Nat} {new old : List Int} (h : Mx w go ao R (M.set i (mix new old j))) (hi : i < M.length) (hl : new.length = old.length) (hj : j < old.length) {x : Int} (hx : new.getD j 0 = x) :
    Mx (w.setCell ⟨blk R i, j, none⟩ (.int .i64 x)) go ao R (M.set i (mix new old (j + 1))) := by
  have := h.set (i := i) (by rw [List.length_set]; exact hi) j x
  rw [row_set M i i _ hi, if_pos rfl, ← hx, mix_step hl hj, List.set_set, hx] at this
  exact this

end Go.Proofs.Ythobncbggaggjaa
