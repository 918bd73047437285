/-
  WALKS: impl's chapter 9: the iterator over the names that keep a complex.
-/
import Derived.Test.YtbkkdgmiokdbmaaGreatJg21
import Derived.Test.YtbkkdgmiokdbmaaGreatJg22
import Derived.Shelf.RegionOpen
namespace Go.Proofs.YtbkkdgmiokdbmaaGreat
open Go.RowKit Go.Shelf
open Sets Nam

/-- A slice that reads as xs, in a block below n0. -/
def IntsLow (w : World) (n0 : Nat) (a : Option Addr) (xs : List Int) : Prop := ∀ j, j < xs.length → ∃ b o, a = some ⟨b, o, none⟩ ∧ b < n0 ∧ w.cell? ⟨b, o + j, none⟩ = some (.int .i64 (xs.getD j 0))
theorem IntsLow.ints {w : World} {n0 : Nat} {a : Option Addr} {xs : List Int} (h : IntsLow w n0 a xs) : Ints w a xs := fun j hj => by
  obtain ⟨b, o, h1, _, h2⟩ := h j hj
  exact ⟨b, o, h1, h2⟩
theorem Ints.low {w w' : World} {a : Option Addr} {xs : List Int} (h : Ints w a xs) (hb : Below w.heap.size w w') : IntsLow w' w.heap.size a xs := fun j hj => by
  obtain ⟨b, o, e, hc⟩ := h j hj
  have hl := World.block_lt_of_cell? w _ hc
  exact ⟨b, o, e, hl, by rw [hb.cell (p := ⟨b, o + j, none⟩) hl]; exact hc⟩
theorem IntsLow.only {w w' : World} {n0 : Nat} {a : Option Addr} {xs : List Int} {G : List Nat} (h : IntsLow w n0 a xs) (k : Only G w w') (hG : ∀ x, x ∈ G → n0 ≤ x) : IntsLow w' n0 a xs := fun j hj => by
  obtain ⟨b, o, e, hl, hc⟩ := h j hj
  refine ⟨b, o, e, hl, ?_⟩
  rw [World.cell?_of_block (w := w) (w' := w') (a := ⟨b, o + j, none⟩) (k.block b (World.block_lt_of_cell? w _ hc) fun hm => by have := hG b hm; omega)]
  exact hc

set_option maxRecDepth 100000 in
set_option maxHeartbeats 1000000 in
theorem symOf_any (n : Int) (v : Value) (a : Option Addr) (l c : Nat) (hv : v = .slice a l c) (w : World) : Calls Tryz.prog 53 #[cx n v] w fun e w' => e = .returned (.func (.func 77) #[] #[.pointer (some ⟨w.heap.size, 0, none⟩)]) ∧ w' = w.alloc (.cells #[.int .i64 n, v] 26) := by
  subst hv
  go_enter Tryz.func53, Tryz.ntmps53
  go_wp2
  go_ret
  exact ⟨rfl, rfl⟩

theorem new_cell (w : World) (v : Value) (t : TypeId) : (w.alloc (.cells #[v] t)).cell? ⟨w.heap.size, 0, none⟩ = some v := by
  have h := World.alloc_heap_new w (.cells #[v] t)
  simp only [World.cell?, h]; rfl
theorem cell_only {w w' : World} {b : Nat} {v : Value} {G : List Nat} (h : w.cell? ⟨b, 0, none⟩ = some v) (k : Only G w w') (hb : b ∉ G) : w'.cell? ⟨b, 0, none⟩ = some v := by
  rw [World.cell?_of_block (w := w) (w' := w') (a := ⟨b, 0, none⟩) (k.block b (World.block_lt_of_cell? w _ h) hb)]
  exact h
theorem implEqual_b (n m : Int) (pa pb : Option Addr) (ca cb : Nat) (xs ys : List Int) (hlx : xs.length ≤ 1099511627776) (hly : ys.length ≤ 1099511627776) (hcx : xs.length ≤ ca) (hcy : ys.length ≤ cb) (b : Bool) (hb : eqC n m xs ys = b) (w : World) (hx : Ints w pa xs) (hy : Ints w pb ys) :
    Calls Tryz.prog 55 #[cx n (.slice pa xs.length ca), cx m (.slice pb ys.length cb)] w fun e w' => e = .returned (.bool b) ∧ Below w.heap.size w w' := by
  subst hb; exact implEqual_any n m pa pb ca cb xs ys hlx hly hcx hcy w hx hy

/-- the symmetries among the first k lists of names: how many -/
def symN (n : Nat) (xs : List Int) (k : Nat) : Nat := (symTo n xs k).length

theorem symTo_pre (n : Nat) (xs : List Int) (k : Nat) : ∃ rest, symL n xs = symTo n xs k ++ rest := by
  refine ⟨((allNames n).drop k).filter fun ns => renL ns xs == xs, ?_⟩
  unfold symL symTo
  rw [← List.filter_append, List.take_append_drop]

attribute [local go_sem] Oper.semAt_some

set_option maxRecDepth 100000 in
set_option maxHeartbeats 2000000 in
theorem sym_seq (m : Nat) (hm1 : 1 ≤ m) (hm6 : m ≤ 6) (a : Option Addr) (c : Nat) (xs : List Int) (hcap : xs.length ≤ c) (hC : isC (m : Int) xs = true) (bc n0 : Nat) :
    SeqO Tryz.prog 77 #[.pointer (some ⟨bc, 0, none⟩)] ((symL m xs).map Zs) fun l G W => Two W bc (.int .i64 (m : Int)) (.slice a xs.length c) ∧ IntsLow W n0 a xs ∧ n0 ≤ bc ∧ ∀ x, x ∈ l :: G → n0 ≤ x ∧ x ≠ bc := by
  intro l G J W ⟨hT, hL, hnb, hG2⟩ hl hG hBJ hY h0 m'
  show CallsIn Fence.wide m' Tryz.prog 77 #[.func (.yield l) #[] #[], .pointer (some ⟨bc, 0, none⟩)] W _
  have HGW : Hid (∀ x, x ∈ l :: G → x < W.heap.size) := fun x hx => by
    rcases List.mem_cons.1 hx with rfl | hx
    · exact hl
    · exact hG x hx
  obtain ⟨t0, t1, t2, t3, t4⟩ := hT.alloc (.cells #[.func (.yield l) #[] #[]] 54)
  refine callsIn_of_wp_marks Tryz.func77 rfl trivial ?_ rfl
  simp only [Tryz.ntmps77, List.size_toArray, List.length_cons, List.length_nil, Nat.reduceAdd, Nat.reduceSub, Array.replicate_succ, Array.replicate_zero, List.push_toArray, List.append_toArray, List.nil_append, List.cons_append]
  gi_wp2_with fail
  refine inCall ((namesFor_any (m : Int) _).mono ?_)
  rintro e w' ⟨rfl, rfl⟩
  gi_wp2_with fail
  refine wp_seq (names_seq m hm6 (W.heap.size + 1)) ?hg (enters_of Tryz.func74 (by kernel_rfl) rfl) rfl (l :: G) ?hG ?hpre
    (fun k M W' => (∀ x, x ∈ M → W.heap.size + 2 ≤ x) ∧ J (symN m xs k) M W' ∧ W.heap.size + 2 ≤ W'.heap.size ∧ Two W' bc (.int .i64 (m : Int)) (.slice a xs.length c) ∧ IntsLow W' n0 a xs ∧ W'.cell? ⟨W.heap.size, 0, none⟩ = some (.func (.yield l) #[] #[]))
    ?hI ?h0 ?round ?done
  case hg => rfl
  case hG => intro x hx; have := HGW.out x hx; simp; omega
  case hpre =>
    intro o1 o2
    have h := (BoxI.new (W.alloc (.cells #[.func (.yield l) #[] #[]] 54)) (m : Int) 3)
    rw [World.size_alloc] at h
    exact ((h.only (Only.new [] _ o1) (by simp)).only (Only.new [] _ o2) (by simp)).2.1
  case hI =>
    rintro k M M' W1 W2 ⟨h1, h2, h3, h4, h5, h6⟩ ho hM
    have h7 : ∀ x, x ∈ M' → W.heap.size + 2 ≤ x := fun x hx => (hM x hx).elim (h1 x) fun h => by omega
    have hbw : bc < W.heap.size := hT.1
    have hn0 : n0 ≤ bc := hnb
    refine ⟨h7, hBJ _ M M' W1 W2 h2 ho hM, Nat.le_trans h3 ho.size, two_only h4 ho fun hm => by have := h7 _ hm; omega, h5.only ho fun x hx => by have := h7 x hx; omega, cell_only h6 ho fun hm => by have := h7 _ hm; omega⟩
  case h0 =>
    have hb2 : Only [] W ((W.alloc (.cells #[.func (.yield l) #[] #[]] 54)).alloc (.cells #[.int .i64 (m : Int)] 3)) := (Only.new _ _ _).trans (Only.new _ _ _)
    refine ⟨fun x hx => absurd hx List.not_mem_nil, hBJ 0 [] [] W _ h0 hb2 fun x hx => absurd hx List.not_mem_nil, by simp, two_only hT hb2 (by simp), hL.only hb2 fun x hx => absurd hx List.not_mem_nil, ?_⟩
    exact cell_only (new_cell W (.func (.yield l) #[] #[]) _) (Only.new [] _ _) (by simp)
  case round =>
    intro l2 m2 k M v x W' hx
    gi_wp2
    refine ⟨trivial, ?_⟩
    intro W2 ⟨h1, h2, h3, h4, h5, h6⟩ hM hR hs
    obtain ⟨ns, hns, rfl⟩ : ∃ ns, (allNames m)[k]? = some ns ∧ Zs ns = x := by
      rw [List.getElem?_map] at hx
      cases h : (allNames m)[k]? with
      | none => rw [h] at hx; cases hx
      | some ns => rw [h] at hx; exact ⟨ns, rfl, Option.some.inj hx⟩
    have hkl : k < (allNames m).length := (List.getElem?_eq_some_iff.1 hns).1
    have hgd : (allNames m).getD k [] = ns := by rw [List.getD, hns]; rfl
    have hNn : Names m ns := by rw [← hgd]; exact all_at hkl
    have hNm := Nms.of_names hm1 hm6 hNn
    have hzl : (Zs ns).length = m := hNm.len
    obtain ⟨av, cv, gv, rfl, hcv, hgv, hiv⟩ := hR
    rw [hzl]
    have hgv : W.heap.size ≤ gv := by simp at hgv; omega
    have hl64 := isC_le hC
    have hb0 : Below W2.heap.size W2 W2.drew := (Below.refl _ _).drew
    have hCW := complexWith_any (m : Int) a c xs av cv (Zs ns) m hNm (isC_ok hC) hl64 W2.drew (h5.ints.keeps hb0) (hiv.ints.keeps hb0)
    rw [toN_Zs] at hCW
    have hlr : (renL ns xs).length = xs.length := renL_length hNn hC
    have hr64 : (renL ns xs).length ≤ 64 := by omega
    have hmx : Tryz.prog.follows .mixedOrders = true := by kernel_rfl
    obtain ⟨s0, s1, s2, s3, s4⟩ := Two.drew h4
    have HCW := Lib.hid hCW
    have H1 := Lib.hid h1
    have H2 := Lib.hid h2
    have H4 := Lib.hid h4
    have H5 := Lib.hid h5
    have H6 := Lib.hid h6
    have HM := Lib.hid hM
    have HIV := Lib.hid hiv
    have HNN := Lib.hid hNn
    have HY := Lib.hid hY
    have HG2 := Lib.hid hG2
    have HNS := Lib.hid hns
    have HGD := Lib.hid hgd
    have HLR := Lib.hid hlr
    have HBJ := Lib.hid hBJ
    have HBC := Lib.hid hT.1
    have HC := Lib.hid hC
    clear hCW h1 h2 h4 h5 h6 hM hiv hNn hNm hY hG2 hns hgd hx hlr hb0 h0 hT hL hBJ hG hC t0 t1 t2 t3 t4 hl
    have HFIN : Hid (∀ w3 w4, Below W2.heap.size W2 w3 → Only (l :: G) w3 w4 → J (symN m xs (k + 1)) M w4 → Only (l :: G) W2 w4 ∧ (∀ x, x ∈ M → W.heap.size + 2 ≤ x) ∧ J (symN m xs (k + 1)) M w4 ∧ W.heap.size + 2 ≤ w4.heap.size ∧ Two w4 bc (.int .i64 (m : Int)) (.slice a xs.length c) ∧ IntsLow w4 n0 a xs ∧ w4.cell? ⟨W.heap.size, 0, none⟩ = some (.func (.yield l) #[] #[])) := fun w3 w4 hb ho hj => by
      have ho2 : Only (l :: G) W2 w4 := (Only.of_below _ hb).trans ho
      have hz := ho2.size
      exact ⟨ho2, H1.out, hj, by omega, two_only H4.out ho2 fun hm => (HG2.out _ hm).2 rfl, H5.out.only ho2 fun x hx => (HG2.out x hx).1, cell_only H6.out ho2 fun hm => by have := HGW.out _ hm; omega⟩
    have HJ3 : Hid (∀ w3, Below W2.heap.size W2 w3 → J (symN m xs k) M w3) := fun w3 hb => HBJ.out _ M M W2 w3 H2.out (Only.of_below _ hb) fun x hx => .inl hx
    have HR3 : Hid (∀ w3, Below W2.heap.size W2 w3 → Row w3 W.heap.size (.slice av m cv) (Zs ns)) := fun w3 hb =>
      ⟨av, cv, gv, by rw [Zs_len, HNN.out.len], hcv, by omega, HIV.out.keeps hb⟩
    cases he : renL ns xs == xs with
    | false =>
      have HS : Hid (symN m xs (k + 1) = symN m xs k) := congrArg List.length (symTo_miss hkl (by rw [HGD.out]; exact he))
      have HE : Hid (eqC (m : Int) (m : Int) (renL ns xs) xs = false) := by
        have : eqC (m : Int) (m : Int) (renL ns xs) xs = false := by unfold eqC; rw [he]; simp
        exact this
      clear he
      gi_wp2_with fail
      gi_region_with_o (first
        | (refine ⟨trivial, wd, ?_⟩; gi_at_call 37; refine CallsIn.inRound l2 ((callsIn_wide.2 HCW.out).mono ?_); rintro e w2 ⟨v2, rfl, hO2, hb2⟩; obtain ⟨a2, c2, g2, rfl, hcc2, -, hi2⟩ := OwnInts.atc hO2; obtain ⟨r0, r1, r2, r3, r4⟩ := (Two.drew H4.out).keeps hb2; have HI2 := Lib.hid hi2; have HB2 := Lib.hid hb2; clear hO2 hi2 hb2)
        | (refine ⟨trivial, wd, ?_⟩; gi_at_call 55; refine CallsIn.inRound l2 ((callsIn_wide.2 (implEqual_b (m : Int) (m : Int) _ a _ c (renL ns xs) xs (by omega) (by omega) hcc2 hcap false HE.out w2 HI2.out.ints (H5.out.ints.keeps (((Below.refl _ W2).drew).trans HB2.out)))).mono ?_); rintro e w3 ⟨rfl, hb3⟩; have HB3 := Lib.hid hb3; clear hb3)
        | (with_reducible refine And.intro (show ∀ f : FuncId, none = some f → Fence.wide.fn f from fun _ h => nomatch h) ?_))
      all_goals
        gi_wp2
        have hb3 := (((Below.refl _ W2).drew).trans HB2.out).trans (HB3.out.mono HB2.out.size)
        exact HFIN.out _ _ hb3 (Only.refl _ _) (by rw [HS.out]; exact HJ3.out _ hb3)
    | true =>
      have HS : Hid (symN m xs (k + 1) = symN m xs k + 1 ∧ ((symL m xs).map Zs)[symN m xs k]? = some (Zs ns)) := by
        have h1 := symTo_hit hkl (n := m) (xs := xs) (by rw [HGD.out]; exact he)
        rw [HGD.out] at h1
        have : symN m xs (k + 1) = symN m xs k + 1 ∧ ((symL m xs).map Zs)[symN m xs k]? = some (Zs ns) := by
          refine ⟨by unfold symN; rw [h1, List.length_append]; rfl, ?_⟩
          obtain ⟨rest, hr⟩ := symTo_pre m xs (k + 1)
          rw [hr, h1, List.append_assoc, List.map_append, List.getElem?_append_right (by rw [List.length_map]; exact Nat.le_refl _)]
          unfold symN
          rw [List.length_map, Nat.sub_self]
          rfl
        exact this
      have HE : Hid (eqC (m : Int) (m : Int) (renL ns xs) xs = true) := by
        have : eqC (m : Int) (m : Int) (renL ns xs) xs = true := by unfold eqC; rw [he]; simp
        exact this
      have HYW : Hid (∀ mm w3, Below W2.heap.size W2 w3 → YieldAt Fence.wide mm Tryz.prog l #[.slice av m cv] w3 fun e W' => e = .returned (.bool true) ∧ J (symN m xs (k + 1)) M W' ∧ Only (l :: G) w3 W') := fun mm w3 hb => by
        have h := HY.out mm (symN m xs k) M w3 (.slice av m cv) (Zs ns) (HJ3.out w3 hb) HS.out.2 (fun x hx => by have h1 := HM.out x hx; have h2 := hb.size; have h3 := H1.out x hx; omega) (HR3.out w3 hb)
        rw [← HS.out.1] at h
        exact h
      clear he
      gi_wp2_with fail
      gi_region_with_o (first
        | (refine ⟨trivial, wd, ?_⟩; gi_at_call 37; refine CallsIn.inRound l2 ((callsIn_wide.2 HCW.out).mono ?_); rintro e w2 ⟨v2, rfl, hO2, hb2⟩; obtain ⟨a2, c2, g2, rfl, hcc2, -, hi2⟩ := OwnInts.atc hO2; obtain ⟨r0, r1, r2, r3, r4⟩ := (Two.drew H4.out).keeps hb2; have HI2 := Lib.hid hi2; have HB2 := Lib.hid hb2; clear hO2 hi2 hb2)
        | (refine ⟨trivial, wd, ?_⟩; gi_at_call 55; refine CallsIn.inRound l2 ((callsIn_wide.2 (implEqual_b (m : Int) (m : Int) _ a _ c (renL ns xs) xs (by omega) (by omega) hcc2 hcap true HE.out w2 HI2.out.ints (H5.out.ints.keeps (((Below.refl _ W2).drew).trans HB2.out)))).mono ?_); rintro e w3 ⟨rfl, hb3⟩; have HB3 := Lib.hid ((((Below.refl _ W2).drew).trans HB2.out).trans (hb3.mono HB2.out.size)); clear hb3; obtain ⟨fn, tmps, assign, body, hy, hRR⟩ := HYW.out (m2 - 1) w3 HB3.out; have hyc := cell_only H6.out (Only.of_below [] HB3.out) (by simp))
        | (refine ⟨wd, ?_⟩; refine hRR.mono ?_; clear hRR; rintro e w4 ⟨rfl, hJ4, ho4⟩; have HJ4 := Lib.hid hJ4; have HO4 := Lib.hid ho4; clear hJ4 ho4))
      all_goals
        gi_wp2
        exact HFIN.out _ _ HB3.out HO4.out HJ4.out
  case done =>
    intro D M W' hD hM hDM ⟨h1, h2, h3, h4, h5, h6⟩ hd
    have hJD : J (symL m xs).length M (W'.putObj D (.deferred none)) := by
      rw [List.length_map] at h2
      have e : symN m xs (allNames m).length = (symL m xs).length := by unfold symN symTo symL; rw [List.take_length]
      rw [e] at h2
      exact hBJ _ M M W' _ h2 (Only.put hDM W' _) fun x hx => .inl hx
    have HJD := Lib.hid hJD
    have H1 := Lib.hid h1
    clear hY hBJ h0 hL hT hG hG2 hJD h2 h4 h5 h6 h1
    gi_wp2
    refine ⟨by simp, .inl ⟨_, _, rfl, run_takeDeferred hd, ?_⟩⟩
    refine ⟨_, results_none rfl _ _ _, ⟨_, rfl⟩, M, ?_, fun x hx => by have := H1.out x hx; omega⟩
    rw [List.length_map]
    exact HJD.out

end Go.Proofs.YtbkkdgmiokdbmaaGreat
