/-
  TEXTS of one claim, put together: WDualS2, WNamS3, WNamS4, WNamI2.
-/
import Derived.Test.YtbkkdgmiokdbmaaGreatJg17
import Derived.Test.YtbkkdgmiokdbmaaGreatJg11
import Derived.Test.YtbkkdgmiokdbmaaGreatWNamI1
/-! WALKS: spec's chapter 8: CoversOf, DualOf, IsSelfDual. -/

namespace Go.Proofs.YtbkkdgmiokdbmaaGreat
open Go.RowKit
open Sets Hom

theorem dualO_no {n : Int} {xs : List Int} (h : isC n xs = false) : dualO n xs = none := by unfold dualO; rw [h]; rfl
theorem dualO_yes {n : Int} {xs : List Int} (h : isC n xs = true) : dualO n xs = some (n, maxQ (dualQ n.toNat (inF xs))) := by unfold dualO; rw [h]; rfl

theorem partLD_le (ok : Bool) (n : Int) (q : Nat → Bool) : (oL (partO ok n q)).length ≤ 64 := by
  unfold partO
  cases ok
  · exact Nat.zero_le _
  · exact maxQ_le q
theorem eqC_same (n : Int) (xs ys : List Int) : eqC n n xs ys = (xs == ys) := by unfold eqC; simp
theorem comp_map_ok {n : Int} {xs : List Int} (h : isC n xs = true) : allOk ((missing n xs).map (compZ n)) = true := by
  obtain ⟨m, rfl, h1, h2⟩ := isC_cast h
  have h64 := pow64 h2
  unfold allOk
  rw [List.all_eq_true]
  intro x hx
  obtain ⟨y, hy, rfl⟩ := List.mem_map.1 hx
  have hs := missing_set y hy
  obtain ⟨s, rfl, _⟩ := ok_nat (missing_ok _ _) hy
  have := (setB_m m s h2).1 hs
  rw [compZ_nat hs, Int.toNat_natCast]
  exact (okZ_nat _).2 (by omega)
theorem specAtD_ok {xs : List Int} (h : allOk xs = true) (k : Nat) (hk : k < xs.length) : ∃ t : Nat, xs.getD k 0 = (t : Int) ∧ t < 64 := by
  refine ok_nat h ?_
  rw [List.getD, List.getElem?_eq_getElem hk]; exact List.getElem_mem hk

end Go.Proofs.YtbkkdgmiokdbmaaGreat

/-! WALKS: spec's chapter 9: a complex's new names. -/

namespace Go.Proofs.YtbkkdgmiokdbmaaGreat
open Go.RowKit
open Sets Nam

theorem renZ_of {ns : List Nat} {t : Nat} {x : Int} (h : x = (t : Int)) : renZ ns x = ((ren ns t : Nat) : Int) := by
  subst h; unfold renZ; rw [Int.toNat_natCast]
theorem take_renZ (ns : List Nat) (xs : List Int) (k : Nat) (h : k < xs.length) (t : Nat) (ht : xs.getD k 0 = (t : Int)) : (xs.take (k + 1)).map (renZ ns) = (xs.take k).map (renZ ns) ++ [((ren ns t : Nat) : Int)] := by
  rw [← renZ_of (ns := ns) ht, List.take_add_one, List.map_append, List.getD, List.getElem?_eq_getElem h]; rfl

set_option maxRecDepth 100000 in
set_option maxHeartbeats 1000000 in
theorem l9Complex_any (n : Int) (a : Option Addr) (c : Nat) (xs : List Int) (b : Option Addr) (c2 : Nat) (ns : List Int) (m : Nat) (hN : Nms m ns) (hok : allOk xs = true) (hlen : xs.length ≤ 64) (w : World) (h : Ints w a xs) (hb : Ints w b ns) :
    Calls Tryz.prog 39 #[cx n (.slice a xs.length c), .slice b m c2] w fun e w' => ∃ v, e = .returned (cx n v) ∧ OwnInts w' w.heap.size v (renL (toN ns) xs) ∧ Below w.heap.size w w' := by
  obtain ⟨i0, hi, hz0, hz1, hz2⟩ := info_parts info_int
  have hb0 : Below w.heap.size w (w.alloc (.cells #[.int .i64 n, .slice a xs.length c] 26)) := (Below.refl _ _).alloc (Nat.le_refl _) _
  have htb := Two.new w (.int .i64 n) (.slice a xs.length c) 26
  have hs0 : (w.alloc (.cells #[.int .i64 n, .slice a xs.length c] 26)).heap.size = w.heap.size + 1 := by simp
  have hN1 := hN.lo
  have hN6 := hN.hi
  have HN := Lib.hid hN
  have HOK := Lib.hid hok
  have HRO : Hid (allOk (xs.map (renZ (toN ns))) = true) := renL_ok hN.hi hN.names xs
  have HRE : Hid (ord (inZ (xs.map (renZ (toN ns)))) = renL (toN ns) xs) := by
    have : ord (inZ (xs.map (renZ (toN ns)))) = renL (toN ns) xs := by
      unfold renL order; rw [if_pos HRO.out]
    exact this
  have htr := Two.new (w.alloc (.cells #[.int .i64 n, .slice a xs.length c] 26)) (.int .i64 0) (.slice none 0 0) 26
  have hb1 : Below w.heap.size w ((w.alloc (.cells #[.int .i64 n, .slice a xs.length c] 26)).alloc (.cells #[.int .i64 0, .slice none 0 0] 26)) := hb0.alloc (by omega) _
  have htb1 := htb.alloc (.cells #[.int .i64 0, .slice none 0 0] 26)
  have HH := Lib.hid (h.keeps hb1)
  have HNS := Lib.hid (hb.keeps hb1)
  have HB0 := Lib.hid hb1
  have TB := Lib.hid htb1
  rw [hs0] at htr
  have TR := Lib.hid htr
  clear hN hok h hb hb0 htb htr hb1 htb1
  go_enter Tryz.func39, Tryz.ntmps39
  go_wp2
  have hszW : ((w.alloc (.cells #[.int .i64 n, .slice a xs.length c] 26)).alloc (.cells #[.int .i64 0, .slice none 0 0] 26)).heap.size = w.heap.size + 2 := by simp
  have HO0 := Lib.hid (OwnInts.lit ((w.alloc (.cells #[.int .i64 n, .slice a xs.length c] 26)).alloc (.cells #[.int .i64 0, .slice none 0 0] 26)) (w.heap.size + 2) [] (by simp) (by simp))
  clear hs0
  generalize ((w.alloc (.cells #[.int .i64 n, .slice a xs.length c] 26)).alloc (.cells #[.int .i64 0, .slice none 0 0] 26)) = W at *
  have HSZ := Lib.hid hszW
  clear hszW
  go_loopw [5, 6] (fun v i wr => ∃ k : Nat, k ≤ xs.length ∧ i = .int .i64 (k : Int) ∧ OwnInts wr W.heap.size v ((xs.take k).map (renZ (toN ns))) ∧ Below W.heap.size W wr) (fun _ i _ => xs.length - (intOf i).toNat)
  case atStart => exact ⟨0, by omega, rfl, by have h := HO0.out; rw [HSZ.out] at h ⊢; exact h, (Below.refl _ _).alloc (Nat.le_refl _) _⟩
  case round =>
    obtain ⟨k, hk, rfl, hO, hB⟩ := hrel
    obtain ⟨L, hL⟩ : ∃ L, (xs.take k).map (renZ (toN ns)) = L := ⟨_, rfl⟩
    have hl : L.length ≤ 64 := by rw [← hL, List.length_map, List.length_take]; omega
    rw [hL] at hO
    have HL := Lib.hid hL
    have HO := Lib.hid hO
    have HB := Lib.hid hB
    have hsz := hB.size
    clear hL
    have HTB := Lib.hid (TB.out.keeps hB)
    have htb2 := HTB.out
    obtain ⟨t0, t1, t2, t3, t4⟩ := htb2
    clear hO hB
    by_cases hlt : k < xs.length
    · obtain ⟨b1, o1, rfl, g1⟩ := (HH.out.keeps HB.out) k hlt
      obtain ⟨t, ht, ht6⟩ := ok_atS HOK.out k hlt
      have HT : Hid ((xs.take (k + 1)).map (renZ (toN ns)) = L ++ [((ren (toN ns) t : Nat) : Int)]) := by
        have := take_renZ (toN ns) xs k hlt t ht
        rw [HL.out] at this; exact this
      rw [ht] at g1
      clear ht
      go_wp2_with fail
      refine (l9Set_any t _ _ ns m HN.out ht6 _ (HNS.out.keeps HB.out)).mono ?_
      rintro e w2 ⟨rfl, rfl⟩
      have HO1 := HO
      unfold OwnInts at HO1
      go_wp2_with (at_builtin; refine wpList_append_own _ rfl _ _ 24 rfl W.heap.size 3 i0 (.int .i64 0) 1 8 Tryz.underlying24 hi hz0 hz1 hz2 rfl (by decide) _ _ _ rfl (HO1.out.alloc _) ⟨wr.heap.size, 0, none⟩ 1 1 [.int .i64 ((ren (toN ns) t : Nat) : Int)] rfl rfl ?c1 ?c2 ?c3 ?c4 ?c5 ?_)
      case c1 => intro j u hj; exact Mem.cell_new wr _ _ j u hj
      case c2 => intro u hu; simp at hu; subst hu; rfl
      case c3 => unfold maxLen; omega
      case c4 => omega
      case c5 => first | omega | (simp; omega)
      intro v' w3 hown1 hgrow _
      have hB3 : Below W.heap.size W w3 := (HB.out.alloc hsz _).grown hgrow (by simp; omega) (fun g hg => (HO1.out.lt g hg).1)
      have H1 := Lib.hid hown1
      clear hown1 hgrow
      go_wp2
      go_roundw
      case rel => exact ⟨k + 1, by omega, by go_num, by rw [HT.out]; exact OwnInts.next H1.out, hB3⟩
      case measure => simp [intOf]; omega
    · have HE : Hid (ord (inZ L) = renL (toN ns) xs) := by
        have h1 : k = xs.length := by omega
        have h2 := HL.out
        rw [h1, List.take_length] at h2
        have : ord (inZ L) = renL (toN ns) xs := by rw [← h2]; exact HRE.out
        exact this
      have HLO : Hid (allOk L = true) := by
        have h1 : k = xs.length := by omega
        have h2 := HL.out
        rw [h1, List.take_length] at h2
        have : allOk L = true := by rw [← h2]; exact HRO.out
        exact this
      obtain ⟨a1, c1, g1, rfl, hg1, hr1⟩ := HO.out.at
      have R1 := Lib.hid hr1
      have HTR := Lib.hid (TR.out.keeps HB.out)
      clear hr1 HO
      have hC := l2Order_any a1 c1 L (by omega) HLO.out wr.drew R1.out.ints
      rw [HE.out] at hC
      have HC := Lib.hid hC
      clear hC
      go_wp2
      go_region_law (first | (go_simp; go_at_call 70; refine HC.out.mono ?_; rintro e w2 ⟨v, rfl, hO2, hb2⟩; obtain ⟨a2, cc2, g2, rfl, _⟩ := OwnInts.atc hO2; have HO2 := Lib.hid hO2; have HB2 := Lib.hid hb2; have htb := (Two.drew HTB.out).keeps hb2; have htr := (Two.drew HTR.out).keeps hb2; obtain ⟨y0, y1, y2, y3, y4⟩ := htb; obtain ⟨z0, z1, z2, z3, z4⟩ := htr; clear hO2 hb2))
      all_goals
        go_wp2
        refine ret_cx (w.heap.size + 1) rfl rfl (x := .int .i64 n) (y := .slice a2 (renL (toN ns) xs).length cc2) (by go_simp) (by go_simp) rfl ?_
        have hz := HSZ.out
        have hd : wr.drew.heap.size = wr.heap.size := rfl
        have hb5 : Below w.heap.size w w2 := HB0.out.trans ((HB.out.drew.trans (HB2.out.mono (by omega))).mono (by omega))
        exact ⟨_, rfl, (OwnInts.set (OwnInts.set HO2.out _ _ _ (by omega)) _ _ _ (by omega)).lower (by omega), (hb5.setCell (by simp) _).setCell (by simp) _⟩

end Go.Proofs.YtbkkdgmiokdbmaaGreat

/-! WALKS: spec's chapter 9: RenameComplex. -/

namespace Go.Proofs.YtbkkdgmiokdbmaaGreat
open Go.RowKit
open Sets Nam

theorem renCO_no1 {n : Int} {xs ns : List Int} (h : isC n xs = false) : renCO n xs ns = none := by unfold renCO; rw [if_neg (by rw [h]; simp)]
theorem renCO_no2 {n : Int} {xs ns : List Int} (h : nmsB n ns = false) : renCO n xs ns = none := by unfold renCO; rw [if_neg (by rw [h]; simp)]
theorem renCO_yes {n : Int} {xs ns : List Int} (h : isC n xs = true) (h2 : nmsB n ns = true) : renCO n xs ns = some (n, renL (toN ns) xs) := by unfold renCO; rw [if_pos ⟨h, h2⟩]

set_option maxRecDepth 100000 in
set_option maxHeartbeats 1000000 in
theorem specRenameC_any (n : Int) (a : Option Addr) (c : Nat) (xs : List Int) (b : Option Addr) (c2 : Nat) (ns : List Int) (hcap : ns.length ≤ c2) (hlen : xs.length ≤ 1099511627776) (hlen2 : ns.length ≤ 1099511627776) (w : World) (h : Ints w a xs) (hb : Ints w b ns) :
    Calls Tryz.prog 7 #[cx n (.slice a xs.length c), .slice b ns.length c2] w fun e w' => ∃ v, e = .returned (.tuple #[cx (oN (renCO n xs ns)) v, .bool (renCO n xs ns).isSome]) ∧ OwnInts w' w.heap.size v (oL (renCO n xs ns)) ∧ Below w.heap.size w w' := by
  have hb0 : Below w.heap.size w ((w.alloc (Obj.cells #[Value.int IntKind.i64 n, Value.slice a xs.length c] 26)).alloc (Obj.cells #[Value.int IntKind.i64 0, Value.slice none 0 0] 26)) := ((Below.refl _ _).alloc (Nat.le_refl _) _).alloc (by simp) _
  have htc := (Two.new w (.int .i64 n) (.slice a xs.length c) 26).alloc (.cells #[.int .i64 0, .slice none 0 0] 26)
  have htr := Two.new (w.alloc (.cells #[.int .i64 n, .slice a xs.length c] 26)) (.int .i64 0) (.slice none 0 0) 26
  rw [World.size_alloc] at htr
  obtain ⟨br, hbr⟩ : ∃ br, w.heap.size + 1 = br := ⟨_, rfl⟩
  rw [hbr] at htr
  have hwb : w.heap.size < br := by omega
  have TC := Lib.hid htc
  have TR := Lib.hid htr
  have HH := Lib.hid (h.keeps hb0)
  have HNS := Lib.hid (hb.keeps hb0)
  have HB0 := Lib.hid hb0
  have HBR := Lib.hid hbr
  clear h hb htr hb0 htc hbr
  obtain ⟨t0, t1, t2, _, _⟩ := TC.out
  cases hC : isC n xs with
  | false =>
    have HC := Lib.hid hC
    rw [renCO_no1 hC]
    clear hC
    go_enter Tryz.func7, Tryz.ntmps7
    go_wp2_with fail
    refine (specIsC_b n _ _ xs false HC.out hlen _ HH.out).mono ?_
    rintro e w1 ⟨rfl, hb1⟩
    try rw [HBR.out]
    obtain ⟨r0, r1, r2, r3, r4⟩ := TR.out.keeps hb1
    have HB1 : Hid (Below w.heap.size w w1) := HB0.out.trans (hb1.mono HB0.out.size)
    clear hb1 t0 t1 t2
    go_wp2
    refine ret_cx2 br rfl rfl rfl (x := .int .i64 0) (y := .slice none 0 0) (by go_simp) (by go_simp) rfl ?_
    exact ⟨_, rfl, OwnInts.nil _ _, by first | exact (HB1.out.setCell (by dsimp only; omega) _).setCell (by dsimp only; omega) _ | exact HB1.out⟩
  | true =>
    have HC := Lib.hid hC
    have hn := isC_n hC
    have hok := isC_ok hC
    have hl64 : xs.length ≤ 64 := isC_le hC
    have HOK := Lib.hid hok
    cases hM : nmsB n ns with
    | false =>
      have HM := Lib.hid hM
      rw [renCO_no2 hM]
      clear hC hok hM
      go_enter Tryz.func7, Tryz.ntmps7
      go_wp2_with fail
      refine (specIsC_b n _ _ xs true HC.out hlen _ HH.out).mono ?_
      rintro e w1 ⟨rfl, hb1⟩
      try rw [HBR.out]
      have HB1 : Hid (Below w.heap.size w w1) := HB0.out.trans (hb1.mono HB0.out.size)
      have HNS1 := Lib.hid (HNS.out.keeps hb1)
      have TR1 := Lib.hid (TR.out.keeps hb1)
      obtain ⟨s0, s1, s2, _, _⟩ := TC.out.keeps hb1
      clear t0 t1 t2 hb1
      go_wp2_with fail
      refine (l9Names_any n _ _ ns hcap hlen2 (by omega) false HM.out _ HNS1.out).mono ?_
      rintro e w2 ⟨rfl, hb2⟩
      have hsz1 := HB1.out.size
      obtain ⟨r0, r1, r2, r3, r4⟩ := TR1.out.keeps hb2
      have HB2 : Hid (Below w.heap.size w w2) := HB1.out.trans (hb2.mono hsz1)
      clear hb2 s0 s1 s2
      go_wp2
      refine ret_cx2 br rfl rfl rfl (x := .int .i64 0) (y := .slice none 0 0) (by go_simp) (by go_simp) rfl ?_
      exact ⟨_, rfl, OwnInts.nil _ _, by first | exact (HB2.out.setCell (by dsimp only; omega) _).setCell (by dsimp only; omega) _ | exact HB2.out⟩
    | true =>
      have HM := Lib.hid hM
      have HNM := Lib.hid (Nms.of hM)
      have hnl : ns.length = n.toNat := (Nms.of hM).len
      have HNL := Lib.hid hnl
      rw [renCO_yes hC hM]
      clear hC hok hM hnl
      go_enter Tryz.func7, Tryz.ntmps7
      go_wp2_with fail
      refine (specIsC_b n _ _ xs true HC.out hlen _ HH.out).mono ?_
      rintro e w1 ⟨rfl, hb1⟩
      try rw [HBR.out]
      have HB1 : Hid (Below w.heap.size w w1) := HB0.out.trans (hb1.mono HB0.out.size)
      have HI1 := Lib.hid (HH.out.keeps hb1)
      have HNS1 := Lib.hid (HNS.out.keeps hb1)
      have TC1 := Lib.hid (TC.out.keeps hb1)
      have TR1 := Lib.hid (TR.out.keeps hb1)
      clear t0 t1 t2 hb1
      obtain ⟨t0, t1, t2, _, _⟩ := TC1.out
      go_wp2_with fail
      refine (l9Names_any n _ _ ns hcap hlen2 (by omega) true HM.out _ HNS1.out).mono ?_
      rintro e w2 ⟨rfl, hb2⟩
      have hsz1 := HB1.out.size
      have HI2 := Lib.hid (HI1.out.keeps hb2)
      have HNS2 := Lib.hid (HNS1.out.keeps hb2)
      have TR2 := Lib.hid (TR1.out.keeps hb2)
      have HB2 : Hid (Below w.heap.size w w2) := HB1.out.trans (hb2.mono hsz1)
      obtain ⟨s0, s1, s2, _, _⟩ := TC1.out.keeps hb2
      clear t0 t1 t2 hb2
      have HCALL := Lib.hid (l9Complex_any n a c xs b c2 ns n.toNat HNM.out HOK.out hl64 w2 HI2.out HNS2.out)
      have HCALL2 := HCALL
      rw [← HNL.out] at HCALL2
      go_wp2_with fail
      refine HCALL2.out.mono ?_
      rintro e w6 ⟨v, rfl, hO2, hb6⟩
      obtain ⟨a2, c2x, g2, rfl, _⟩ := OwnInts.atc hO2
      have hzb := TR2.out.1
      have hszr := HB2.out.size
      obtain ⟨r0, r1, r2, r3, r4⟩ := TR2.out.keeps hb6
      have HO2 := Lib.hid hO2
      have HB6 : Hid (Below w.heap.size w w6) := HB2.out.trans (hb6.mono hszr)
      clear hO2 hb6 s0 s1 s2
      go_wp2
      refine ret_cx2 br rfl rfl rfl (x := .int .i64 n) (y := .slice a2 (renL (toN ns) xs).length c2x) (by go_simp) (by go_simp) rfl ?_
      exact ⟨_, rfl, (OwnInts.set (OwnInts.set HO2.out _ _ _ hzb) _ _ _ hzb).lower hszr, (HB6.out.setCell (by dsimp only; omega) _).setCell (by dsimp only; omega) _⟩

end Go.Proofs.YtbkkdgmiokdbmaaGreat

/-! WALKS: impl's chapter 9: a complex's new names; RenameComplex. -/

namespace Go.Proofs.YtbkkdgmiokdbmaaGreat
open Go.RowKit
open Sets Nam

set_option maxRecDepth 100000 in
set_option maxHeartbeats 1000000 in
theorem complexWith_any (n : Int) (a : Option Addr) (c : Nat) (xs : List Int) (b : Option Addr) (c2 : Nat) (ns : List Int) (m : Nat) (hN : Nms m ns) (hok : allOk xs = true) (hlen : xs.length ≤ 64) (w : World) (h : Ints w a xs) (hb : Ints w b ns) :
    Calls Tryz.prog 37 #[.slice b m c2, cx n (.slice a xs.length c)] w fun e w' => ∃ v, e = .returned (cx n v) ∧ OwnInts w' w.heap.size v (renL (toN ns) xs) ∧ Below w.heap.size w w' := by
  obtain ⟨i0, hi, hz0, hz1, hz2⟩ := info_parts info_int
  have hb0 : Below w.heap.size w (w.alloc (.cells #[.int .i64 n, .slice a xs.length c] 26)) := (Below.refl _ _).alloc (Nat.le_refl _) _
  have htb := Two.new w (.int .i64 n) (.slice a xs.length c) 26
  have hs0 : (w.alloc (.cells #[.int .i64 n, .slice a xs.length c] 26)).heap.size = w.heap.size + 1 := by simp
  have hN1 := hN.lo
  have hN6 := hN.hi
  have HN := Lib.hid hN
  have HOK := Lib.hid hok
  have HRO : Hid (allOk (xs.map (renZ (toN ns))) = true) := renL_ok hN.hi hN.names xs
  have HRE : Hid (ord (inZ (xs.map (renZ (toN ns)))) = renL (toN ns) xs) := by
    have : ord (inZ (xs.map (renZ (toN ns)))) = renL (toN ns) xs := by
      unfold renL order; rw [if_pos HRO.out]
    exact this
  have htr := Two.new (w.alloc (.cells #[.int .i64 n, .slice a xs.length c] 26)) (.int .i64 0) (.slice none 0 0) 26
  have hb1 : Below w.heap.size w ((w.alloc (.cells #[.int .i64 n, .slice a xs.length c] 26)).alloc (.cells #[.int .i64 0, .slice none 0 0] 26)) := hb0.alloc (by omega) _
  have htb1 := htb.alloc (.cells #[.int .i64 0, .slice none 0 0] 26)
  have HH := Lib.hid (h.keeps hb1)
  have HNS := Lib.hid (hb.keeps hb1)
  have HB0 := Lib.hid hb1
  have TB := Lib.hid htb1
  rw [hs0] at htr
  have TR := Lib.hid htr
  clear hN hok h hb hb0 htb htr hb1 htb1
  go_enter Tryz.func37, Tryz.ntmps37
  go_wp2
  have hszW : ((w.alloc (.cells #[.int .i64 n, .slice a xs.length c] 26)).alloc (.cells #[.int .i64 0, .slice none 0 0] 26)).heap.size = w.heap.size + 2 := by simp
  clear hs0
  generalize ((w.alloc (.cells #[.int .i64 n, .slice a xs.length c] 26)).alloc (.cells #[.int .i64 0, .slice none 0 0] 26)) = W at *
  have HSZ := Lib.hid hszW
  clear hszW
  go_loopw [5, 11] (fun v i wr => ∃ k : Nat, k ≤ xs.length ∧ i = .int .i64 (k : Int) ∧ OwnInts wr W.heap.size v ((xs.take k).map (renZ (toN ns))) ∧ Below W.heap.size W wr) (fun _ i _ => xs.length - (intOf i).toNat)
  case atStart => exact ⟨0, by omega, rfl, OwnInts.nil _ _, Below.refl _ _⟩
  case round =>
    obtain ⟨k, hk, rfl, hO, hB⟩ := hrel
    obtain ⟨L, hL⟩ : ∃ L, (xs.take k).map (renZ (toN ns)) = L := ⟨_, rfl⟩
    have hl : L.length ≤ 64 := by rw [← hL, List.length_map, List.length_take]; omega
    rw [hL] at hO
    have HL := Lib.hid hL
    have HO := Lib.hid hO
    have HB := Lib.hid hB
    have hsz := hB.size
    clear hL
    have HTB := Lib.hid (TB.out.keeps hB)
    have htb2 := HTB.out
    obtain ⟨t0, t1, t2, t3, t4⟩ := htb2
    clear hO hB
    by_cases hlt : k < xs.length
    · obtain ⟨b1, o1, rfl, g1⟩ := (HH.out.keeps HB.out) k hlt
      obtain ⟨t, ht, ht6⟩ := ok_atS HOK.out k hlt
      have HT : Hid ((xs.take (k + 1)).map (renZ (toN ns)) = L ++ [((ren (toN ns) t : Nat) : Int)]) := by
        have := take_renZ (toN ns) xs k hlt t ht
        rw [HL.out] at this; exact this
      rw [ht] at g1
      clear ht
      go_wp2_with fail
      refine (setWith_any t _ _ ns m HN.out ht6 _ (HNS.out.keeps HB.out)).mono ?_
      rintro e w2 ⟨rfl, rfl⟩
      have HO1 := HO
      unfold OwnInts at HO1
      go_wp2_with (at_builtin; refine wpList_append_own _ rfl _ _ 24 rfl W.heap.size 3 i0 (.int .i64 0) 1 8 Tryz.underlying24 hi hz0 hz1 hz2 rfl (by decide) _ _ _ rfl (HO1.out.alloc _) ⟨wr.heap.size, 0, none⟩ 1 1 [.int .i64 ((ren (toN ns) t : Nat) : Int)] rfl rfl ?c1 ?c2 ?c3 ?c4 ?c5 ?_)
      case c1 => intro j u hj; exact Mem.cell_new wr _ _ j u hj
      case c2 => intro u hu; simp at hu; subst hu; rfl
      case c3 => unfold maxLen; omega
      case c4 => omega
      case c5 => first | omega | (simp; omega)
      intro v' w3 hown1 hgrow _
      have hB3 : Below W.heap.size W w3 := (HB.out.alloc hsz _).grown hgrow (by simp; omega) (fun g hg => (HO1.out.lt g hg).1)
      have H1 := Lib.hid hown1
      clear hown1 hgrow
      go_wp2
      go_roundw
      case rel => exact ⟨k + 1, by omega, by go_num, by rw [HT.out]; exact OwnInts.next H1.out, hB3⟩
      case measure => simp [intOf]; omega
    · have HE : Hid (ord (inZ L) = renL (toN ns) xs) := by
        have h1 : k = xs.length := by omega
        have h2 := HL.out
        rw [h1, List.take_length] at h2
        have : ord (inZ L) = renL (toN ns) xs := by rw [← h2]; exact HRE.out
        exact this
      have HLO : Hid (allOk L = true) := by
        have h1 : k = xs.length := by omega
        have h2 := HL.out
        rw [h1, List.take_length] at h2
        have : allOk L = true := by rw [← h2]; exact HRO.out
        exact this
      have HE2 : Hid (order L = renL (toN ns) xs) := by
        have : order L = renL (toN ns) xs := by unfold order; rw [if_pos HLO.out]; exact HE.out
        exact this
      obtain ⟨a1, c1, g1, rfl, hg1, hr1⟩ := HO.out.at
      have R1 := Lib.hid hr1
      have HTR := Lib.hid (TR.out.keeps HB.out)
      clear hr1 HO
      have hC := implOrder_any a1 c1 L (by omega) wr.drew R1.out.ints
      rw [HE2.out] at hC
      have HC := Lib.hid hC
      clear hC
      go_wp2
      go_region_law (first | (go_simp; go_at_call 68; refine HC.out.mono ?_; rintro e w2 ⟨v, rfl, hO2, hb2⟩; obtain ⟨a2, cc2, g2, rfl, _⟩ := OwnInts.atc hO2; have HO2 := Lib.hid hO2; have HB2 := Lib.hid hb2; have htb := (Two.drew HTB.out).keeps hb2; have htr := (Two.drew HTR.out).keeps hb2; obtain ⟨y0, y1, y2, y3, y4⟩ := htb; obtain ⟨z0, z1, z2, z3, z4⟩ := htr; clear hO2 hb2))
      all_goals
        go_wp2
        refine ret_cx (w.heap.size + 1) rfl rfl (x := .int .i64 n) (y := .slice a2 (renL (toN ns) xs).length cc2) (by go_simp) (by go_simp) rfl ?_
        have hz := HSZ.out
        have hd : wr.drew.heap.size = wr.heap.size := rfl
        have hb5 : Below w.heap.size w w2 := HB0.out.trans ((HB.out.drew.trans (HB2.out.mono (by omega))).mono (by omega))
        exact ⟨_, rfl, (OwnInts.set (OwnInts.set HO2.out _ _ _ (by omega)) _ _ _ (by omega)).lower (by omega), (hb5.setCell (by simp) _).setCell (by simp) _⟩

theorem nms_not {n : Int} {xs : List Int} (h : nmsB xs.length xs = false) : nmsB n xs = false := by
  rw [Bool.eq_false_iff]; intro e
  have e1 := (nms_names e).2.2.1
  rw [← e1, h] at e; cases e
theorem nms_len_no {n : Int} {xs : List Int} (h : (xs.length : Int) ≠ n) : nmsB n xs = false := by
  rw [Bool.eq_false_iff]; intro e
  exact h (nms_names e).2.2.1

set_option maxRecDepth 100000 in
set_option maxHeartbeats 1000000 in
theorem implRenameC_any (n : Int) (a : Option Addr) (c : Nat) (xs : List Int) (b : Option Addr) (c2 : Nat) (ns : List Int) (hcapx : xs.length ≤ c) (hlen : xs.length ≤ 1099511627776) (hlen2 : ns.length ≤ 1099511627776) (w : World) (h : Ints w a xs) (hb : Ints w b ns) :
    Calls Tryz.prog 6 #[cx n (.slice a xs.length c), .slice b ns.length c2] w fun e w' => ∃ v, e = .returned (.tuple #[cx (oN (renCO n xs ns)) v, .bool (renCO n xs ns).isSome]) ∧ OwnInts w' w.heap.size v (oL (renCO n xs ns)) ∧ Below w.heap.size w w' := by
  have hb0 : Below w.heap.size w ((w.alloc (Obj.cells #[Value.int IntKind.i64 n, Value.slice a xs.length c] 26)).alloc (Obj.cells #[Value.int IntKind.i64 0, Value.slice none 0 0] 26)) := ((Below.refl _ _).alloc (Nat.le_refl _) _).alloc (by simp) _
  have htc := (Two.new w (.int .i64 n) (.slice a xs.length c) 26).alloc (.cells #[.int .i64 0, .slice none 0 0] 26)
  have htr := Two.new (w.alloc (.cells #[.int .i64 n, .slice a xs.length c] 26)) (.int .i64 0) (.slice none 0 0) 26
  rw [World.size_alloc] at htr
  obtain ⟨br, hbr⟩ : ∃ br, w.heap.size + 1 = br := ⟨_, rfl⟩
  rw [hbr] at htr
  have hwb : w.heap.size < br := by omega
  have TC := Lib.hid htc
  have TR := Lib.hid htr
  have HH := Lib.hid (h.keeps hb0)
  have HNS := Lib.hid (hb.keeps hb0)
  have HB0 := Lib.hid hb0
  have HBR := Lib.hid hbr
  clear h hb htr hb0 htc hbr
  obtain ⟨t0, t1, t2, _, _⟩ := TC.out
  cases hC : isC n xs with
  | false =>
    have HC := Lib.hid hC
    rw [renCO_no1 hC]
    clear hC
    go_enter Tryz.func6, Tryz.ntmps6
    go_wp2_with fail
    refine (implIsC_b n _ _ xs hcapx false HC.out hlen _ HH.out).mono ?_
    rintro e w1 ⟨rfl, hb1⟩
    try rw [HBR.out]
    obtain ⟨r0, r1, r2, r3, r4⟩ := TR.out.keeps hb1
    have HB1 : Hid (Below w.heap.size w w1) := HB0.out.trans (hb1.mono HB0.out.size)
    clear hb1 t0 t1 t2
    go_wp2
    refine ret_cx2 br rfl rfl rfl (x := .int .i64 0) (y := .slice none 0 0) (by go_simp) (by go_simp) rfl ?_
    exact ⟨_, rfl, OwnInts.nil _ _, by first | exact (HB1.out.setCell (by dsimp only; omega) _).setCell (by dsimp only; omega) _ | exact HB1.out⟩
  | true =>
    have HC := Lib.hid hC
    have hn := isC_n hC
    have hok := isC_ok hC
    have hl64 : xs.length ≤ 64 := isC_le hC
    have HOK := Lib.hid hok
    cases hA : nmsB ns.length ns with
    | false =>
      have HA := Lib.hid hA
      rw [renCO_no2 (nms_not hA)]
      clear hC hok hA
      go_enter Tryz.func6, Tryz.ntmps6
      go_wp2_with fail
      refine (implIsC_b n _ _ xs hcapx true HC.out hlen _ HH.out).mono ?_
      rintro e w1 ⟨rfl, hb1⟩
      try rw [HBR.out]
      have HB1 : Hid (Below w.heap.size w w1) := HB0.out.trans (hb1.mono HB0.out.size)
      have HNS1 := Lib.hid (HNS.out.keeps hb1)
      obtain ⟨r0, r1, r2, r3, r4⟩ := TR.out.keeps hb1
      obtain ⟨s0, s1, s2, _, _⟩ := TC.out.keeps hb1
      clear t0 t1 t2 hb1
      go_wp2_with fail
      refine (areNames_b _ _ ns hlen2 false HA.out _ HNS1.out).mono ?_
      rintro e w2 ⟨rfl, rfl⟩
      go_wp2
      refine ret_cx2 br rfl rfl rfl (x := .int .i64 0) (y := .slice none 0 0) (by go_simp) (by go_simp) rfl ?_
      exact ⟨_, rfl, OwnInts.nil _ _, by first | exact (HB1.out.setCell (by dsimp only; omega) _).setCell (by dsimp only; omega) _ | exact HB1.out⟩
    | true =>
     have HA := Lib.hid hA
     cases hL : ((ns.length : Int) == n) with
     | false =>
      have hLd : ¬ ((ns.length : Int) = n) := by intro e; rw [e] at hL; simp at hL
      rw [renCO_no2 (nms_len_no hLd)]
      clear hC hok hA hLd
      go_enter Tryz.func6, Tryz.ntmps6
      go_wp2_with fail
      refine (implIsC_b n _ _ xs hcapx true HC.out hlen _ HH.out).mono ?_
      rintro e w1 ⟨rfl, hb1⟩
      try rw [HBR.out]
      have HB1 : Hid (Below w.heap.size w w1) := HB0.out.trans (hb1.mono HB0.out.size)
      have HNS1 := Lib.hid (HNS.out.keeps hb1)
      obtain ⟨r0, r1, r2, r3, r4⟩ := TR.out.keeps hb1
      obtain ⟨s0, s1, s2, _, _⟩ := TC.out.keeps hb1
      clear t0 t1 t2 hb1
      go_wp2_with fail
      refine (areNames_b _ _ ns hlen2 true HA.out _ HNS1.out).mono ?_
      rintro e w2 ⟨rfl, rfl⟩
      go_wp2
      refine ret_cx2 br rfl rfl rfl (x := .int .i64 0) (y := .slice none 0 0) (by go_simp) (by go_simp) rfl ?_
      exact ⟨_, rfl, OwnInts.nil _ _, by first | exact (HB1.out.setCell (by dsimp only; omega) _).setCell (by dsimp only; omega) _ | exact HB1.out⟩
     | true =>
      have hM : nmsB n ns = true := by rw [beq_iff_eq] at hL; rw [← hL]; exact hA
      have HLB := Lib.hid hL
      have HM := Lib.hid hM
      have HNM := Lib.hid (Nms.of hM)
      have hnl : ns.length = n.toNat := (Nms.of hM).len
      have HNL := Lib.hid hnl
      rw [renCO_yes hC hM]
      clear hC hok hM hnl hA
      go_enter Tryz.func6, Tryz.ntmps6
      go_wp2_with fail
      refine (implIsC_b n _ _ xs hcapx true HC.out hlen _ HH.out).mono ?_
      rintro e w1 ⟨rfl, hb1⟩
      try rw [HBR.out]
      have HB1 : Hid (Below w.heap.size w w1) := HB0.out.trans (hb1.mono HB0.out.size)
      have HI1 := Lib.hid (HH.out.keeps hb1)
      have HNS1 := Lib.hid (HNS.out.keeps hb1)
      have TC1 := Lib.hid (TC.out.keeps hb1)
      have TR1 := Lib.hid (TR.out.keeps hb1)
      clear t0 t1 t2 hb1
      obtain ⟨s0, s1, s2, _, _⟩ := TC1.out
      go_wp2_with fail
      refine (areNames_b _ _ ns hlen2 true HA.out _ HNS1.out).mono ?_
      rintro e w2 ⟨rfl, rfl⟩
      have HCALL := Lib.hid (complexWith_any n a c xs b c2 ns n.toNat HNM.out HOK.out hl64 w1 HI1.out HNS1.out)
      have HCALL2 := HCALL
      rw [← HNL.out] at HCALL2
      go_wp2_with fail
      refine HCALL2.out.mono ?_
      rintro e w6 ⟨v, rfl, hO2, hb6⟩
      obtain ⟨a2, c2x, g2, rfl, _⟩ := OwnInts.atc hO2
      have hzb := TR1.out.1
      have hszr := HB1.out.size
      obtain ⟨r0, r1, r2, r3, r4⟩ := TR1.out.keeps hb6
      have HO2 := Lib.hid hO2
      have HB6 : Hid (Below w.heap.size w w6) := HB1.out.trans (hb6.mono hszr)
      clear hO2 hb6 s0 s1 s2
      go_wp2
      refine ret_cx2 br rfl rfl rfl (x := .int .i64 n) (y := .slice a2 (renL (toN ns) xs).length c2x) (by go_simp) (by go_simp) rfl ?_
      exact ⟨_, rfl, (OwnInts.set (OwnInts.set HO2.out _ _ _ hzb) _ _ _ hzb).lower hszr, (HB6.out.setCell (by dsimp only; omega) _).setCell (by dsimp only; omega) _⟩

end Go.Proofs.YtbkkdgmiokdbmaaGreat
