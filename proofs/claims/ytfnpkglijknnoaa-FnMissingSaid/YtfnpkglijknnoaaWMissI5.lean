/-
  WALKS: impl.FlagOf (written by genflagof.py).
-/
import Derived.Test.YtfnpkglijknnoaaJg26
import Derived.Test.YtfnpkglijknnoaaJg20
import Derived.Test.YtfnpkglijknnoaaJg8
namespace Go.Proofs.Ytfnpkglijknnoaa
open Go.RowKit
open Sets

theorem implFlagO_no {n : Int} {xs : List Int} (h : isC n xs = false) : flagO n xs = none := by unfold flagO; rw [h]; rfl
theorem implFlagO_yes {n : Int} {xs M : List Int} (h : isC n xs = true) (hM : missing n xs = M) : flagO n xs = some (n, maxQ (avoidQ n (keepL (fun x => decide (pc x.toNat ≤ 2)) M M.length))) := by
  unfold flagO; rw [h, hM, keepL_all]; rfl
theorem implAt_ok {xs : List Int} (h : allOk xs = true) (k : Nat) (hk : k < xs.length) : ∃ t : Nat, xs.getD k 0 = (t : Int) ∧ t < 64 := by
  refine ok_nat h ?_
  rw [List.getD, List.getElem?_eq_getElem hk]; exact List.getElem_mem hk
theorem implKeep_hit (M : List Int) (k t : Nat) (hk : k < M.length) (ht : M.getD k 0 = (t : Int)) (h : pc t ≤ 2) : keepL (fun x => decide (pc x.toNat ≤ 2)) M (k + 1) = keepL (fun x => decide (pc x.toNat ≤ 2)) M k ++ [(t : Int)] := by
  rw [keepL_hit _ M k hk (by rw [ht]; simpa using h), ht]
theorem implKeep_miss (M : List Int) (k t : Nat) (hk : k < M.length) (ht : M.getD k 0 = (t : Int)) (h : ¬pc t ≤ 2) : keepL (fun x => decide (pc x.toNat ≤ 2)) M (k + 1) = keepL (fun x => decide (pc x.toNat ≤ 2)) M k :=
  keepL_miss _ M k hk (by rw [ht]; simpa using h)

set_option maxRecDepth 100000 in
set_option maxHeartbeats 4000000 in
theorem implFlagOf_any (n : Int) (a : Option Addr) (c : Nat) (xs : List Int) (hcap : xs.length ≤ c) (hlen : xs.length ≤ 1099511627776) (w : World) (h : Ints w a xs) :
    Calls Try.prog 17 #[cx n (.slice a xs.length c)] w fun e w' => ∃ v, e = .returned (.tuple #[cx (oN (flagO n xs)) v, .bool (flagO n xs).isSome]) ∧ OwnInts w' w.heap.size v (oL (flagO n xs)) ∧ Below w.heap.size w w' := by
  obtain ⟨i0, hi, hz0, hz1, hz2⟩ := info_parts info_int
  have hb0 : Below w.heap.size w ((w.alloc (Obj.cells #[Value.int IntKind.i64 n, Value.slice a xs.length c] 26)).alloc (Obj.cells #[Value.int IntKind.i64 0, Value.slice none 0 0] 26)) := ((Below.refl _ _).alloc (Nat.le_refl _) _).alloc (by simp) _
  have htc := (Two.new w (.int .i64 n) (.slice a xs.length c) 26).alloc (.cells #[.int .i64 0, .slice none 0 0] 26)
  have htr := Two.new (w.alloc (.cells #[.int .i64 n, .slice a xs.length c] 26)) (.int .i64 0) (.slice none 0 0) 26
  rw [World.size_alloc] at htr
  obtain ⟨br, hbr⟩ : ∃ br, w.heap.size + 1 = br := ⟨_, rfl⟩
  rw [hbr] at htr
  have hwb : w.heap.size < br := by omega
  have TC := Lib.hid htc
  have TR := Lib.hid htr
  have HH := Lib.hid (h.keeps hb0)
  have HB0 := Lib.hid hb0
  have HBR := Lib.hid hbr
  clear h htr hb0 htc hbr
  obtain ⟨t0, t1, t2, _, _⟩ := TC.out
  cases hC : isC n xs with
  | false =>
    have HC := Lib.hid hC
    rw [implFlagO_no hC]
    clear hC
    go_enter Try.func17, Try.ntmps17
    go_wp2_with fail
    refine (implIsC_b n _ _ xs hcap false HC.out hlen _ HH.out).mono ?_
    rintro e w1 ⟨rfl, hb1⟩
    try rw [HBR.out]
    obtain ⟨r0, r1, r2, r3, r4⟩ := TR.out.keeps hb1
    have HB1 : Hid (Below w.heap.size w w1) := HB0.out.trans (hb1.mono HB0.out.size)
    clear hb1 t0 t1 t2
    go_wp2
    refine ret_cx2 br rfl rfl rfl (x := .int .i64 0) (y := .slice none 0 0) (by go_simp) (by go_simp) rfl ?_
    exact ⟨_, rfl, OwnInts.nil _ _, by first | exact (HB1.out.setCell (by dsimp only; omega) _).setCell (by dsimp only; omega) _ | exact HB1.out⟩
  | true =>
    have HC := Lib.hid hC
    have HN := Lib.hid ((inB_iff _ _ _).2 (isC_n hC))
    obtain ⟨M, hM⟩ : ∃ M, missing n xs = M := ⟨_, rfl⟩
    have hok := missing_ok n xs
    have hle := missing_le n xs
    have hso := small_setsOf hC
    rw [implFlagO_yes hC hM]
    rw [hM] at hok hle hso
    have HM := Lib.hid hM
    have HOK := Lib.hid hok
    have HSO : Hid (setsOf n (keepL (fun x => decide (pc x.toNat ≤ 2)) M M.length) = true) := by
      have : setsOf n (keepL (fun x => decide (pc x.toNat ≤ 2)) M M.length) = true := by rw [keepL_all]; exact hso
      exact this
    clear hC hM hok hso
    go_enter Try.func17, Try.ntmps17
    go_wp2_with fail
    refine (implIsC_b n _ _ xs hcap true HC.out hlen _ HH.out).mono ?_
    rintro e w1 ⟨rfl, hb1⟩
    try rw [HBR.out]
    have HB1 : Hid (Below w.heap.size w w1) := HB0.out.trans (hb1.mono HB0.out.size)
    have HI1 := Lib.hid (HH.out.keeps hb1)
    have TC1 := Lib.hid (TC.out.keeps hb1)
    have TR1 := Lib.hid (TR.out.keeps hb1)
    clear t0 t1 t2 hb1 HH TC TR HB0
    obtain ⟨t0, t1, t2, _, _⟩ := TC1.out
    go_wp2_with fail
    refine (implMissing_b n _ _ xs M HM.out hcap hlen _ HI1.out).mono ?_
    rintro e w2 ⟨v, rfl, hO, hb2⟩
    obtain ⟨aM, cM, gM, rfl, _, hIM⟩ := OwnInts.at hO
    have HIM := Lib.hid hIM.ints
    have hsz1 := HB1.out.size
    have HB2 : Hid (Below w.heap.size w w2) := HB1.out.trans (hb2.mono hsz1)
    have TC2 := Lib.hid (TC1.out.keeps hb2)
    have TR2 := Lib.hid (TR1.out.keeps hb2)
    clear t0 t1 t2 hO hIM hb2 TC1 TR1 HI1
    go_wp2
    go_loopw [4, 14] (fun v i wr => ∃ k : Nat, k ≤ M.length ∧ i = .int .i64 (k : Int) ∧ OwnInts wr w2.heap.size v (keepL (fun x => decide (pc x.toNat ≤ 2)) M k) ∧ Below w2.heap.size w2 wr) (fun _ i _ => M.length - (intOf i).toNat)
    case atStart => exact ⟨0, by omega, rfl, OwnInts.nil _ _, Below.refl _ _⟩
    case round =>
      obtain ⟨k, hk, rfl, hO, hB⟩ := hrel
      have HB := Lib.hid hB
      have hsz := hB.size
      have hl := keepL_le (fun x => decide (pc x.toNat ≤ 2)) M k
      by_cases hlt : k < M.length
      · unfold OwnInts at hO
        have HO := Lib.hid hO
        obtain ⟨b1, o1, rfl, g1⟩ := (HIM.out.keeps hB) k hlt
        obtain ⟨t, ht, ht6⟩ := implAt_ok HOK.out k hlt
        have HTT := Lib.hid ht
        rw [ht] at g1
        clear hO hB ht
        by_cases hp : pc t ≤ 2
        · have HP := Lib.hid hp
          have hd : decide ((pc t : Int) ≤ 2) = true := by simp; omega
          clear hp
          go_wp2_with fail
          refine (implSizeM_b t _ rfl ht6 _).mono ?_
          rintro e w' ⟨rfl, rfl⟩
          go_wp2_with (at_builtin; refine wpList_append_own _ rfl _ _ 24 rfl w2.heap.size 3 i0 (.int .i64 0) 1 8 Try.underlying24 hi hz0 hz1 hz2 rfl (by decide) _ _ _ rfl (HO.out.alloc _) ⟨wr.heap.size, 0, none⟩ 1 1 [.int .i64 (t : Int)] rfl rfl ?c1 ?c2 ?c3 ?c4 ?c5 ?_)
          case c1 => intro j u hj; exact Mem.cell_new wr _ _ j u hj
          case c2 => first | rfl | (intro u hu; simp at hu; subst hu; rfl)
          case c3 => unfold maxLen; omega
          case c4 => omega
          case c5 => first | omega | (simp; omega)
          intro v' w3 hown1 hgrow _
          have hB3 : Below w2.heap.size w2 w3 := (HB.out.alloc hsz _).grown hgrow (by simp; omega) (fun g hg => (HO.out.lt g hg).1)
          have H1 := Lib.hid hown1
          clear hown1 hgrow
          go_wp2
          go_roundw
          case rel => exact ⟨k + 1, by omega, by go_num, by rw [implKeep_hit M k t hlt HTT.out HP.out]; exact OwnInts.next H1.out, hB3⟩
          case measure => simp [intOf]; omega
        · have HP := Lib.hid hp
          have hd : decide ((pc t : Int) ≤ 2) = false := by simp; omega
          clear hp
          go_wp2_with fail
          refine (implSizeM_b t _ rfl ht6 _).mono ?_
          rintro e w' ⟨rfl, rfl⟩
          go_wp2
          go_roundw
          case rel => exact ⟨k + 1, by omega, by go_num, by rw [implKeep_miss M k t hlt HTT.out HP.out]; exact HO.out, HB.out⟩
          case measure => simp [intOf]; omega
      · have E := Lib.hid (show k = M.length by omega)
        rw [E.out] at hO hl
        obtain ⟨a1, c1, g1, rfl, _, hI1⟩ := OwnInts.at hO
        have HI1 := Lib.hid hI1.ints
        have TR3 := Lib.hid (TR2.out.keeps hB)
        obtain ⟨t0, t1, t2, _, _⟩ := TC2.out.keeps hB
        have hszw := HB2.out.size
        have HB3 : Hid (Below w.heap.size w wr) := HB2.out.trans (hB.mono hszw)
        clear hO hI1 hB
        go_wp2_with fail
        refine (implFrom_any n _ _ (keepL (fun x => decide (pc x.toNat ≤ 2)) M M.length) (by omega) _ HI1.out).mono ?_
        rintro e w6 ⟨v, he, hO2, hb6⟩
        rw [fromO_yes HSO.out] at he hO2
        replace he : e = .returned (.tuple #[cx n v, .bool true]) := he
        subst he
        replace hO2 : OwnInts w6 wr.heap.size v (maxQ (avoidQ n (keepL (fun x => decide (pc x.toNat ≤ 2)) M M.length))) := hO2
        obtain ⟨a2, c2x, g2, rfl, _⟩ := OwnInts.atc hO2
        have hzb := TR3.out.1
        have hszr := HB3.out.size
        obtain ⟨r0, r1, r2, r3, r4⟩ := TR3.out.keeps hb6
        have HO2 := Lib.hid hO2
        have HB6 : Hid (Below w.heap.size w w6) := HB3.out.trans (hb6.mono hszr)
        clear hO2 hb6 t0 t1 t2
        go_wp2
        refine ret_cx2 br rfl rfl rfl (x := .int .i64 n) (y := .slice a2 (maxQ (avoidQ n (keepL (fun x => decide (pc x.toNat ≤ 2)) M M.length))).length c2x) (by go_simp) (by go_simp) rfl ?_
        exact ⟨_, rfl, (OwnInts.set (OwnInts.set HO2.out _ _ _ hzb) _ _ _ hzb).lower hszr, (HB6.out.setCell (by dsimp only; omega) _).setCell (by dsimp only; omega) _⟩

end Go.Proofs.Ytfnpkglijknnoaa
