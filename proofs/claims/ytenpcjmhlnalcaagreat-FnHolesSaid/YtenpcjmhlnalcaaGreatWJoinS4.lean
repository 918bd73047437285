/-
  WALKS of chapter 6 (spec): cones and suspensions, the points of all facets.
-/
import Derived.Test.YtenpcjmhlnalcaaGreatWJoinS3
import Derived.Test.YtenpcjmhlnalcaaGreatJg3
namespace Go.Proofs.YtenpcjmhlnalcaaGreat
open Go.RowKit
open Sets Join Lin Hom

theorem and_natJ : ∀ a b : Nat, a < 64 → b < 64 → bits BinOp.and IntKind.i64 (a : Int) (b : Int) = ((a &&& b : Nat) : Int) := by
  refine fin64b ?_
  decide +kernel
theorem joinO_le (n m : Int) (xs ys : List Int) : (oL (joinO n m xs ys)).length ≤ 64 := by
  unfold joinO
  cases h : joinOk n m xs ys
  · rw [partJ_no rfl]; exact Nat.zero_le _
  · rw [partJ_yes rfl]; exact maxQ_le _

set_option maxRecDepth 100000 in
set_option maxHeartbeats 4000000 in
theorem specCone_any (n : Int) (pa : Option Addr) (ca : Nat) (xs : List Int) (hlx : xs.length ≤ 1099511627776) (w : World) (hx : Ints w pa xs) :
    Calls Tryz.prog 31 #[cx n (.slice pa xs.length ca)] w fun e w' => ∃ v, e = .returned (.tuple #[cx (oN (joinO n 1 xs [1])) v, .bool (joinO n 1 xs [1]).isSome]) ∧ OwnInts w' w.heap.size v (oL (joinO n 1 xs [1])) ∧ Below w.heap.size w w' := by
  have hb0 : Below w.heap.size w (((w.alloc (.cells #[.int .i64 n, .slice pa xs.length ca] 26)).alloc (.cells #[.int .i64 0, .slice none 0 0] 26)).alloc (.cells #[.int .i64 1] 3)) := (((Below.refl _ _).alloc (Nat.le_refl _) _).alloc (by simp) _).alloc (by simp; omega) _
  have hta := ((Two.new w (.int .i64 n) (.slice pa xs.length ca) 26).alloc (.cells #[.int .i64 0, .slice none 0 0] 26))
  have htr := (Two.new (w.alloc (.cells #[.int .i64 n, .slice pa xs.length ca] 26)) (.int .i64 0) (.slice none 0 0) 26).alloc (.cells #[.int .i64 1] 3)
  have hys := (OwnInts.lit ((w.alloc (.cells #[.int .i64 n, .slice pa xs.length ca] 26)).alloc (.cells #[.int .i64 0, .slice none 0 0] 26)) 0 [1] (Nat.zero_le _) (by simp)).known.2.2.1
  simp only [World.size_alloc] at htr hys
  have TA := Lib.hid hta
  have TR := Lib.hid htr
  have HX := Lib.hid (hx.keeps hb0)
  have HY := Lib.hid hys.ints
  have HBV := Lib.hid hb0
  obtain ⟨ys, hyv⟩ : ∃ ys : List Int, ys = [1] := ⟨_, rfl⟩
  obtain ⟨k0, k1, k2, k3, k4⟩ := TA.out
  clear hx htr hys hb0 hta
  have HC := Lib.hid (fun (pb : Option Addr) (cb : Nat) (W : World) (h1 : Ints W pa xs) (h2 : Ints W pb [1]) => specJoin_any n 1 pa pb ca cb xs [1] hlx (by simp) W h1 h2)
  have hjl := joinO_le n 1 xs [1]
  obtain ⟨J, hJ⟩ : ∃ J, joinO n 1 xs [1] = J := ⟨_, rfl⟩
  rw [hJ] at HC hjl
  rw [hJ]
  clear hJ hyv
  go_enter Tryz.func31, Tryz.ntmps31
  go_wp2_with fail
  refine (HC.out _ _ _ HX.out HY.out).mono ?_
  rintro e w1 ⟨v, rfl, hO1, hb1⟩
  obtain ⟨a1, c1, g1, rfl, hc1, hg1, hr1, _⟩ := OwnInts.ata hO1 hb1.size
  have HB1 : Hid (Below w.heap.size w w1) := HBV.out.trans (hb1.mono HBV.out.size)
  have TR1 := Lib.hid (TR.out.keeps hb1)
  simp only [World.size_alloc] at hO1
  have HO1 := Lib.hid hO1
  have hz1 := hb1.size
  simp only [World.size_alloc] at hz1
  clear hO1 hr1 hb1 hg1 hc1 k0 k1 k2 k3 k4
  obtain ⟨r0, r1, r2, r3, r4⟩ := TR1.out
  go_wp2
  refine ret_cx2 (w.heap.size + 1) rfl rfl rfl (x := .int .i64 (oN J)) (y := .slice a1 (oL J).length c1) (by go_simp) (by go_simp) rfl ?_
  exact ⟨_, rfl, (OwnInts.alloc (OwnInts.set (OwnInts.set HO1.out _ _ _ (by omega)) _ _ _ (by omega)) _).lower (by omega), ((HB1.out.setCell (by dsimp only; omega) _).setCell (by dsimp only; omega) _).alloc (by simp [World.setCell]; omega) _⟩

set_option maxRecDepth 100000 in
set_option maxHeartbeats 4000000 in
theorem specPts_any (n : Int) (a : Option Addr) (c : Nat) (xs : List Int) (hlen : xs.length ≤ 1099511627776) (w : World) (h : Ints w a xs) :
    Calls Tryz.prog 20 #[cx n (.slice a xs.length c)] w fun e w' => e = .returned (.int .i64 (conePts n xs : Nat)) ∧ Below w.heap.size w w' := by
  have hb0 : Below w.heap.size w (w.alloc (Obj.cells #[Value.int IntKind.i64 n, Value.slice a xs.length c] 26)) := (Below.refl _ _).alloc (Nat.le_refl _) _
  have htwo := Two.new w (.int .i64 n) (.slice a xs.length c) 26
  have H := Lib.hid (h.keeps hb0)
  have HB0 := Lib.hid hb0
  have HT := Lib.hid htwo
  clear h hb0 htwo
  obtain ⟨t0, t1, t2, _, _⟩ := HT.out
  cases hC : isC n xs with
  | false =>
    have HC := Lib.hid hC
    have HE : Hid (conePts n xs = 0) := by show conePts n xs = 0; unfold conePts; rw [if_neg (by rw [hC]; simp)]
    clear hC
    go_enter Tryz.func20, Tryz.ntmps20
    go_wp2_with fail
    refine (specIsC_b n _ _ xs false HC.out hlen _ H.out).mono ?_
    rintro e w1 ⟨rfl, hb1⟩
    have HB1 : Hid (Below w.heap.size w w1) := HB0.out.trans (hb1.mono HB0.out.size)
    clear hb1
    go_wp2
    go_ret
    exact ⟨ret_int (by rw [HE.out]; rfl), HB1.out⟩
  | true =>
    have HC := Lib.hid hC
    have HN := Lib.hid (isC_nat hC)
    have hn := isC_n hC
    have hxl := isC_le hC
    clear hC
    go_enter Tryz.func20, Tryz.ntmps20
    go_wp2_with fail
    refine (specIsC_b n _ _ xs true HC.out hlen _ H.out).mono ?_
    rintro e w1 ⟨rfl, hb1⟩
    have HB1 : Hid (Below w.heap.size w w1) := HB0.out.trans (hb1.mono HB0.out.size)
    have HT1 := Lib.hid (HT.out.keeps hb1)
    have H1 := Lib.hid (H.out.keeps hb1)
    clear hb1 t0 t1 t2
    obtain ⟨t0, t1, t2, _, _⟩ := HT1.out
    by_cases h0 : 0 < xs.length
    · have HNE : Hid (xs ≠ []) := List.ne_nil_of_length_pos h0
      have h0d : ((xs.length : Int) == 0) = false := beq_eq_false_iff_ne.2 (by omega)
      have h0e : ¬((xs.length : Int) = 0) := by omega
      have hat : ∀ k, k < xs.length → ∃ f : Nat, xs.getD k 0 = (f : Int) ∧ f < 2 ^ n.toNat := fun k hk => HN.out _ (by simp only [List.getD, List.getElem?_eq_getElem hk, Option.getD_some]; exact List.getElem_mem hk)
      have h64 : ∀ f : Nat, f < 2 ^ n.toNat → f < 64 := fun f hf => Nat.lt_of_lt_of_le hf (Nat.pow_le_pow_right (n := 2) (by decide) (show n.toNat ≤ 6 by omega))
      have hlt64 : ∀ k, 0 < k → k ≤ xs.length → (xs.take k).foldl (fun a x => a &&& x.toNat) 63 < 64 := fun k hk hk2 => by
        have : ∀ (l : List Int) (a : Nat), a < 64 → l.foldl (fun a x => a &&& x.toNat) a < 64 := by
          intro l
          induction l with
          | nil => intro a ha; exact ha
          | cons x l ih => intro a ha; rw [List.foldl_cons]; exact ih _ (Nat.lt_of_le_of_lt Nat.and_le_left ha)
        exact this _ _ (by decide)
      have hstep : ∀ k, k < xs.length → (xs.take (k + 1)).foldl (fun a x => a &&& x.toNat) 63 = (xs.take k).foldl (fun a x => a &&& x.toNat) 63 &&& (xs.getD k 0).toNat := fun k hk => by
        rw [List.take_add_one, List.foldl_append]; simp [List.getD, List.getElem?_eq_getElem hk]
      have HAT := Lib.hid hat
      have H64 := Lib.hid h64
      have HLT := Lib.hid hlt64
      have HST := Lib.hid hstep
      obtain ⟨f0, hf0, hf0l⟩ := hat 0 h0
      obtain ⟨b0, o0, hae, g0⟩ := H1.out 0 h0
      rw [hf0, Nat.add_zero] at g0
      have HF0 := Lib.hid hf0
      have hz64 := h64 f0 hf0l
      have HA0 : Hid (63 &&& f0 = f0) := by
        show 63 &&& f0 = f0
        rw [Nat.and_comm, show 63 = 2 ^ 6 - 1 from rfl, Nat.and_two_pow_sub_one_eq_mod]; exact Nat.mod_eq_of_lt hz64
      have hae2 := hae
      subst hae
      clear hat h64 hlt64 hstep hf0 hf0l hae2
      go_wp2
      go_loop [3, 4] (fun s i => ∃ k : Nat, 1 ≤ k ∧ k ≤ xs.length ∧ i = .int .i64 (k : Int) ∧ s = .int .i64 ((xs.take k).foldl (fun a x => a &&& x.toNat) 63 : Nat)) (fun _ i => xs.length - (intOf i).toNat)
      case atStart =>
        refine ⟨1, Nat.le_refl _, h0, rfl, ?_⟩
        rw [HST.out 0 h0, HF0.out]
        show _ = Value.int .i64 ((63 &&& f0 : Nat) : Int)
        rw [HA0.out]
      case round =>
        obtain ⟨k, hk1, hk, rfl, rfl⟩ := hrel
        by_cases hlt : k < xs.length
        · obtain ⟨f, hf, hfl⟩ := HAT.out k hlt
          obtain ⟨b1, o1, hbe, g1⟩ := H1.out k hlt
          rw [hf] at g1
          have hs64 := HLT.out k (by omega) hk
          have hst := HST.out k hlt
          rw [hf] at hst
          have hf64 := H64.out f hfl
          obtain ⟨s, hs⟩ : ∃ s, (xs.take k).foldl (fun a x => a &&& x.toNat) 63 = s := ⟨_, rfl⟩
          rw [hs] at hs64 hst
          rw [hs]
          have hand := and_natJ s f hs64 hf64
          have HS := Lib.hid hst
          cases hbe
          clear hs hst hf
          go_wp2
          go_round
          case rel => exact ⟨k + 1, by omega, by omega, by go_num, by rw [HS.out]; first | rfl | (rw [hand]; rfl)⟩
          case measure => simp [intOf]; omega
        · have E := Lib.hid (show k = xs.length by omega)
          go_wp2
          go_ret
          refine ⟨ret_int ?_, HB1.out⟩
          unfold conePts
          rw [if_pos ⟨HC.out, HNE.out⟩, E.out, List.take_length]
    · have HE : Hid (conePts n xs = 0) := by show conePts n xs = 0; unfold conePts; rw [if_neg (by rintro ⟨_, h⟩; exact h0 (List.length_pos_iff.2 h))]
      have h0d : ((xs.length : Int) == 0) = true := beq_iff_eq.2 (by omega)
      go_wp2
      go_ret
      exact ⟨ret_int (by rw [HE.out]; rfl), HB1.out⟩

end Go.Proofs.YtenpcjmhlnalcaaGreat
