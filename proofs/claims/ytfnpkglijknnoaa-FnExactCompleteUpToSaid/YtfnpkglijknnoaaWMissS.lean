/-
  WALKS: spec's chapter 7: sets that are no faces.
-/
import Derived.Test.YtfnpkglijknnoaaMiss
import Derived.Test.YtfnpkglijknnoaaWCx6
import Derived.Test.YtfnpkglijknnoaaWSpecBest
import Derived.Test.YtfnpkglijknnoaaWCnt1
namespace Go.Proofs.Ytfnpkglijknnoaa
open Go.RowKit
open Sets

set_option maxRecDepth 100000 in
set_option maxHeartbeats 4000000 in
theorem specMissing_any (n : Int) (a : Option Addr) (c : Nat) (xs : List Int) (hlen : xs.length ≤ 1099511627776) (w : World) (h : Ints w a xs) :
    Calls Try.prog 20 #[cx n (.slice a xs.length c)] w fun e w' => ∃ v, e = .returned v ∧ OwnInts w' w.heap.size v (missing n xs) ∧ Below w.heap.size w w' := by
  obtain ⟨i0, hi, hz0, hz1, hz2⟩ := info_parts info_int
  have hb0 : Below w.heap.size w (w.alloc (Obj.cells #[Value.int IntKind.i64 n, Value.slice a xs.length c] 26)) := (Below.refl _ _).alloc (Nat.le_refl _) _
  have htwo : Two (w.alloc (Obj.cells #[Value.int IntKind.i64 n, Value.slice a xs.length c] 26)) w.heap.size (.int .i64 n) (.slice a xs.length c) := Two.new _ _ _ _
  have H := Lib.hid (h.keeps hb0)
  have HB0 := Lib.hid hb0
  have HT := Lib.hid htwo
  clear h hb0 htwo
  cases hC : isC n xs with
  | false =>
    have HC := Lib.hid hC
    have HF : Hid (missing n xs = []) := missing_no hC
    clear hC
    have H2 := Lib.hid (H.out.keeps ((Below.refl _ _).alloc (Nat.le_refl _) (Obj.cells #[] 3)))
    go_enter Try.func20, Try.ntmps20
    go_wp2
    refine wp_loop_rounds 1 ?_
    rw [rounds_succ]
    go_wp2_with fail
    refine (specIsC_b n _ _ xs false HC.out hlen _ H2.out).mono ?_
    rintro e w1 ⟨rfl, hb1⟩
    have HB1 : Hid (Below w.heap.size w w1) := (HB0.out.alloc (by simp) _).trans (hb1.mono (by simp; omega))
    clear hb1
    go_wp2_with fail
    refine (l2Extreme_false _ _ [] (by simp) rfl _ (Ints.nil _ _)).mono ?_
    rintro e w2 ⟨v, rfl, hO, hb2⟩
    have HO := Lib.hid hO
    have hsz := HB1.out.size
    clear hO
    go_wp2
    go_ret
    refine ⟨v, rfl, ?_, HB1.out.trans (hb2.mono hsz)⟩
    have h2 := HO.out
    rw [show best (fun s o => sub o s) (order []) = [] from rfl] at h2
    rw [HF.out]
    exact OwnInts.lower h2 hsz
  | true =>
    have HC := Lib.hid hC
    have HOK := Lib.hid (isC_ok hC)
    have HF : Hid (missing n xs = best (fun s o => sub o s) (order (firsts (missQ n xs) 64))) := by
      have : missing n xs = best (fun s o => sub o s) (order (firsts (missQ n xs) 64)) := by rw [missing_yes hC, minimal_firsts]
      exact this
    clear hC
    go_enter Try.func20, Try.ntmps20
    go_wp2
    have HO0 := Lib.hid (OwnInts.lit (w.alloc (Obj.cells #[Value.int IntKind.i64 n, Value.slice a xs.length c] 26)) (w.heap.size + 1) [] (by simp) (by simp))
    have hszW : (w.alloc (Obj.cells #[Value.int IntKind.i64 n, Value.slice a xs.length c] 26)).heap.size = w.heap.size + 1 := by simp
    generalize (w.alloc (Obj.cells #[Value.int IntKind.i64 n, Value.slice a xs.length c] 26)) = W at *
    have HSZ := Lib.hid hszW
    clear hszW
    go_loopw [3, 4] (fun v i wr => ∃ k : Nat, k ≤ 64 ∧ i = .int .i64 (k : Int) ∧ OwnInts wr W.heap.size v (firsts (missQ n xs) k) ∧ Below W.heap.size W wr) (fun _ i _ => 64 - (intOf i).toNat)
    case atStart => exact ⟨0, by omega, rfl, by have h := HO0.out; rw [HSZ.out] at h ⊢; exact h, (Below.refl _ _).alloc (Nat.le_refl _) _⟩
    case round =>
      obtain ⟨k, hk, rfl, hO, hB⟩ := hrel
      have HO := Lib.hid hO
      clear hO
      have hsz := hB.size
      have hl := firsts_length (missQ n xs) k
      obtain ⟨t0, t1, t2, _, _⟩ := HT.out.keeps hB
      by_cases hlt : k < 64
      · have HI := Lib.hid (H.out.keeps hB)
        cases hs : setB n (k : Int) with
        | false =>
          have HS := Lib.hid hs
          have HP : Hid (missQ n xs k = false) := by
            have : missQ n xs k = false := by unfold missQ; rw [hs]; rfl
            exact this
          clear hs
          go_wp2_with fail
          refine (specIsC_b n _ _ xs true HC.out hlen _ HI.out).mono ?_
          rintro e w1 ⟨rfl, hb1⟩
          have HO1 := Lib.hid (OwnInts.keeps HO.out hb1)
          have hB1 : Below W.heap.size W w1 := hB.trans (hb1.mono hsz)
          have HI1 := Lib.hid (HI.out.keeps hb1)
          obtain ⟨s0, s1, s2, _, _⟩ := HT.out.keeps hB1
          have hsz1 := hB1.size
          clear hb1 HO
          go_wp2_with fail
          refine (specIsSet_b n (k : Int) false HS.out _).mono ?_
          rintro e w' ⟨rfl, rfl⟩
          go_wp2
          go_roundw
          case rel => exact ⟨k + 1, by omega, by go_num, by rw [firsts_miss _ k HP.out]; exact HO1.out, hB1⟩
          case measure => simp [intOf]; omega
        | true =>
          have HS := Lib.hid hs
          cases hp : inF xs k with
          | true =>
            have HIN := Lib.hid hp
            have HP : Hid (missQ n xs k = false) := by
              have : missQ n xs k = false := by unfold missQ; rw [hs, hp]; rfl
              exact this
            clear hs hp
            go_wp2_with fail
            refine (specIsC_b n _ _ xs true HC.out hlen _ HI.out).mono ?_
            rintro e w1 ⟨rfl, hb1⟩
            have HO1 := Lib.hid (OwnInts.keeps HO.out hb1)
            have hB1 : Below W.heap.size W w1 := hB.trans (hb1.mono hsz)
            have HI1 := Lib.hid (HI.out.keeps hb1)
            obtain ⟨s0, s1, s2, _, _⟩ := HT.out.keeps hB1
            have hsz1 := hB1.size
            clear hb1 HO
            go_wp2_with fail
            refine (specIsSet_b n (k : Int) true HS.out _).mono ?_
            rintro e w' ⟨rfl, rfl⟩
            go_wp2_with fail
            refine (l3Has_any n _ _ xs HOK.out hlen k hlt true HIN.out _ HI1.out).mono ?_
            rintro e w2 ⟨rfl, hb2⟩
            have HO2 := Lib.hid (OwnInts.keeps HO1.out hb2)
            have hB2 : Below W.heap.size W w2 := hB1.trans (hb2.mono hsz1)
            have hsz2 := hB2.size
            clear hb2 HO1
            go_wp2
            go_roundw
            case rel => exact ⟨k + 1, by omega, by go_num, by rw [firsts_miss _ k HP.out]; exact HO2.out, hB2⟩
            case measure => simp [intOf]; omega
          | false =>
            have HIN := Lib.hid hp
            have HP : Hid (missQ n xs k = true) := by
              have : missQ n xs k = true := by unfold missQ; rw [hs, hp]; rfl
              exact this
            clear hs hp
            go_wp2_with fail
            refine (specIsC_b n _ _ xs true HC.out hlen _ HI.out).mono ?_
            rintro e w1 ⟨rfl, hb1⟩
            have HO1 := Lib.hid (OwnInts.keeps HO.out hb1)
            have hB1 : Below W.heap.size W w1 := hB.trans (hb1.mono hsz)
            have HI1 := Lib.hid (HI.out.keeps hb1)
            obtain ⟨s0, s1, s2, _, _⟩ := HT.out.keeps hB1
            have hsz1 := hB1.size
            clear hb1 HO
            go_wp2_with fail
            refine (specIsSet_b n (k : Int) true HS.out _).mono ?_
            rintro e w' ⟨rfl, rfl⟩
            go_wp2_with fail
            refine (l3Has_any n _ _ xs HOK.out hlen k hlt false HIN.out _ HI1.out).mono ?_
            rintro e w2 ⟨rfl, hb2⟩
            have HO2 := Lib.hid (OwnInts.keeps HO1.out hb2)
            unfold OwnInts at HO2
            have hB2 : Below W.heap.size W w2 := hB1.trans (hb2.mono hsz1)
            have hsz2 := hB2.size
            clear hb2 HO1
            go_wp2_with (at_builtin; refine wpList_append_own _ rfl _ _ 24 rfl W.heap.size 3 i0 (.int .i64 0) 1 8 Try.underlying24 hi hz0 hz1 hz2 rfl (by decide) _ _ _ rfl (HO2.out.alloc _) ⟨w2.heap.size, 0, none⟩ 1 1 [.int .i64 (k : Int)] rfl rfl ?c1 ?c2 ?c3 ?c4 ?c5 ?_)
            case c1 => intro j u hj; exact Mem.cell_new w2 _ _ j u hj
            case c2 => intro u hu; simp at hu; subst hu; rfl
            case c3 => unfold maxLen; omega
            case c4 => omega
            case c5 => simp; omega
            intro v' w3 hown1 hgrow _
            have hB3 : Below W.heap.size W w3 := (hB2.alloc hsz2 _).grown hgrow (by simp; omega) (fun g hg => (HO2.out.lt g hg).1)
            have H1 := Lib.hid hown1
            clear hown1 hgrow
            go_wp2
            go_roundw
            case rel => exact ⟨k + 1, by omega, by go_num, by rw [firsts_hit _ k HP.out]; exact OwnInts.next H1.out, hB3⟩
            case measure => simp [intOf]; omega
      · have E := Lib.hid (show k = 64 by omega)
        have hO := HO.out
        rw [E.out] at hO hl
        obtain ⟨a1, c1, g1, rfl, hg1, hr1⟩ := hO.at
        have R1 := Lib.hid hr1
        clear hO hr1 HO
        go_wp2_with fail
        refine (l2Extreme_false _ _ (firsts (missQ n xs) 64) (by omega) (firsts_ok _) _ R1.out.ints).mono ?_
        rintro e w1 ⟨v, rfl, hO, hb1⟩
        have HO := Lib.hid hO
        clear hO
        go_wp2
        go_ret
        have hz := HSZ.out
        refine ⟨v, rfl, ?_, HB0.out.trans ((hB.trans (hb1.mono hsz)).mono (by omega))⟩
        rw [HF.out]
        exact HO.out.lower (by omega)

theorem specMissing_b (n : Int) (a : Option Addr) (c : Nat) (xs M : List Int) (hM : missing n xs = M) (hlen : xs.length ≤ 1099511627776) (w : World) (h : Ints w a xs) :
    Calls Try.prog 20 #[cx n (.slice a xs.length c)] w fun e w' => ∃ v, e = .returned v ∧ OwnInts w' w.heap.size v M ∧ Below w.heap.size w w' := by
  subst hM; exact specMissing_any n a c xs hlen w h

end Go.Proofs.Ytfnpkglijknnoaa
