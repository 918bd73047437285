/-
  WALKS: spec's chapter 10: CountsFromH, TopH.
-/
import Derived.Test.YtcgfioakjmbciaaWHS2
namespace Go.Proofs.Ytcgfioakjmbciaa
open Go.RowKit
open Sets Hn

theorem hs_leN (s : Int) (h : s = 1 ∨ s = -1) (L : List Int) (d k : Nat) (hd : d ≤ 6) : ∀ m : Nat, (∀ j, j < m → -1000 ≤ L.getD j 0 ∧ L.getD j 0 ≤ 1000) → -20000 * (m : Int) ≤ hs s L d k m ∧ hs s L d k m ≤ 20000 * (m : Int)
  | 0, _ => by simp [hs]
  | m + 1, hx => by
    have h1 := hs_leN s h L d k hd m (fun j hj => hx j (by omega))
    have h2 := part_le s h _ (hx m (by omega)) d k m hd
    rw [hs]
    generalize pw s (k - m) * L.getD m 0 * (ch (d - m) (k - m) : Int) = y at h2 ⊢
    omega

theorem near_all {L : List Int} (h : ∀ j, j < L.length → -1000 ≤ L.getD j 0 ∧ L.getD j 0 ≤ 1000) : nearB L = true := by
  unfold nearB
  rw [List.all_eq_true]
  intro x hx
  obtain ⟨j, hj, rfl⟩ := List.mem_iff_getElem.1 hx
  have := h j hj
  rw [List.getD, List.getElem?_eq_getElem hj] at this
  simpa using this

set_option maxRecDepth 100000 in
set_option maxHeartbeats 4000000 in
theorem specFrom_any (a : Option Addr) (c : Nat) (L : List Int) (hlen : L.length ≤ 1099511627776) (w : World) (h : Ints w a L) :
    Calls Try.prog 19 #[.slice a L.length c] w fun e w' => ∃ v, e = .returned v ∧ OwnInts w' w.heap.size v (fromH L) ∧ Below w.heap.size w w' := by
  obtain ⟨i0, hi, hz0, hz1, hz2⟩ := info_parts info_int
  have H := Lib.hid h
  have HO1 := Lib.hid (OwnInts.lit w w.heap.size [] (Nat.le_refl _) (by simp))
  have HB1 : Hid (Below w.heap.size w (w.alloc (.cells #[] 3))) := Lib.hid ((Below.refl _ _).alloc (Nat.le_refl _) _)
  have HTK := Lib.hid (hsums_take 1 L)
  have HTL := Lib.hid (hsums_take_length 1 L)
  have HNF : Hid (∀ k, k < L.length → ¬(-1000 ≤ L.getD k 0 ∧ L.getD k 0 ≤ 1000) → fromH L = []) := by
    have : ∀ k, k < L.length → ¬(-1000 ≤ L.getD k 0 ∧ L.getD k 0 ≤ 1000) → fromH L = [] := fun k _ hn => by
      unfold fromH; rw [if_neg (fun e => hn (near_at e.2.2 k))]
    exact this
  have HNG : Hid (7 < L.length → fromH L = []) := by
    have : 7 < L.length → fromH L = [] := fun h7 => by unfold fromH; rw [if_neg (fun e => by omega)]
    exact this
  have HYES : Hid ((0 < L.length → L.length ≤ 7) → (∀ j, j < L.length → -1000 ≤ L.getD j 0 ∧ L.getD j 0 ≤ 1000) → (hsums 1 L).take L.length = fromH L) := by
    have : (0 < L.length → L.length ≤ 7) → (∀ j, j < L.length → -1000 ≤ L.getD j 0 ∧ L.getD j 0 ≤ 1000) → (hsums 1 L).take L.length = fromH L := fun h7 hn => by
      rw [← hsums_length 1 L, List.take_length]
      unfold fromH
      by_cases h0 : 0 < L.length
      · rw [if_pos ⟨h0, h7 h0, near_all hn⟩]
      · rw [if_neg (fun e => h0 e.1)]
        have := List.eq_nil_of_length_eq_zero (l := L) (by omega)
        subst this; rfl
    exact this
  have HPART := Lib.hid (fun (d k m : Nat) (hx : -1000 ≤ L.getD m 0 ∧ L.getD m 0 ≤ 1000) hd => part_le 1 (Or.inl rfl) (L.getD m 0) hx d k m hd)
  have HSUM := Lib.hid (hs_leN 1 (Or.inl rfl) L)
  have HZERO : Hid ((hsums 1 L).take 0 = []) := by
    have : (hsums 1 L).take 0 = [] := rfl
    exact this
  obtain ⟨f, hf⟩ : ∃ f, L.length = f := ⟨_, rfl⟩
  have HFL := Lib.hid hf
  rw [hf] at HTK HTL HNF HNG HYES hlen
  obtain ⟨H1, hH1⟩ : ∃ H1, hsums 1 L = H1 := ⟨_, rfl⟩
  rw [hH1] at HTK HTL HYES HZERO
  obtain ⟨R1, hR1⟩ : ∃ R1, fromH L = R1 := ⟨_, rfl⟩
  rw [hR1] at HNF HNG HYES
  rw [hR1, hf]
  clear hf hH1 hR1 h
  rw [← HZERO.out] at HO1
  clear HZERO
  go_enter Try.func19, Try.ntmps19
  go_wp2
  go_loopw [3, 5] (fun v i wr => ∃ (k : Nat) (aa : Option Addr) (cc : Nat), k ≤ f ∧ i = .int .i64 (k : Int) ∧ v = .slice aa k cc ∧ OwnInts wr w.heap.size (.slice aa k cc) (H1.take k) ∧ Below w.heap.size w wr ∧ (0 < k → f ≤ 7) ∧ (∀ j, j < k → -1000 ≤ L.getD j 0 ∧ L.getD j 0 ≤ 1000)) (fun _ i _ => f - (intOf i).toNat)
  case atStart => exact ⟨0, _, _, Nat.zero_le _, rfl, rfl, HO1.out, HB1.out, fun h => absurd h (Nat.lt_irrefl _), fun j hj => absurd hj (Nat.not_lt_zero _)⟩
  case round =>
    clear HO1 HB1
    obtain ⟨k, aa, cc, hk, rfl, rfl, hO, hB, h7, hnr⟩ := hrel
    have HO := Lib.hid hO
    have HB := Lib.hid hB
    have HNR := Lib.hid hnr
    have H7 := Lib.hid h7
    clear hO hB hnr h7
    have hsz := HB.out.size
    by_cases hlt : k < f
    · obtain ⟨b, o, rfl, g⟩ := (H.out.keeps HB.out) k (by rw [HFL.out]; exact hlt)
      obtain ⟨x0, hx0⟩ : ∃ x0, L.getD k 0 = x0 := ⟨_, rfl⟩
      rw [hx0] at g
      cases hin : inB (-1000) 1000 x0 with
      | false =>
        have HIN := Lib.hid hin
        have HRR : Hid (R1 = []) := by
          have : R1 = [] := (HNF.out k hlt (fun e => by
            have : inB (-1000) 1000 x0 = true := by rw [inB_iff, ← hx0]; exact e
            rw [hin] at this; cases this)).symm ▸ rfl
          exact this
        have hO9 := OwnInts.lit wr w.heap.size [] hsz (by simp)
        have HO9 := Lib.hid hO9
        clear hin hx0 hO9
        go_wp2_with fail
        refine (in_b _ _ _ false HIN.out _).mono ?_
        rintro e w' ⟨rfl, rfl⟩
        go_wp2
        go_ret
        exact ⟨_, rfl, by rw [HRR.out]; exact HO9.out, HB.out.alloc hsz _⟩
      | true =>
        have HIN := Lib.hid hin
        have hin2 := hin
        rw [inB_iff, ← hx0] at hin2
        have HIN2 := Lib.hid hin2
        by_cases hf7 : 7 < f
        · have hd7 : decide (6 < (f : Int) - 1) = true := by simp; omega
          have HRR : Hid (R1 = []) := by
            have : R1 = [] := (HNG.out hf7).symm ▸ rfl
            exact this
          have hO9 := OwnInts.lit wr w.heap.size [] hsz (by simp)
          have HO9 := Lib.hid hO9
          clear hin hin2 hx0 hO9
          go_wp2_with fail
          refine (in_b _ _ _ true HIN.out _).mono ?_
          rintro e w' ⟨rfl, rfl⟩
          go_wp2
          go_ret
          exact ⟨_, rfl, by rw [HRR.out]; exact HO9.out, HB.out.alloc hsz _⟩
        · have hd7 : decide (6 < (f : Int) - 1) = false := by simp; omega
          have hl7 : f ≤ 7 := by omega
          have HALLN : Hid (∀ j, j < k + 1 → -1000 ≤ L.getD j 0 ∧ L.getD j 0 ≤ 1000) := by
            have : ∀ j, j < k + 1 → -1000 ≤ L.getD j 0 ∧ L.getD j 0 ≤ 1000 := fun j hj => by
              by_cases e : j = k
              · subst e; exact HIN2.out
              · exact HNR.out j (by omega)
            exact this
          clear hin hin2 hx0 hf7
          go_wp2_with fail
          refine (in_b _ _ _ true HIN.out _).mono ?_
          rintro e w' ⟨rfl, rfl⟩
          go_wp2
          go_loopw [6, 7] (fun u v W => ∃ j : Nat, j ≤ k + 1 ∧ v = .int .i64 (j : Int) ∧ u = .int .i64 (hs 1 L (f - 1) k j) ∧ ∃ m, W = wr.drewN m) (fun _ v _ => k + 1 - (intOf v).toNat)
          case atStart => exact ⟨0, by omega, rfl, rfl, 0, rfl⟩
          case round =>
            clear g
            obtain ⟨j, hj, rfl, rfl, m, rfl⟩ := hrel
            by_cases hjk : j ≤ k
            · have hjd : decide ((j : Int) ≤ (k : Int)) = true := by simp; omega
              obtain ⟨b2, o2, e2, g⟩ := (H.out.keeps HB.out) j (by rw [HFL.out]; omega)
              injection e2 with e2
              injection e2 with e2 e3
              subst e2 e3
              have hcx := HPART.out (f - 1) k j (HALLN.out j (by omega)) (by omega)
              have hsx := HSUM.out (f - 1) k (by omega) j (fun q hq => HALLN.out q (by omega))
              obtain ⟨x, hx⟩ : ∃ x, L.getD j 0 = x := ⟨_, rfl⟩
              obtain ⟨y, hy⟩ : ∃ y, hs 1 L (f - 1) k j = y := ⟨_, rfl⟩
              obtain ⟨ccc, hcc⟩ : ∃ q, ch (f - 1 - j) (k - j) = q := ⟨_, rfl⟩
              have hnx : hs 1 L (f - 1) k (j + 1) = hs 1 L (f - 1) k j + pw 1 (k - j) * L.getD j 0 * (ch (f - 1 - j) (k - j) : Int) := rfl
              have HCH : Hid (∀ W, Calls Try.prog 21 #[.int .i64 ((f : Int) - 1 - (j : Int)), .int .i64 ((k : Int) - (j : Int))] W fun e w' => e = .returned (.int .i64 (ccc : Int)) ∧ W = w') := by
                have : ∀ W, Calls Try.prog 21 #[.int .i64 ((f : Int) - 1 - (j : Int)), .int .i64 ((k : Int) - (j : Int))] W fun e w' => e = .returned (.int .i64 (ccc : Int)) ∧ W = w' := fun W =>
                  specChoose_z (f - 1 - j) (k - j) _ _ (by omega) (by omega) ccc hcc (by omega) (by omega) W
                exact this
              have HV : Hid (wrap64 (y + wrap64 (x * (ccc : Int))) = hs 1 L (f - 1) k (j + 1)) := by
                have : wrap64 (y + wrap64 (x * (ccc : Int))) = hs 1 L (f - 1) k (j + 1) := by
                  rw [hnx, hy, hx, hcc, pw_one, Int.one_mul]
                  rw [hx, hcc, pw_one, Int.one_mul] at hcx
                  rw [hy] at hsx
                  generalize x * (ccc : Int) = z at hcx ⊢
                  rw [IntWalk.wrap64_in z (by omega), IntWalk.wrap64_in (y + z) (by omega)]
                exact this
              rw [hx] at g
              rw [hy]
              have hjf : j < f := by omega
              clear hcx hsx hx hy hcc hnx
              go_wp2_with fail
              go_quiet ((go_at_call 21; refine quietly (HCH.out _)))
              go_wp2
              exact ⟨⟨j + 1, by omega, by go_num, by rw [HV.out], _, rfl⟩, by simp [intOf]; omega⟩
            · have hjd : decide ((j : Int) ≤ (k : Int)) = false := by simp; omega
              have E := Lib.hid (show j = k + 1 by omega)
              have HN1 : Hid (H1.take (k + 1) = H1.take k ++ [hs 1 L (f - 1) k j]) := by
                have : H1.take (k + 1) = H1.take k ++ [hs 1 L (f - 1) k j] := by rw [HTK.out k hlt, E.out]
                exact this
              have HO2 : Hid (wr.ownsRow w.heap.size 3 1 (.slice aa k cc) k ((H1.take k).map (Value.int .i64))) := by
                have h := HO.out
                unfold OwnInts at h
                rw [HTL.out k (by omega)] at h
                exact h
              have hsz := HB.out.size
              obtain ⟨y, hy⟩ : ∃ y, hs 1 L (f - 1) k j = y := ⟨_, rfl⟩
              rw [hy] at HN1 ⊢
              clear hy
              go_wp2_with (at_builtin; refine wpList_append_own_at _ rfl _ _ 24 rfl w.heap.size 3 i0 (.int .i64 0) 1 8 Try.underlying24 hi hz0 hz1 hz2 rfl (by decide) _ _ _ rfl (((show (wr.drewN m).ownsRow w.heap.size 3 1 (.slice aa k cc) k ((H1.take k).map (Value.int .i64)) from HO2.out)).alloc _) ⟨wr.heap.size, 0, none⟩ 1 1 [.int .i64 y] rfl rfl ?c1 ?c2 ?c3 ?c4 ?c5 ?_)
              case c1 => intro q u hq; exact Mem.cell_new (wr.drewN m) _ _ q u hq
              case c2 => intro u hu; simp at hu; subst hu; rfl
              case c3 => unfold maxLen; omega
              case c4 => omega
              case c5 => simp; omega
              intro v' w3 hown1 hgrow _ hob
              have hB3 : Below w.heap.size w w3 := ((bdrew HB.out m).alloc hsz _).grown hgrow (by simp; omega) (fun g hg => (HO2.out.lt g hg).1)
              have hO3 : OwnInts w3 w.heap.size v' (H1.take (k + 1)) := by
                rw [HN1.out]
                unfold OwnInts
                rw [List.length_append, List.map_append, HTL.out k (by omega), List.map_take]
                exact hown1
              obtain ⟨a2, c2, _, rfl, _⟩ := OwnInts.ata hO3 hB3.size
              rw [HTL.out (k + 1) (by omega)] at hO3
              rw [HTL.out (k + 1) (by omega)]
              have HO3 := Lib.hid hO3
              have HB3 := Lib.hid hB3
              clear hown1 hgrow hob hO3 hB3
              go_wp2
              go_roundw
              case rel => exact ⟨k + 1, a2, c2, by omega, by go_num, rfl, HO3.out, HB3.out, fun _ => hl7, HALLN.out⟩
              case measure => simp [intOf]; omega
    · have E := Lib.hid (show k = f by omega)
      have HEND : Hid (H1.take f = R1) := by
        have : H1.take f = R1 := HYES.out (fun h => H7.out (by have := E.out; omega)) (by rw [← E.out]; exact HNR.out)
        exact this
      go_wp2
      go_ret
      have h2 := HO.out
      rw [E.out, HEND.out] at h2
      exact ⟨_, rfl, by rw [E.out]; exact h2, HB.out⟩

set_option maxRecDepth 100000 in
set_option maxHeartbeats 4000000 in
theorem specTop_any (n : Int) (a : Option Addr) (c : Nat) (xs : List Int) (hlen : xs.length ≤ 1099511627776) (w : World) (h : Ints w a xs) :
    Calls Try.prog 26 #[cx n (.slice a xs.length c)] w fun e w' => e = .returned (.int .i64 (topZ (hnum n xs))) ∧ Below w.heap.size w w' := by
  have hb0 : Below w.heap.size w (w.alloc (Obj.cells #[Value.int IntKind.i64 n, Value.slice a xs.length c] 26)) := (Below.refl _ _).alloc (Nat.le_refl _) _
  have htwo := (Two.new w (.int .i64 n) (.slice a xs.length c) 26)
  have H := Lib.hid (h.keeps hb0)
  have HB0 := Lib.hid hb0
  have HT := Lib.hid htwo
  clear h hb0 htwo
  have hl7 := hnum_le7 n xs
  obtain ⟨L, hL⟩ : ∃ L, hnum n xs = L := ⟨_, rfl⟩
  have HLL := Lib.hid hL
  rw [hL] at hl7
  rw [hL]
  clear hL
  go_enter Try.func26, Try.ntmps26
  obtain ⟨t0, t1, t2, _, _⟩ := HT.out
  go_wp2_with fail
  refine (specH_any n _ _ xs hlen _ H.out).mono ?_
  rw [HLL.out]
  rintro e w1 ⟨v1, rfl, hO1, hb1⟩
  obtain ⟨a1, d1, g1, rfl, _, hr1⟩ := hO1.at
  have HB1 : Hid (Below w.heap.size w w1) := HB0.out.trans (hb1.mono HB0.out.size)
  have HR1 := Lib.hid hr1.ints
  clear hO1 hr1 hb1 t0 t1 t2 HB0 HT H
  by_cases h0 : L.length = 0
  · obtain rfl := List.eq_nil_of_length_eq_zero h0
    simp only [List.length_nil]
    go_wp2
    go_ret
    exact ⟨rfl, HB1.out⟩
  · obtain ⟨l, hl⟩ : ∃ l, L.length = l + 1 := ⟨L.length - 1, by omega⟩
    obtain ⟨b, o, rfl, g⟩ := HR1.out l (by omega)
    have HT2 : Hid (topZ L = L.getD l 0) := by
      have : topZ L = L.getD l 0 := by unfold topZ; rw [hl]; rfl
      exact this
    rw [hl] at hl7 ⊢
    obtain ⟨x, hx⟩ : ∃ x, L.getD l 0 = x := ⟨_, rfl⟩
    have HX := Lib.hid hx
    rw [hx] at g
    have e1 : (((l + 1 : Nat) : Int) - 1) = (l : Int) := by omega
    clear hl h0 hx
    go_wp2
    go_ret
    exact ⟨by rw [HT2.out, HX.out]; rfl, HB1.out⟩

end Go.Proofs.Ytcgfioakjmbciaa
