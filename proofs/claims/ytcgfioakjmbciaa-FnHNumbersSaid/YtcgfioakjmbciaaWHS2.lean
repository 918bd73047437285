/-
  WALKS: spec's chapter 10: HNumbers.
-/
import Derived.Test.YtcgfioakjmbciaaJg7
import Derived.Test.YtcgfioakjmbciaaJg3
namespace Go.Proofs.Ytcgfioakjmbciaa
open Go.RowKit
open Sets Hn

theorem quietlyH {f : FuncId} {args : Array Value} {w : World} {n : Nat} {v : Value}
    (h : Calls Try.prog f args (w.drewN n) fun e w' => e = .returned v ∧ w.drewN n = w') : Calls Try.prog f args (w.drewN n) fun e w'' => e = .returned v ∧ ∃ n, w'' = w.drewN n :=
  h.mono fun _ _ ⟨he, hw⟩ => ⟨he, n, hw.symm⟩

theorem hsums_take (s : Int) (L : List Int) (k : Nat) (h : k < L.length) : (hsums s L).take (k + 1) = (hsums s L).take k ++ [hs s L (L.length - 1) k (k + 1)] := by
  rw [take_nx _ _ (by rw [hsums_length]; exact h), hsums_at s L k h]
theorem hsums_take_length (s : Int) (L : List Int) (k : Nat) (h : k ≤ L.length) : ((hsums s L).take k).length = k := by
  rw [List.length_take, hsums_length]; omega

set_option maxRecDepth 100000 in
set_option maxHeartbeats 1000000 in
theorem specH_any (n : Int) (a : Option Addr) (c : Nat) (xs : List Int) (hlen : xs.length ≤ 1099511627776) (w : World) (h : Ints w a xs) :
    Calls Try.prog 17 #[cx n (.slice a xs.length c)] w fun e w' => ∃ v, e = .returned v ∧ OwnInts w' w.heap.size v (hnum n xs) ∧ Below w.heap.size w w' := by
  obtain ⟨i0, hi, hz0, hz1, hz2⟩ := info_parts info_int
  have hb0 : Below w.heap.size w ((w.alloc (Obj.cells #[Value.int IntKind.i64 n, Value.slice a xs.length c] 26)).alloc (.cells #[] 3)) := ((Below.refl _ _).alloc (Nat.le_refl _) _).alloc (by simp) _
  have hO0 := OwnInts.lit (w.alloc (Obj.cells #[Value.int IntKind.i64 n, Value.slice a xs.length c] 26)) w.heap.size [] (by simp) (by simp)
  have htwo := (Two.new w (.int .i64 n) (.slice a xs.length c) 26).alloc (.cells #[] 3)
  have H := Lib.hid (h.keeps hb0)
  have HB0 := Lib.hid hb0
  have HO0 := Lib.hid hO0
  have HT := Lib.hid htwo
  clear h hb0 hO0 htwo
  have hl7 := counts_le7 (faces n xs)
  have HFEW := Lib.hid (counts_few n xs)
  obtain ⟨F, hF⟩ : ∃ F, counts (faces n xs) = F := ⟨_, rfl⟩
  have HN : Hid (hnum n xs = hsums (-1) F) := by
    have : hnum n xs = hsums (-1) F := by rw [← hF]; rfl
    exact this
  have HFF := Lib.hid hF
  rw [hF] at hl7 HFEW
  rw [HN.out]
  have HTK := Lib.hid (hsums_take (-1) F)
  have HTL := Lib.hid (hsums_take_length (-1) F)
  have HSUM := Lib.hid (hs_le (-1) (Or.inr rfl) F (fun j => by have := HFEW.out j; omega))
  have HPART := Lib.hid (fun d k m hd => part_le (-1) (Or.inr rfl) (F.getD m 0) (by have := HFEW.out m; omega) d k m hd)
  have HALL : Hid ((hsums (-1) F).take F.length = hsums (-1) F) := by
    have : (hsums (-1) F).take F.length = hsums (-1) F := by rw [← hsums_length (-1) F, List.take_length]
    exact this
  have HZERO : Hid ((hsums (-1) F).take 0 = []) := by
    have : (hsums (-1) F).take 0 = [] := rfl
    exact this
  obtain ⟨f, hf⟩ : ∃ f, F.length = f := ⟨_, rfl⟩
  have HFL := Lib.hid hf
  rw [hf] at hl7 HTK HTL HALL
  obtain ⟨H1, hH1⟩ : ∃ H1, hsums (-1) F = H1 := ⟨_, rfl⟩
  rw [hH1] at HTK HTL HALL HN HZERO
  rw [hH1]
  clear hF hf hH1
  go_enter Try.func17, Try.ntmps17
  obtain ⟨t0, t1, t2, _, _⟩ := HT.out
  go_wp2_with fail
  refine (specCounts_any n _ _ xs hlen _ H.out).mono ?_
  rw [HFF.out]
  rintro e w1 ⟨v1, rfl, hO1, hb1⟩
  obtain ⟨a1, d1, g1, rfl, hg1, hr1⟩ := hO1.at
  have HB1 : Hid (Below w.heap.size w w1) := HB0.out.trans (hb1.mono HB0.out.size)
  have HR1 := Lib.hid hr1
  have HO1 := Lib.hid (OwnInts.keeps HO0.out hb1)
  have hz1w := HB1.out.size
  rw [World.size_alloc] at HO1
  simp only [World.size_alloc] at hg1
  have hne1 : (Value.slice (some ⟨w.heap.size + 1, 0, none⟩) 0 0).ownBlock ≠ some g1 := by simp only [Value.ownBlock, ne_eq, Option.some.injEq]; omega
  have HNE1 := Lib.hid hne1
  clear hO1 hr1 hb1 t0 t1 t2 HB0 HT H hg1 HO0 hne1
  rw [HFL.out]
  rw [← HZERO.out] at HO1
  clear HZERO
  go_wp2
  go_loopw [3, 6] (fun v i wr => ∃ (k : Nat) (aa : Option Addr) (cc : Nat), k ≤ f ∧ i = .int .i64 (k : Int) ∧ v = .slice aa k cc ∧ OwnInts wr w.heap.size (.slice aa k cc) (H1.take k) ∧ Below w.heap.size w wr ∧ IntsAt wr g1 a1 F ∧ (Value.slice aa k cc).ownBlock ≠ some g1) (fun _ i _ => f - (intOf i).toNat)
  case atStart => exact ⟨0, _, _, Nat.zero_le _, rfl, rfl, HO1.out, HB1.out, HR1.out, HNE1.out⟩
  case round =>
    clear HO1 HB1 HR1 HNE1
    obtain ⟨k, aa, cc, hk, rfl, rfl, hO, hB, hR, hne⟩ := hrel
    have HO := Lib.hid hO
    have HB := Lib.hid hB
    have HR := Lib.hid hR
    have HNE := Lib.hid hne
    clear hO hB hR hne
    by_cases hlt : k < f
    · have hkd : decide ((k : Int) ≤ (f : Int) - 1) = true := by simp; omega
      go_wp2
      go_loopw [7, 8] (fun u v W => ∃ j : Nat, j ≤ k + 1 ∧ v = .int .i64 (j : Int) ∧ u = .int .i64 (hs (-1) F (f - 1) k j) ∧ ∃ m, W = wr.drewN m) (fun _ v _ => k + 1 - (intOf v).toNat)
      case atStart => exact ⟨0, by omega, rfl, rfl, 0, rfl⟩
      case round =>
        obtain ⟨j, hj, rfl, rfl, m, rfl⟩ := hrel
        by_cases hjk : j ≤ k
        · have hjd : decide ((j : Int) ≤ (k : Int)) = true := by simp; omega
          obtain ⟨b, o, rfl, g⟩ := HR.out.ints j (by rw [HFL.out]; omega)
          have hcx := HPART.out (f - 1) k j (by omega)
          have hsx := HSUM.out (f - 1) k (by omega) j
          obtain ⟨x, hx⟩ : ∃ x, F.getD j 0 = x := ⟨_, rfl⟩
          obtain ⟨y, hy⟩ : ∃ y, hs (-1) F (f - 1) k j = y := ⟨_, rfl⟩
          obtain ⟨ccc, hcc⟩ : ∃ q, ch (f - 1 - j) (k - j) = q := ⟨_, rfl⟩
          have hnx : hs (-1) F (f - 1) k (j + 1) = hs (-1) F (f - 1) k j + pw (-1) (k - j) * F.getD j 0 * (ch (f - 1 - j) (k - j) : Int) := rfl
          have HCH : Hid (∀ W, Calls Try.prog 21 #[.int .i64 ((f : Int) - 1 - (j : Int)), .int .i64 ((k : Int) - (j : Int))] W fun e w' => e = .returned (.int .i64 (ccc : Int)) ∧ W = w') := by
            have : ∀ W, Calls Try.prog 21 #[.int .i64 ((f : Int) - 1 - (j : Int)), .int .i64 ((k : Int) - (j : Int))] W fun e w' => e = .returned (.int .i64 (ccc : Int)) ∧ W = w' := fun W =>
              specChoose_z (f - 1 - j) (k - j) _ _ (by omega) (by omega) ccc hcc (by omega) (by omega) W
            exact this
          have HV : Hid (wrap64 (y + wrap64 (wrap64 ((1 - 2 * (((k : Int) - (j : Int)) % 2)) * x) * (ccc : Int))) = hs (-1) F (f - 1) k (j + 1)) := by
            have : wrap64 (y + wrap64 (wrap64 ((1 - 2 * (((k : Int) - (j : Int)) % 2)) * x) * (ccc : Int))) = hs (-1) F (f - 1) k (j + 1) := by
              rw [hnx, hy, hx, hcc]
              rw [hx, hcc] at hcx
              rw [hy] at hsx
              have hfx := HFEW.out j
              rw [hx] at hfx
              have hp := pw_neg (k - j)
              have e1 : ((k : Int) - (j : Int)) % 2 = (((k - j) % 2 : Nat) : Int) := by omega
              rw [e1, ← hp]
              have hq : -20 ≤ pw (-1) (k - j) * x ∧ pw (-1) (k - j) * x ≤ 20 := by rcases pw_sign (-1) (Or.inr rfl) (k - j) with e | e <;> rw [e] <;> omega
              generalize pw (-1) (k - j) * x = q at hq hcx ⊢
              rw [IntWalk.wrap64_in q (by omega)]
              generalize q * (ccc : Int) = z at hcx ⊢
              rw [IntWalk.wrap64_in z (by omega), IntWalk.wrap64_in (y + z) (by omega)]
            exact this
          rw [hx] at g
          rw [hy]
          have hjf : j < f := by omega
          clear hcx hsx hx hy hcc hnx
          go_wp2_with fail
          go_quiet ((go_at_call 21; refine quietly (HCH.out _)))
          go_wp2
          exact ⟨⟨j + 1, by omega, by go_num, by rw [HV.out], _, rfl⟩, by simp [intOf]; omega⟩
        · have hjd : decide ((j : Int) ≤ (k : Int)) = false := by simp; omega
          have E := Lib.hid (show j = k + 1 by omega)
          have HN1 : Hid (H1.take (k + 1) = H1.take k ++ [hs (-1) F (f - 1) k j]) := by
            have : H1.take (k + 1) = H1.take k ++ [hs (-1) F (f - 1) k j] := by rw [HTK.out k hlt, E.out]
            exact this
          have HO2 : Hid (wr.ownsRow w.heap.size 3 1 (.slice aa k cc) k ((H1.take k).map (Value.int .i64))) := by
            have h := HO.out
            unfold OwnInts at h
            rw [HTL.out k (by omega)] at h
            exact h
          have hsz := HB.out.size
          obtain ⟨y, hy⟩ : ∃ y, hs (-1) F (f - 1) k j = y := ⟨_, rfl⟩
          rw [hy] at HN1 ⊢
          clear hy
          go_wp2_with (at_builtin; refine wpList_append_own_at _ rfl _ _ 24 rfl w.heap.size 3 i0 (.int .i64 0) 1 8 Try.underlying24 hi hz0 hz1 hz2 rfl (by decide) _ _ _ rfl (((show (wr.drewN m).ownsRow w.heap.size 3 1 (.slice aa k cc) k ((H1.take k).map (Value.int .i64)) from HO2.out)).alloc _) ⟨wr.heap.size, 0, none⟩ 1 1 [.int .i64 y] rfl rfl ?c1 ?c2 ?c3 ?c4 ?c5 ?_)
          case c1 => intro q u hq; exact Mem.cell_new (wr.drewN m) _ _ q u hq
          case c2 => intro u hu; simp at hu; subst hu; rfl
          case c3 => unfold maxLen; omega
          case c4 => omega
          case c5 => simp; omega
          intro v' w3 hown1 hgrow _ hob
          have hB3 : Below w.heap.size w w3 := ((bdrew HB.out m).alloc hsz _).grown hgrow (by simp; omega) (fun g hg => (HO2.out.lt g hg).1)
          have hR3 := IntsAt.away ((show IntsAt (wr.drewN m) g1 a1 F from HR.out).keeps ((Below.refl _ _).alloc (Nat.le_refl _) _)) hgrow HNE.out
          have hgl : g1 < wr.heap.size := (HR.out 0 (by rw [HFL.out]; omega)).2.1
          have hn3 : v'.ownBlock ≠ some g1 := by
            rcases hob with e | e
            · rw [e]; exact HNE.out
            · rw [e]; simp; omega
          have hO3 : OwnInts w3 w.heap.size v' (H1.take (k + 1)) := by
            rw [HN1.out]
            unfold OwnInts
            rw [List.length_append, List.map_append, HTL.out k (by omega), List.map_take]
            exact hown1
          obtain ⟨a2, c2, _, rfl, _⟩ := OwnInts.ata hO3 hB3.size
          rw [HTL.out (k + 1) (by omega)] at hO3
          rw [HTL.out (k + 1) (by omega)] at hn3
          rw [HTL.out (k + 1) (by omega)]
          have HN3 := Lib.hid hn3
          have HR3 := Lib.hid hR3
          have HO3 := Lib.hid hO3
          have HB3 := Lib.hid hB3
          clear hown1 hgrow hob hO3 hB3 hR3 hn3
          go_wp2
          go_roundw
          case rel => exact ⟨k + 1, a2, c2, by omega, by go_num, rfl, HO3.out, HB3.out, HR3.out, HN3.out⟩
          case measure => simp [intOf]; omega
    · have hkd : decide ((k : Int) ≤ (f : Int) - 1) = false := by simp; omega
      have E := Lib.hid (show k = f by omega)
      go_wp2
      go_ret
      have h2 := HO.out
      rw [E.out, HALL.out] at h2
      exact ⟨_, rfl, by rw [E.out]; exact h2, HB.out⟩

end Go.Proofs.Ytcgfioakjmbciaa
