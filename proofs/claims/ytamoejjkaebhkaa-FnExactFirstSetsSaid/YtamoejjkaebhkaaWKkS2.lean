/-
  WALKS: spec's chapter 11: FirstSets, AreFaceCounts.
-/
import Derived.Test.YtamoejjkaebhkaaWKkS1
import Derived.Test.YtamoejjkaebhkaaWHS1
import Derived.Test.YtamoejjkaebhkaaWCnt1
import Derived.Deep.RegionHeld3
namespace Go.Proofs.Ytamoejjkaebhkaa
open Go.RowKit
open Sets Hn Kk

theorem fs_no (k m : Int) (h : ¬(0 ≤ k ∧ k ≤ 6 ∧ 0 ≤ m ∧ m ≤ chZ 6 k)) : fsZ k m = [] := by
  unfold fsZ
  rw [if_neg (fun e => h (by
    refine ⟨e.1, e.2.1, e.2.2.1, ?_⟩
    unfold chZ
    rw [if_pos (by omega)]
    exact e.2.2.2))]

theorem chooseZ_b (n k z : Int) (hz : chZ n k = z) (w : World) : Calls Try.prog 27 #[.int .i64 n, .int .i64 k] w fun e w' => e = .returned (.int .i64 z) ∧ Below w.heap.size w w' := by
  subst hz; exact specChooseZ_any n k w

set_option maxRecDepth 100000 in
set_option maxHeartbeats 4000000 in
theorem specFirst_any (k m : Int) (w : World) : Calls Try.prog 24 #[.int .i64 k, .int .i64 m] w fun e w' => ∃ v, e = .returned v ∧ OwnInts w' w.heap.size v (fsZ k m) ∧ Below w.heap.size w w' := by
  obtain ⟨i0, hi, hz0, hz1, hz2⟩ := info_parts info_int
  have HO0 := Lib.hid (OwnInts.lit w w.heap.size [] (Nat.le_refl _) (by simp))
  have HB0 : Hid (Below w.heap.size w (w.alloc (.cells #[] 3))) := Lib.hid ((Below.refl _ _).alloc (Nat.le_refl _) _)
  cases h1 : inB 0 6 k with
  | false =>
    have e : fsZ k m = [] := fs_no k m (fun e => by
      have : inB 0 6 k = true := by rw [inB_iff]; omega
      rw [h1] at this; cases this)
    rw [e]
    have H1 := Lib.hid h1
    clear h1
    go_enter Try.func24, Try.ntmps24
    go_wp2_with fail
    refine (in_b _ _ _ false H1.out _).mono ?_
    rintro e w' ⟨rfl, rfl⟩
    go_wp2
    go_ret
    exact ⟨_, rfl, HO0.out, HB0.out⟩
  | true =>
    obtain ⟨z, hz⟩ : ∃ z, chZ 6 k = z := ⟨_, rfl⟩
    have HZ := Lib.hid hz
    cases h2 : inB 0 z m with
    | false =>
      have e : fsZ k m = [] := fs_no k m (fun e => by
        have : inB 0 z m = true := by rw [inB_iff, ← hz]; omega
        rw [h2] at this; cases this)
      rw [e]
      have H1 := Lib.hid h1
      have H2 := Lib.hid h2
      clear h1 h2 hz
      go_enter Try.func24, Try.ntmps24
      go_wp2_with fail
      refine (in_b _ _ _ true H1.out _).mono ?_
      rintro e w' ⟨rfl, rfl⟩
      go_wp2_with fail
      refine (chooseZ_b 6 k z HZ.out _).mono ?_
      rintro e w1 ⟨rfl, hb⟩
      have HB1 : Hid (Below w.heap.size w w1) := HB0.out.trans (hb.mono HB0.out.size)
      have HO1 := Lib.hid (OwnInts.keeps HO0.out hb)
      clear hb
      go_wp2_with fail
      refine (in_b _ _ _ false H2.out _).mono ?_
      rintro e w' ⟨rfl, rfl⟩
      go_wp2
      go_ret
      exact ⟨_, rfl, HO1.out, HB1.out⟩
    | true =>
      have H1 := Lib.hid h1
      have H2 := Lib.hid h2
      rw [inB_iff] at h1 h2
      obtain ⟨K, rfl⟩ : ∃ K : Nat, k = (K : Int) := ⟨k.toNat, by omega⟩
      obtain ⟨M, rfl⟩ : ∃ M : Nat, m = (M : Int) := ⟨m.toNat, by omega⟩
      have hK : K ≤ 6 := by omega
      have hzc : z = (ch 6 K : Int) := by
        rw [← hz]
        unfold chZ
        rw [if_pos (by omega)]; rfl
      have hM : M ≤ ch 6 K := by omega
      have hM20 := ch_few 6 K (by decide)
      have HFS : Hid (fsZ (K : Int) (M : Int) = ofN (firstN K M)) := by
        have : fsZ (K : Int) (M : Int) = ofN (firstN K M) := fsZ_in hK hM
        exact this
      have HTAKE := Lib.hid (fun s hs hl he => @fl_take K s M hK hs hl he)
      have hM2 : M ≤ 20 := by omega
      rw [HFS.out]
      clear h1 h2 hz hzc hM hM20
      go_enter Try.func24, Try.ntmps24
      go_wp2_with fail
      refine (in_b _ _ _ true H1.out _).mono ?_
      rintro e w' ⟨rfl, rfl⟩
      go_wp2_with fail
      refine (chooseZ_b 6 (K : Int) z HZ.out _).mono ?_
      rintro e w1 ⟨rfl, hb⟩
      have HB1 : Hid (Below w.heap.size w w1) := HB0.out.trans (hb.mono HB0.out.size)
      have HO1 := Lib.hid (OwnInts.keeps HO0.out hb)
      clear hb HB0 HO0
      go_wp2_with fail
      refine (in_b _ _ _ true H2.out _).mono ?_
      rintro e w' ⟨rfl, rfl⟩
      go_wp2
      go_loopw [5, 6] (fun v iv wr => ∃ (s l cc : Nat) (aa : Option Addr), s ≤ 64 ∧ iv = .int .i64 (s : Int) ∧ v = .slice aa l cc ∧ (fl K s).length = l ∧ l ≤ M ∧ OwnInts wr w.heap.size (.slice aa l cc) (ofN (fl K s)) ∧ Below w.heap.size w wr) (fun _ iv _ => 64 - (intOf iv).toNat)
      case atStart => exact ⟨0, 0, _, _, by omega, rfl, rfl, rfl, by omega, HO1.out, HB1.out⟩
      case round =>
        clear HO1 HB1
        obtain ⟨s, l, cc, aa, hs, rfl, rfl, hl, hlM, hO, hB⟩ := hrel
        have HO := Lib.hid hO
        have HB := Lib.hid hB
        have HL := Lib.hid hl
        clear hO hB hl
        by_cases hs64 : s = 64
        · subst hs64
          have HE : Hid (firstN K M = fl K 64) := by
            have : firstN K M = fl K 64 := HTAKE.out 64 (by omega) (by rw [HL.out]; exact hlM) (.inl rfl)
            exact this
          go_wp2
          go_ret
          exact ⟨_, rfl, by rw [HE.out]; exact HO.out, HB.out⟩
        · have hds : decide (s < 64) = true := by simp; omega
          by_cases hlm : l = M
          · have HE : Hid (firstN K M = fl K s) := by
              have : firstN K M = fl K s := HTAKE.out s (by omega) (by rw [HL.out]; exact hlM) (.inr (by rw [HL.out]; exact hlm))
              exact this
            have hdl : decide (l < M) = false := by simp; omega
            clear hlm
            go_wp2
            go_ret
            exact ⟨_, rfl, by rw [HE.out]; exact HO.out, HB.out⟩
          · have hdl : decide (l < M) = true := by simp; omega
            have hs6 : s < 64 := by omega
            obtain ⟨p, hp⟩ : ∃ p, pc s = p := ⟨_, rfl⟩
            have HP := Lib.hid hp
            have HSZ := Lib.hid (fun W => l2Size_b s p hp hs6 W)
            clear hp
            by_cases hpk : p = K
            · subst hpk
              have HN : Hid (fl p (s + 1) = fl p s ++ [s]) := by
                have : fl p (s + 1) = fl p s ++ [s] := fl_hit HP.out
                exact this
              have HO2 : Hid (wr.ownsRow w.heap.size 3 1 (.slice aa l cc) l ((ofN (fl p s)).map (Value.int .i64))) := by
                have h := HO.out
                unfold OwnInts at h
                rw [ofN_length, HL.out] at h
                exact h
              have hsz := HB.out.size
              go_wp2_with fail
              refine (HSZ.out _).mono ?_
              rintro e w' ⟨rfl, rfl⟩
              go_wp2_with (at_builtin; refine wpList_append_own_at _ rfl _ _ 26 rfl w.heap.size 3 i0 (.int .i64 0) 1 8 Try.underlying26 hi hz0 hz1 hz2 rfl (by decide) _ _ _ rfl (HO2.out.alloc _) ⟨wr.heap.size, 0, none⟩ 1 1 [.int .i64 (s : Int)] rfl rfl ?c1 ?c2 ?c3 ?c4 ?c5 ?_)
              case c1 => intro q u hq; exact Mem.cell_new wr _ _ q u hq
              case c2 => intro u hu; simp at hu; subst hu; rfl
              case c3 => unfold maxLen; omega
              case c4 => omega
              case c5 => simp; omega
              intro v' w3 hown1 hgrow _ hob
              have hB3 : Below w.heap.size w w3 := (HB.out.alloc hsz _).grown hgrow (by simp; omega) (fun g hg => (HO2.out.lt g hg).1)
              have hFL : (fl p (s + 1)).length = l + 1 := by rw [HN.out, List.length_append, HL.out]; rfl
              have hO3 : OwnInts w3 w.heap.size v' (ofN (fl p (s + 1))) := by
                rw [HN.out, ofN_snoc]
                unfold OwnInts
                rw [List.length_append, List.map_append, ofN_length, HL.out]
                exact hown1
              obtain ⟨a2, c2, _, rfl, _⟩ := OwnInts.ata hO3 hB3.size
              rw [ofN_length, hFL] at hO3
              rw [ofN_length, hFL]
              have HFL := Lib.hid hFL
              have HO3 := Lib.hid hO3
              have HB3 := Lib.hid hB3
              clear hown1 hgrow hob hO3 hB3 hFL
              go_wp2
              go_roundw
              case rel => exact ⟨s + 1, l + 1, c2, a2, by omega, by go_num, rfl, HFL.out, by omega, HO3.out, HB3.out⟩
              case measure => simp [intOf]; omega
            · have HN : Hid (fl K (s + 1) = fl K s) := by
                have : fl K (s + 1) = fl K s := fl_miss (by rw [HP.out]; exact hpk)
                exact this
              have hdk : ((p : Int) == (K : Int)) = false := by rw [beq_eq_false_iff_ne]; omega
              go_wp2_with fail
              refine (HSZ.out _).mono ?_
              rintro e w' ⟨rfl, rfl⟩
              go_wp2
              go_roundw
              case rel => exact ⟨s + 1, l, cc, aa, by omega, by go_num, rfl, by rw [HN.out]; exact HL.out, hlM, by rw [HN.out]; exact HO.out, HB.out⟩
              case measure => simp [intOf]; omega

end Go.Proofs.Ytamoejjkaebhkaa
