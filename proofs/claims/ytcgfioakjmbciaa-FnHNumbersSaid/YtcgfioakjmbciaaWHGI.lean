/-
  WALKS: GNumbers of impl (written by gengn.py).
-/
import Derived.Test.YtcgfioakjmbciaaWHI3
import Derived.Deep.RegionLaw
import Derived.Deep.AppendLies
namespace Go.Proofs.Ytcgfioakjmbciaa
open Go.RowKit
open Sets Hn

set_option maxRecDepth 100000 in
set_option maxHeartbeats 4000000 in
theorem implG_any (n : Int) (a : Option Addr) (c : Nat) (xs : List Int) (hcap : xs.length ≤ c) (hlen : xs.length ≤ 1099511627776) (w : World) (h : Ints w a xs) :
    Calls Try.prog 15 #[cx n (.slice a xs.length c)] w fun e w' => ∃ v, e = .returned v ∧ OwnInts w' w.heap.size v (gnum (hnum n xs)) ∧ Below w.heap.size w w' := by
  obtain ⟨i0, hi, hz0, hz1, hz2⟩ := info_parts info_int
  have hb0 : Below w.heap.size w (w.alloc (Obj.cells #[Value.int IntKind.i64 n, Value.slice a xs.length c] 26)) := (Below.refl _ _).alloc (Nat.le_refl _) _
  have htwo := (Two.new w (.int .i64 n) (.slice a xs.length c) 26)
  have H := Lib.hid (h.keeps hb0)
  have HB0 := Lib.hid hb0
  have HT := Lib.hid htwo
  clear h hb0 htwo
  have hl7 := hnum_le7 n xs
  have HNR := Lib.hid (near_at (hnum_near n xs))
  obtain ⟨L, hL⟩ : ∃ L, hnum n xs = L := ⟨_, rfl⟩
  have HLL := Lib.hid hL
  rw [hL] at hl7 HNR
  rw [hL]
  clear hL
  go_enter Try.func15, Try.ntmps15
  obtain ⟨t0, t1, t2, _, _⟩ := HT.out
  go_wp2_with fail
  refine (implH_any n _ _ xs hcap hlen _ H.out).mono ?_
  rw [HLL.out]
  rintro e w1 ⟨v1, rfl, hO1, hb1⟩
  obtain ⟨a1, d1, g1, rfl, hg1, hr1⟩ := hO1.at
  have HB1 : Hid (Below w.heap.size w w1) := HB0.out.trans (hb1.mono HB0.out.size)
  have HR1 := Lib.hid hr1.ints
  have hz1w := HB1.out.size
  clear hO1 hr1 hb1 t0 t1 t2 HB0 HT H hg1
  by_cases h0 : L.length = 0
  · obtain rfl := List.eq_nil_of_length_eq_zero h0
    simp only [List.length_nil]
    go_wp2
    go_ret
    exact ⟨_, rfl, OwnInts.nil _ _, HB1.out⟩
  · obtain ⟨l, hl⟩ : ∃ l, L.length = l := ⟨_, rfl⟩
    have hl0 : 1 ≤ l := by omega
    have hg0 : gto L ((l - 1) / 2) = gnum L := by rw [← gto_end L (by omega), hl]
    have HG0 := Lib.hid hg0
    have HLN := Lib.hid hl
    rw [hl] at hl7 ⊢
    obtain ⟨q, hqq⟩ : ∃ q, (l - 1) / 2 = q := ⟨_, rfl⟩
    have hz : ((l : Int) == 0) = false := by simp; omega
    have HQQ := Lib.hid hqq
    rw [hqq] at HG0
    have hq3 : q ≤ 3 := by omega
    have HQ2 : Hid (2 * q + 1 ≤ l) := by
      have : 2 * q + 1 ≤ l := by omega
      exact this
    clear hg0 hl h0 hqq
    go_wp2
    go_loopw [4, 5] (fun v i wr => ∃ k gg cc : Nat, k ≤ q ∧ i = .int .i64 ((k + 1 : Nat) : Int) ∧ v = .slice (some ⟨gg, 0, none⟩) (k + 1) cc ∧ OwnInts wr w1.heap.size (.slice (some ⟨gg, 0, none⟩) (k + 1) cc) (gto L k) ∧ Below w1.heap.size w1 wr) (fun _ i _ => 4 - (intOf i).toNat)
    case atStart => exact ⟨0, _, _, by omega, rfl, rfl, OwnInts.lit w1 w1.heap.size [1] (by simp) (by simp), (Below.refl _ _).alloc (Nat.le_refl _) _⟩
    case round =>
      obtain ⟨k, gg, cc, hk, rfl, rfl, hO, hB⟩ := hrel
      have HB := Lib.hid hB
      have hsz := hB.size
      by_cases hlt : k < q
      · have hd : decide ((k : Int) + 1 ≤ ((l : Int) - 1) / 2) = true := by
          have := HQQ.out
          simp; omega
        have HO : Hid (wr.ownsRow w1.heap.size 3 1 (.slice (some ⟨gg, 0, none⟩) (k + 1) cc) (k + 1) ((gto L k).map (Value.int .i64))) := by
          have h := hO
          unfold OwnInts at h
          rw [gto_length] at h
          exact h
        have h1 := (HR1.out.keeps hB) k (by rw [HLN.out]; have := HQ2.out; omega)
        have h2 := (HR1.out.keeps hB) (k + 1) (by rw [HLN.out]; have := HQ2.out; omega)
        obtain ⟨b1, o1, rfl, g1⟩ := h1
        obtain ⟨b2, o2, e2, g2⟩ := h2
        injection e2 with e2
        injection e2 with e2 e3
        subst e2 e3
        obtain ⟨x, hx⟩ : ∃ x, L.getD k 0 = x := ⟨_, rfl⟩
        obtain ⟨y, hy⟩ : ∃ y, L.getD (k + 1) 0 = y := ⟨_, rfl⟩
        have hx2 := HNR.out k
        have hy2 := HNR.out (k + 1)
        rw [hx] at g1 hx2
        rw [hy] at g2 hy2
        have HN1 : Hid (gto L (k + 1) = gto L k ++ [y - x]) := by
          have : gto L (k + 1) = gto L k ++ [y - x] := by rw [gto_next, hx, hy]
          exact this
        have hbg : ∀ g, (Value.slice (some ⟨gg, 0, none⟩) (k + 1) cc).ownBlock = some g → w1.heap.size ≤ g := fun g hg => (HO.out.lt g hg).1
        have HBG := Lib.hid hbg
        have hkl : k + 1 < l := by have := HQ2.out; omega
        have hkl1 : k < l := by omega
        have hklz : (k : Int) < (l : Int) := by omega
        have hklz1 : (k : Int) + 1 < (l : Int) := by omega
        have h01 : (0 : Int) ≤ (k : Int) + 1 := by omega
        have hwk : IntKind.i64.wrap (k : Int) = (k : Int) := IntWalk.i64_in _ (by omega)
        have HWX : Hid (IntKind.i64.wrap (y - x) = y - x) := by
          have : IntKind.i64.wrap (y - x) = y - x := IntWalk.i64_in _ (by omega)
          exact this
        clear hO hx hy hbg
        go_wp2_with fail
        go_region_law (refine step_append_lies _ (by rfl) _ _ _ (by rfl) w1.heap.size 3 i0 (.int .i64 0) 1 8 Try.underlying24 hi hz0 hz1 hz2 rfl (by omega) (.slice (some ⟨gg, 0, none⟩) (k + 1) cc) (k + 1) (List.map (Value.int IntKind.i64) (gto L k)) (by rfl) ((HO.out.alloc _).drew) ⟨wr.heap.size, 0, none⟩ 1 1 [.int .i64 (IntKind.i64.wrap (y - x))] (by rfl) (by rfl) (World.news_of_block (cs := #[.int .i64 (IntKind.i64.wrap (y - x))]) (t := 3) (fr := (0, 0)) (heap_alloc_new wr _)) (by simp [Value.oneCell']) (by omega) (by unfold maxLen; omega) (by omega) (by simp; omega) (wr.heap.size + 1) (by simp) ?_; intro gg2 cap w3 hown1 hgrow hat hlt3)
        all_goals
          have hB3 : Below w1.heap.size w1 w3 := ((HB.out.drew).alloc hsz _).grown hgrow (by simp; omega) HBG.out
          have hO3 : OwnInts w3 w1.heap.size (.slice (some ⟨gg2, 0, none⟩) (k + 1 + 1) cap) (gto L (k + 1)) := by
            unfold OwnInts
            rw [HN1.out, List.length_append, List.map_append, gto_length]
            rw [HWX.out] at hown1
            exact hown1
          have HO3 := Lib.hid hO3
          have HB3 := Lib.hid hB3
          clear hown1 hgrow hat hO3 hB3
          go_wp2
          go_roundw
          case rel => exact ⟨k + 1, gg2, cap, by omega, by go_num, rfl, HO3.out, HB3.out⟩
          case measure => simp [intOf]; omega
      · have hd : decide ((k : Int) + 1 ≤ ((l : Int) - 1) / 2) = false := by
          have := HQQ.out
          simp; omega
        have E := Lib.hid (show k = q by omega)
        go_wp2
        go_ret
        have h2 := hO.lower hz1w
        rw [E.out, HG0.out] at h2
        refine ⟨_, rfl, ?_, HB1.out.trans (HB.out.mono hz1w)⟩
        have h3 : (gnum L).length = q + 1 := by rw [← HG0.out, gto_length]
        rw [E.out, ← h3]
        rw [← h3] at h2
        exact h2

end Go.Proofs.Ytcgfioakjmbciaa
