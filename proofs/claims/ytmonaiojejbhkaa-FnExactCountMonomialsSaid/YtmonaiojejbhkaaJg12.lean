/-
  TEXTS of one claim, put together: WCnt5, WKkS1, WCur, StrRow.
-/
import Derived.Test.YtmonaiojejbhkaaJg11
import Derived.StillTailTactics
import Derived.Test.YtmonaiojejbhkaaJg6
import Derived.IntWalk
import Derived.Test.YtmonaiojejbhkaaJg0
import Derived.Test.YtmonaiojejbhkaaProg
import Derived.WalkKit
import Derived.WalkLawsBesides
import Derived.Outline
import Derived.Lib.Hide
import Derived.Deep.QuietTactic
import Derived.BigQuiet
import Derived.WalkSmall
import Derived.Laws.Bits64
import Derived.Deep.DeepCutAuto
/-! WALKS of chapter 4: EulerOf, FacesOfSize and FaceCounts by spec. -/

namespace Go.Proofs.Ytmonaiojejbhkaa
open Go.RowKit
open Sets

/-- What writes into another row leave. -/
theorem IntsAt.away {w w' : World} {g : Nat} {row : Option Nat} {a : Option Addr} {xs : List Int} (h : IntsAt w g a xs) (hg : w.grownBy w' row) (hne : row ≠ some g) : IntsAt w' g a xs := fun j hj => by
  obtain ⟨e, hl, hc, hf⟩ := h j hj
  have hb := hg.block g hl (Ne.symm hne)
  have := hg.size
  exact ⟨e, by omega, by rw [World.cell?_of_block (w := w) (w' := w') (a := ⟨g, j, none⟩) hb]; exact hc, by rw [World.frozen?_of_block (w := w) (w' := w') (a := ⟨g, j, none⟩) hb]; exact hf⟩

theorem OwnInts.put {w : World} {base g c : Nat} {xs : List Int} (h : OwnInts w base (.slice (some ⟨g, 0, none⟩) xs.length c) xs) (j : Nat) (x : Int) :
    OwnInts (w.setCell ⟨g, j, none⟩ (.int .i64 x)) base (.slice (some ⟨g, 0, none⟩) (xs.set j x).length c) (xs.set j x) := by
  unfold OwnInts at *
  rw [List.length_set, List.map_set]
  exact (World.ownsRow.stored h j _).1

theorem wp_region_tail {P : Program} {id : Nat} {Q : Exit → Act → World → Prop} {a : Act} {w : World} {l : List Oper} (n : Nat) (hm : P.follows .mixedOrders = true) (hB : Region.lexTailB .any l.toArray n = true)
    (h : wpStill P l.toArray w.drew (fun a' => wpList P l.toArray Q (l.drop n) a' w.drew) (l.take n) a) : (Code.region id l.toArray true).wp P Q a w := wp_region_still_tail n hm hB h

/-- The length that a slice value bears. -/
def lenOf : Value → Nat | .slice _ n _ => n | _ => 0

/-- The counts so far, with m rows. -/
def cntsTo (m : Nat) (L : List Int) : List Int := (cnts L).take m
theorem cntsTo_length (m : Nat) (L : List Int) (h : m ≤ 7) : (cntsTo m L).length = m := by unfold cntsTo; rw [List.length_take, cnts_length]; omega
theorem cntsTo_at (m : Nat) (L : List Int) (h : m ≤ 7) (j : Nat) (hj : j < m) : (cntsTo m L).getD j 0 = (cnt j L : Int) := by
  unfold cntsTo; rw [List.getD, List.getElem?_take_of_lt hj, ← List.getD_eq_getElem?_getD, cnts_at L j (by omega)]
theorem cntsTo_zero (L : List Int) : cntsTo 0 L = [] := rfl
theorem cntsTo_next (m : Nat) (L : List Int) (h : m < 7) (h0 : cnt m L = 0) : cntsTo (m + 1) L = cntsTo m L ++ [0] := by
  unfold cntsTo
  rw [take_nx _ _ (by rw [cnts_length]; exact h), cnts_at L m h, h0]; rfl
theorem cntsTo_set (m : Nat) (L : List Int) (k p : Nat) (h : k < L.length) (hp : pc (L.getD k 0).toNat = p) : (cntsTo m (L.take k)).set p ((cnt p (L.take k) : Int) + 1) = cntsTo m (L.take (k + 1)) := by
  unfold cntsTo
  rw [← cnts_set L k p h hp, List.take_set]

set_option maxRecDepth 100000 in
set_option maxHeartbeats 4000000 in
theorem specCounts_any (n : Int) (a : Option Addr) (c : Nat) (xs : List Int) (hlen : xs.length ≤ 1099511627776) (w : World) (h : Ints w a xs) :
    Calls Try.prog 61 #[cx n (.slice a xs.length c)] w fun e w' => ∃ v, e = .returned v ∧ OwnInts w' w.heap.size v (counts (faces n xs)) ∧ Below w.heap.size w w' := by
  obtain ⟨i0, hi, hz0, hz1, hz2⟩ := info_parts info_int
  have hb0 : Below w.heap.size w ((w.alloc (Obj.cells #[Value.int IntKind.i64 n, Value.slice a xs.length c] 33)).alloc (.cells #[] 3)) := ((Below.refl _ _).alloc (Nat.le_refl _) _).alloc (by simp) _
  have hO0 := OwnInts.lit (w.alloc (Obj.cells #[Value.int IntKind.i64 n, Value.slice a xs.length c] 33)) w.heap.size [] (by simp) (by simp)
  have htwo := (Two.new w (.int .i64 n) (.slice a xs.length c) 33).alloc (.cells #[] 3)
  have H := Lib.hid (h.keeps hb0)
  have HB0 := Lib.hid hb0
  have HO0 := Lib.hid hO0
  have HT := Lib.hid htwo
  clear h hb0 hO0 htwo
  have hle := faces_le n xs
  have HFA := Lib.hid (faces_at n xs)
  obtain ⟨L, hL⟩ : ∃ L, faces n xs = L := ⟨_, rfl⟩
  have HLL := Lib.hid hL
  rw [hL] at hle HFA
  clear hL
  go_enter Try.func61, Try.ntmps61
  obtain ⟨t0, t1, t2, _, _⟩ := HT.out
  go_wp2_with fail
  refine (specFaces_any n _ _ xs hlen _ H.out).mono ?_
  rw [HLL.out]
  rintro e w1 ⟨v1, rfl, hO1, hb1⟩
  obtain ⟨a1, d1, g1, rfl, hg1, hr1⟩ := hO1.at
  have HB1 : Hid (Below w.heap.size w w1) := HB0.out.trans (hb1.mono HB0.out.size)
  have HR1 := Lib.hid hr1
  have HO1 := Lib.hid (OwnInts.keeps HO0.out hb1)
  have hz1w := HB1.out.size
  rw [World.size_alloc] at HO1
  simp only [World.size_alloc] at hg1
  clear hO1 hr1 hb1 t0 t1 t2
  go_wp2
  have hne1 : (Value.slice (some ⟨w.heap.size + 1, 0, none⟩) 0 0).ownBlock ≠ some g1 := by simp only [Value.ownBlock, ne_eq, Option.some.injEq]; omega
  go_loopw [3, 5] (fun v i wr => ∃ k : Nat, k ≤ L.length ∧ i = .int .i64 (k : Int) ∧ OwnInts wr w.heap.size v (cntsTo (top (L.take k)) (L.take k)) ∧ Below w.heap.size w wr ∧ IntsAt wr g1 a1 L ∧ v.ownBlock ≠ some g1) (fun _ i _ => L.length - (intOf i).toNat)
  case atStart => exact ⟨0, Nat.zero_le _, rfl, HO1.out, HB1.out, HR1.out, hne1⟩
  case round =>
    clear hne1 HO1 HB1 HR1
    obtain ⟨k, hk, rfl, hO, hB, hR, hne⟩ := hrel
    obtain ⟨wo, rfl⟩ : ∃ wo : World, wo = wr := ⟨_, rfl⟩
    by_cases hlt : k < L.length
    · obtain ⟨t, ht, ht64⟩ := HFA.out k hlt
      have HOA := Lib.hid hO
      have HBA := Lib.hid hB
      have HRA := Lib.hid hR
      have HNE := Lib.hid hne
      have hltk : decide ((k : Int) < (L.length : Int)) = true := by simpa using hlt
      have hcl := cnt_le (pc t) (L.take k)
      rw [List.length_take, Nat.min_eq_left hk] at hcl
      have htk := top_take L k hlt
      rw [ht] at htk
      have e2 : (t : Int).toNat = t := rfl
      rw [e2] at htk
      have HTK := Lib.hid htk
      have HSET := Lib.hid (fun m => cntsTo_set m L k (pc t) hlt (by rw [ht]; rfl))
      have HT2 := Lib.hid ht
      have ht7 := top_le (L.take k)
      have HGE := Lib.hid (ge_top (L.take k))
      have hp7 := pc_le t
      obtain ⟨p, hp⟩ : ∃ p, pc t = p := ⟨_, rfl⟩
      rw [hp] at hp7 hcl HTK HSET
      have HP := Lib.hid hp
      obtain ⟨T0, hT0⟩ : ∃ T0, top (L.take k) = T0 := ⟨_, rfl⟩
      rw [hT0] at HTK HOA ht7 HGE
      clear hO hB hR hne ht htk e2 hp hT0
      go_wp2
      go_loopw [3] (fun v wr => ∃ m : Nat, m ≤ max T0 (p + 1) ∧ T0 ≤ m ∧ OwnInts wr w.heap.size v (cntsTo m (L.take k)) ∧ Below w.heap.size w wr ∧ IntsAt wr g1 a1 L ∧ v.ownBlock ≠ some g1) (fun v _ => 7 - lenOf v)
      case atStart => exact ⟨T0, Nat.le_max_left _ _, Nat.le_refl _, HOA.out, HBA.out, HRA.out, HNE.out⟩
      case round =>
        clear HOA HBA HRA HNE
        obtain ⟨m, hm, hTm, hO, hB, hR, hne⟩ := hrel
        have hm7 : m ≤ 7 := by omega
        obtain ⟨ao, co, go, rfl, hco, hgo, hro, _⟩ := OwnInts.ata hO hB.size
        have hlm := cntsTo_length m (L.take k) hm7
        rw [hlm] at hco
        have HO := Lib.hid hO
        unfold OwnInts at HO
        rw [hlm] at HO hne ⊢
        have HR := Lib.hid hR
        have HNE := Lib.hid hne
        have HRO := Lib.hid hro
        have HLM := Lib.hid hlm
        have hsz := hB.size
        obtain ⟨ea, hg1l, hc1, _⟩ := HR.out k hlt
        rw [HT2.out] at hc1
        obtain rfl := ea
        clear hO hR hne hro hlm
        by_cases hmp : m ≤ p
        · have h0 : Hid (cntsTo (m + 1) (L.take k) = cntsTo m (L.take k) ++ [0]) := by
            have : cntsTo (m + 1) (L.take k) = cntsTo m (L.take k) ++ [0] := cntsTo_next m _ (by omega) (HGE.out m hTm)
            exact this
          go_wp2_with fail
          refine (l2Size_b t _ HP.out ht64 _).mono ?_
          rintro e w' ⟨rfl, rfl⟩
          go_wp2_with (at_builtin; refine wpList_append_own_at _ rfl _ _ 26 rfl w.heap.size 3 i0 (.int .i64 0) 1 8 Try.underlying26 hi hz0 hz1 hz2 rfl (by decide) _ _ _ rfl (HO.out.alloc _) ⟨wr.heap.size, 0, none⟩ 1 1 [.int .i64 0] rfl rfl ?c1 ?c2 ?c3 ?c4 ?c5 ?_)
          case c1 => intro j u hj; exact Mem.cell_new wr _ _ j u hj
          case c2 => intro u hu; simp at hu; subst hu; rfl
          case c3 => unfold maxLen; omega
          case c4 => omega
          case c5 => simp; omega
          intro v' w3 hown1 hgrow _ hob
          have hB3 : Below w.heap.size w w3 := (hB.alloc hsz _).grown hgrow (by simp; omega) (fun g hg => (HO.out.lt g hg).1)
          have hR3 := IntsAt.away (HR.out.keeps ((Below.refl _ _).alloc (Nat.le_refl _) _)) hgrow HNE.out
          have hn3 : v'.ownBlock ≠ some g1 := by
            rcases hob with e | e
            · rw [e]; exact HNE.out
            · rw [e]; simp; omega
          have hO3 : OwnInts w3 w.heap.size v' (cntsTo (m + 1) (L.take k)) := by
            rw [h0.out]
            unfold OwnInts
            rw [List.length_append, List.map_append, HLM.out]
            exact hown1
          have hlv : lenOf v' = m + 1 := by
            obtain ⟨_, _, _, hv, _⟩ := OwnInts.ata hO3 hB3.size
            rw [hv]; exact cntsTo_length _ _ (by omega)
          have HO3 := Lib.hid hO3
          have HR3 := Lib.hid hR3
          have HN3 := Lib.hid hn3
          have HLV := Lib.hid hlv
          clear hown1 hgrow hob hR3 hn3 hO3 hlv
          go_wp2
          go_roundw
          case rel => exact ⟨m + 1, by omega, by omega, HO3.out, hB3, HR3.out, HN3.out⟩
          case measure => rw [HLV.out]; simp [lenOf]; omega
        · have hpm : p < m := by omega
          have hpm' : ¬ (m : Int) ≤ (p : Int) := by omega
          have hmx : max T0 (p + 1) = m := by omega
          obtain ⟨ea, hgl, hc2, hf2⟩ := HRO.out p (by rw [HLM.out]; exact hpm)
          rw [cntsTo_at m (L.take k) hm7 p hpm] at hc2
          obtain rfl := ea
          obtain ⟨z, hz⟩ : ∃ z, cnt p (L.take k) = z := ⟨_, rfl⟩
          rw [hz] at hc2 hcl
          have hS := HSET.out m
          rw [hz] at hS
          have hP := OwnInts.put (w := wr) (base := w.heap.size) (g := go) (c := co) (xs := cntsTo m (L.take k)) (by unfold OwnInts; rw [HLM.out]; exact HO.out) p ((z : Int) + 1)
          rw [hS, cntsTo_length m _ hm7] at hP
          have hgne : go ≠ g1 := fun e => HNE.out (by rw [e]; rfl)
          have HGNE := Lib.hid hgne
          have HPU := Lib.hid hP
          have hTn : top (L.take (k + 1)) = m := by rw [HTK.out, hmx]
          have HTN := Lib.hid hTn
          have hB4 : Below w.heap.size w (wr.setCell ⟨go, p, none⟩ (.int .i64 ((z : Int) + 1))) := hB.setCell hgo _
          have hR4 : IntsAt (wr.setCell ⟨go, p, none⟩ (.int .i64 ((z : Int) + 1))) g1 (some ⟨g1, 0, none⟩) L := HR.out.far (Mem.but_setCell _ _ _ _) (Ne.symm hgne)
          have HB4 := Lib.hid hB4
          have HR4 := Lib.hid hR4
          clear hmx hz hS hP hgne hTn hpm' hB4 hR4
          go_wp2_with fail
          refine (l2Size_b t _ HP.out ht64 _).mono ?_
          rintro e w' ⟨rfl, rfl⟩
          go_wp2_with fail
          refine wp_region_tail 16 (by kernel_rfl) (by kernel_rfl) ?_
          simp only [List.take_succ_cons, List.take_zero, List.drop_succ_cons, List.drop_zero]
          repeat (first | still_step | still_call ((l2Size_b t p HP.out ht64 _).mono fun _ _ ⟨he, hw⟩ => ⟨he, hw.symm⟩))
          refine wpStill_nil ?_
          go_wp2
          go_roundw
          case rel => exact ⟨k + 1, by omega, by go_num, by rw [HTN.out]; exact HPU.out, HB4.out.drew, HR4.out, (fun e => HGNE.out (by simpa [Value.ownBlock] using e))⟩
          case measure => simp [intOf]; omega
    · have E := Lib.hid (show k = L.length by omega)
      have HO := Lib.hid hO
      clear hO hR hne
      go_wp2
      go_ret
      have h2 := HO.out
      rw [E.out, List.take_length] at h2
      exact ⟨_, rfl, by rw [HLL.out]; exact h2, hB⟩

end Go.Proofs.Ytmonaiojejbhkaa

/-! WALKS: spec's chapter 11: numbers of ways without bounds, cascades, ShadowBound (written by genkk1.py). -/

namespace Go.Proofs.Ytmonaiojejbhkaa
open Go.RowKit
open Sets Hn Kk

set_option maxRecDepth 100000 in
set_option maxHeartbeats 4000000 in
theorem l11Ch_any (n k : Nat) (hg : goodB n k) (w : World) : Calls Try.prog 51 #[.int .i64 (n : Int), .int .i64 (k : Int)] w fun e w' => e = .returned (.int .i64 (ch n k : Nat)) ∧ w = w' := by
  have hd0 : decide ((k : Int) < 0) = false := by simp
  by_cases hkn : n < k
  · have hd1 : decide (n < k) = true := by simpa using hkn
    rw [ch_gt n k hkn]
    go_enter Try.func51, Try.ntmps51
    go_wp2
    go_ret
    exact ⟨rfl, rfl⟩
  · have hd1 : decide (n < k) = false := by simpa using hkn
    have HG := Lib.hid (good_at hg)
    have hn1 : n ≤ 1001 := by unfold goodB at hg; omega
    have hk7 : k ≤ 7 := by unfold goodB at hg; omega
    clear hg
    go_enter Try.func51, Try.ntmps51
    go_wp2
    go_loop [5, 6] (fun v i => ∃ j : Nat, j ≤ k ∧ i = .int .i64 (j : Int) ∧ v = .int .i64 (ch n j : Nat)) (fun _ i => k - (intOf i).toNat)
    case atStart => exact ⟨0, Nat.zero_le _, rfl, by rw [ch_zero]; rfl⟩
    case round =>
      obtain ⟨j, hj, rfl, rfl⟩ := hrel
      by_cases hlt : j < k
      · have hs1 := ch_step n j (by omega)
        have hb1 := HG.out j (by omega)
        obtain ⟨y, hy⟩ : ∃ y, ch n (j + 1) = y := ⟨_, rfl⟩
        obtain ⟨x, hx⟩ : ∃ x, ch n j = x := ⟨_, rfl⟩
        rw [hy, hx] at hs1
        rw [hx] at hb1
        have HY := Lib.hid hy
        have HX := Lib.hid hx
        have hval : wrap64 ((wrap64 ((x : Int) * ((n : Int) - (j : Int)))).tdiv ((j : Int) + 1)) = (y : Int) := by
          have e1 : (n : Int) - (j : Int) = ((n - j : Nat) : Int) := by omega
          have e2 : (x : Int) * ((n - j : Nat) : Int) = ((y * (j + 1) : Nat) : Int) := by rw [hs1]; simp
          have hz : y * (j + 1) ≤ 4611686018427387904 := by
            rw [hs1]
            exact Nat.le_trans (Nat.mul_le_mul_left x (Nat.sub_le n j)) hb1
          have hyz : y ≤ y * (j + 1) := Nat.le_mul_of_pos_right y (by omega)
          have e3 : ((y * (j + 1) : Nat) : Int).tdiv ((j : Int) + 1) = (y : Int) := by
            have : ((y * (j + 1) : Nat) : Int) = (y : Int) * ((j : Int) + 1) := by simp
            rw [this]
            exact Int.mul_tdiv_cancel _ (by omega)
          rw [e1, e2]
          generalize y * (j + 1) = z at hz e3 hyz
          rw [IntWalk.wrap64_in (z : Int) (by omega), e3, IntWalk.wrap64_in (y : Int) (by omega)]
        have HV := Lib.hid hval
        clear hs1 hy hx hval hb1
        rw [HX.out]
        go_wp2
        refine ⟨⟨j + 1, by omega, by go_num, ?_⟩, by simp [intOf]; omega⟩
        rw [HV.out, HY.out]
      · have E := Lib.hid (show j = k by omega)
        go_wp2
        go_ret
        exact ⟨by rw [← E.out]; rfl, rfl⟩

/-- .. at numbers that are given as such. -/
theorem l11Ch_z (n k : Nat) (zn zk : Int) (hzn : zn = (n : Int)) (hzk : zk = (k : Int)) (x : Nat) (hx : ch n k = x) (hg : goodB n k) (w : World) : Calls Try.prog 51 #[.int .i64 zn, .int .i64 zk] w fun e w' => e = .returned (.int .i64 (x : Int)) ∧ w = w' := by
  subst hzn hzk hx
  exact l11Ch_any n k hg w

theorem fineB_iff (m k : Int) : fineB m k = true ↔ 0 ≤ m ∧ m ≤ 1000 ∧ 1 ≤ k ∧ k ≤ 6 := by
  unfold fineB
  rw [Bool.and_eq_true, decide_eq_true_eq, decide_eq_true_eq]
  omega
theorem fine_in (m k : Int) : fineB m k = (inB 0 1000 m && inB 1 6 k) := by
  rw [Bool.eq_iff_iff, fineB_iff, Bool.and_eq_true, inB_iff, inB_iff]
  omega

set_option maxRecDepth 100000 in
theorem fine_b (m k : Int) (b : Bool) (hb : fineB m k = b) (w : World) : Calls Try.prog 49 #[.int .i64 m, .int .i64 k] w fun e w' => e = .returned (.bool b) ∧ w = w' := by
  rw [fine_in] at hb
  cases h1 : inB 0 1000 m with
  | false =>
    have hb2 : b = false := by rw [← hb, h1]; rfl
    subst hb2
    have H1 := Lib.hid h1
    clear h1 hb
    go_enter Try.func49, Try.ntmps49
    go_wp2_with fail
    refine (in_b _ _ _ false H1.out _).mono ?_
    rintro e w' ⟨rfl, rfl⟩
    go_wp2
    go_ret
    exact ⟨rfl, rfl⟩
  | true =>
    have hb2 : inB 1 6 k = b := by rw [← hb, h1]; rfl
    have H1 := Lib.hid h1
    have H2 := Lib.hid hb2
    clear h1 hb hb2
    go_enter Try.func49, Try.ntmps49
    go_wp2_with fail
    refine (in_b _ _ _ true H1.out _).mono ?_
    rintro e w' ⟨rfl, rfl⟩
    go_wp2_with fail
    refine (in_b _ _ _ b H2.out _).mono ?_
    rintro e w' ⟨rfl, rfl⟩
    go_wp2
    go_ret
    exact ⟨rfl, rfl⟩

set_option maxRecDepth 100000 in
set_option maxHeartbeats 4000000 in
theorem l11Casc_any (m k : Nat) (hk1 : 1 ≤ k) (hk6 : k ≤ 6) (hm : m ≤ 1000) (w : World) :
    Calls Try.prog 50 #[.int .i64 (m : Int), .int .i64 (k : Int)] w fun e w' => ∃ v, e = .returned v ∧ OwnInts w' w.heap.size v (ofN (casc k m)) ∧ Below w.heap.size w w' := by
  obtain ⟨i0, hi, hz0, hz1, hz2⟩ := info_parts info_int
  obtain ⟨C, hC⟩ : ∃ C, casc k m = C := ⟨_, rfl⟩
  have HC := Lib.hid hC
  rw [hC]
  clear hC
  have HO0 := Lib.hid (OwnInts.lit w w.heap.size [] (Nat.le_refl _) (by simp))
  have HB0 : Hid (Below w.heap.size w (w.alloc (.cells #[] 3))) := Lib.hid ((Below.refl _ _).alloc (Nat.le_refl _) _)
  go_enter Try.func50, Try.ntmps50
  go_wp2
  go_loopw [0, 5, 6] (fun mv v iv wr => ∃ (i q : Nat) (D : List Nat) (aa : Option Addr) (cc l : Nat), i ≤ 6 ∧ q ≤ 1000 ∧ iv = .int .i64 (i : Int) ∧ mv = .int .i64 (q : Int) ∧ D ++ casc i q = C ∧ l + i = k ∧ v = .slice aa l cc ∧ D.length = l ∧ OwnInts wr w.heap.size (.slice aa l cc) (ofN D) ∧ Below w.heap.size w wr) (fun _ _ iv _ => (intOf iv).toNat)
  case atStart => exact ⟨k, m, [], _, _, 0, hk6, hm, rfl, rfl, HC.out, by omega, rfl, rfl, HO0.out, HB0.out⟩
  case round =>
    clear HO0 HB0
    obtain ⟨i, q, D, aa, cc, l, hi6, hq, rfl, rfl, hD, hli, rfl, hDl, hO, hB⟩ := hrel
    have HO := Lib.hid hO
    have HB := Lib.hid hB
    have HD := Lib.hid hD
    have HDL := Lib.hid hDl
    clear hO hB hD hDl
    by_cases hi0 : i = 0
    · subst hi0
      have HE : Hid (D = C) := by
        have : D = C := by rw [← HD.out, casc, List.append_nil]
        exact this
      go_wp2
      go_ret
      exact ⟨_, rfl, by rw [← HE.out]; exact HO.out, HB.out⟩
    · by_cases hq0 : q = 0
      · subst hq0
        have HE : Hid (D = C) := by
          have : D = C := by rw [← HD.out, casc_zero, List.append_nil]
          exact this
        have hdi : decide ((1 : Int) ≤ (i : Int)) = true := by simp; omega
        go_wp2
        go_ret
        exact ⟨_, rfl, by rw [← HE.out]; exact HO.out, HB.out⟩
      · have hdi : decide ((1 : Int) ≤ (i : Int)) = true := by simp; omega
        have hdq : decide (0 < q) = true := by simp; omega
        have hi1 : 1 ≤ i := by omega
        have HST : Hid (∀ a, ch a i ≤ q → q < ch (a + 1) i → i ≤ a → (D ++ [a]) ++ casc (i - 1) (q - ch a i) = C) := by
          have : ∀ a, ch a i ≤ q → q < ch (a + 1) i → i ≤ a → (D ++ [a]) ++ casc (i - 1) (q - ch a i) = C := fun a h1 h2 _ => by
            have hg := gr_unique hi1 (by omega) hq h1 h2
            rw [← HD.out]
            obtain ⟨I, rfl⟩ : ∃ I, i = I + 1 := ⟨i - 1, by omega⟩
            rw [casc, if_neg hq0, hg, List.append_assoc]
            rfl
          exact this
        have HGU := Lib.hid (fun a (h : ch a i ≤ q) => good_up i a q hi1 hi6 h hq)
        have HFULL := Lib.hid (ch_full i)
        clear hi0 hq0
        go_wp2
        go_loop [7] (fun v => ∃ a : Nat, v = .int .i64 (a : Int) ∧ i ≤ a ∧ ch a i ≤ q) (fun v => 1006 - (intOf v).toNat)
        case atStart => exact ⟨i, rfl, Nat.le_refl _, by rw [HFULL.out]; have := hdq; simp at this; omega⟩
        case round =>
          obtain ⟨a, rfl, hia, hca⟩ := hrel
          obtain ⟨hgd, ha, hgd2⟩ := HGU.out a hca
          obtain ⟨y, hy⟩ : ∃ y, ch (a + 1) i = y := ⟨_, rfl⟩
          obtain ⟨x, hx⟩ : ∃ x, ch a i = x := ⟨_, rfl⟩
          have HY := Lib.hid hy
          have HX := Lib.hid hx
          have HCALL : Hid (∀ W, Calls Try.prog 51 #[.int .i64 ((a : Int) + 1), .int .i64 (i : Int)] W fun e w' => e = .returned (.int .i64 (y : Int)) ∧ W = w') := by
            have : ∀ W, Calls Try.prog 51 #[.int .i64 ((a : Int) + 1), .int .i64 (i : Int)] W fun e w' => e = .returned (.int .i64 (y : Int)) ∧ W = w' := fun W => l11Ch_z (a + 1) i _ _ (by omega) rfl y hy hgd W
            exact this
          have HCALL2 : Hid (∀ W, Calls Try.prog 51 #[.int .i64 (a : Int), .int .i64 (i : Int)] W fun e w' => e = .returned (.int .i64 (x : Int)) ∧ W = w') := by
            have : ∀ W, Calls Try.prog 51 #[.int .i64 (a : Int), .int .i64 (i : Int)] W fun e w' => e = .returned (.int .i64 (x : Int)) ∧ W = w' := fun W => l11Ch_z a i _ _ rfl rfl x hx hgd2 W
            exact this
          rw [hx] at hca
          clear hy hx hgd hgd2
          by_cases hyq : y ≤ q
          · have hdy : decide (y ≤ q) = true := by simpa using hyq
            go_wp2_with fail
            refine (HCALL.out _).mono ?_
            rintro e w' ⟨rfl, rfl⟩
            go_wp2
            exact ⟨⟨a + 1, by go_num, by omega, by rw [HY.out]; exact hyq⟩, by simp [intOf]; omega⟩
          · have hdy : decide (y ≤ q) = false := by simpa using hyq
            have hst := HST.out a (by rw [HX.out]; exact hca) (by rw [HY.out]; omega) hia
            rw [HX.out] at hst
            have HST2 := Lib.hid hst
            have HO2 : Hid (wr.ownsRow w.heap.size 3 1 (.slice aa l cc) l ((ofN D).map (Value.int .i64))) := by
              have h := HO.out
              unfold OwnInts at h
              rw [ofN_length, HDL.out] at h
              exact h
            have hsz := HB.out.size
            clear hst
            go_wp2_with fail
            refine (HCALL.out _).mono ?_
            rintro e w' ⟨rfl, rfl⟩
            go_wp2_with (at_builtin; refine wpList_append_own_at _ rfl _ _ 26 rfl w.heap.size 3 i0 (.int .i64 0) 1 8 Try.underlying26 hi hz0 hz1 hz2 rfl (by decide) _ _ _ rfl (HO2.out.alloc _) ⟨wr.heap.size, 0, none⟩ 1 1 [.int .i64 (a : Int)] rfl rfl ?c1 ?c2 ?c3 ?c4 ?c5 ?_)
            case c1 => intro q u hq; exact Mem.cell_new wr _ _ q u hq
            case c2 => intro u hu; simp at hu; subst hu; rfl
            case c3 => unfold maxLen; omega
            case c4 => omega
            case c5 => simp; omega
            intro v' w3 hown1 hgrow _ hob
            have hB3 : Below w.heap.size w w3 := (HB.out.alloc hsz _).grown hgrow (by simp; omega) (fun g hg => (HO2.out.lt g hg).1)
            have hDN : (ofN (D ++ [a])).length = l + 1 := by rw [ofN_length, List.length_append, HDL.out]; rfl
            have hO3 : OwnInts w3 w.heap.size v' (ofN (D ++ [a])) := by
              rw [ofN_snoc]
              unfold OwnInts
              rw [List.length_append, List.map_append, ofN_length, HDL.out]
              exact hown1
            obtain ⟨a2, c2, _, rfl, _⟩ := OwnInts.ata hO3 hB3.size
            rw [hDN] at hO3
            rw [hDN]
            have HO3 := Lib.hid hO3
            have HB3 := Lib.hid hB3
            have HQI : Hid ((q : Int) - (x : Int) = ((q - x : Nat) : Int)) := by
              have : (q : Int) - (x : Int) = ((q - x : Nat) : Int) := by omega
              exact this
            have HII : Hid ((i : Int) - 1 = ((i - 1 : Nat) : Int)) := by
              have : (i : Int) - 1 = ((i - 1 : Nat) : Int) := by omega
              exact this
            clear hown1 hgrow hob hO3 hB3 hDN
            go_wp2_with fail
            refine (HCALL2.out _).mono ?_
            rintro e w' ⟨rfl, rfl⟩
            go_wp2
            go_roundw
            case rel => exact ⟨i - 1, q - x, D ++ [a], a2, c2, l + 1, by omega, by omega, by rw [HII.out], by rw [HQI.out], HST2.out, by omega, rfl, by rw [List.length_append, HDL.out]; rfl, HO3.out, HB3.out⟩
            case measure => simp [intOf]; omega

end Go.Proofs.Ytmonaiojejbhkaa

/-! WALKS: the cursor over the bytes of a draw: what it hands back is in range; it changes its own block alone. -/

namespace Go.Proofs.Ytmonaiojejbhkaa
open Go.RowKit

/-- A slice of n bytes, none of them in block B. -/
def Bytes (w : World) (a : Option Addr) (n : Nat) (B : Nat) : Prop := ∀ j, j < n → ∃ b o x : Nat, a = some ⟨b, o, none⟩ ∧ b ≠ B ∧ x ≤ 255 ∧ w.cell? ⟨b, o + j, none⟩ = some (.int .u8 (x : Int))

/-- A cursor in block B over n bytes. -/
structure Cur (w : World) (B : Nat) (a : Option Addr) (n c : Nat) : Prop where
  c0 : w.cell? ⟨B, 0, none⟩ = some (.slice a n c)
  c1 : ∃ i : Nat, i ≤ n ∧ w.cell? ⟨B, 1, none⟩ = some (.int .i64 (i : Int))
  c2 : ∃ h : Int, w.cell? ⟨B, 2, none⟩ = some (.int .i64 h)
  fr : ∀ j, w.frozen? ⟨B, j, none⟩ = false
  bs : Bytes w a n B

theorem Bytes.of_but {w w' : World} {a : Option Addr} {n B : Nat} (h : Bytes w a n B) (hg : w.grownBy w' (some B)) : Bytes w' a n B := fun j hj => by
  obtain ⟨b, o, x, e, hb, hx, hc⟩ := h j hj
  exact ⟨b, o, x, e, hb, hx, by rw [hg.cell_far ⟨b, o + j, none⟩ (World.block_lt_of_cell? w _ hc) (by simpa using hb)]; exact hc⟩

theorem Cur.set1 {w : World} {B : Nat} {a : Option Addr} {n c : Nat} (h : Cur w B a n c) (i : Nat) (hi : i ≤ n) : Cur (w.setCell ⟨B, 1, none⟩ (.int .i64 (i : Int))) B a n c := by
  obtain ⟨c0, ⟨i0, _, c1⟩, ⟨h2, c2⟩, fr, bs⟩ := h
  refine ⟨?_, ⟨i, hi, World.cell?_setCell_same _ _ _ c1⟩, ⟨h2, ?_⟩, fun j => ?_, bs.of_but (Mem.but_setCell _ _ _ _)⟩
  · rw [World.cell?_setCell_other _ _ _ _ (by simp)]; exact c0
  · rw [World.cell?_setCell_other _ _ _ _ (by simp)]; exact c2
  · rw [World.frozen?_setCell]; exact fr j
theorem Cur.set2 {w : World} {B : Nat} {a : Option Addr} {n c : Nat} (h : Cur w B a n c) (v : Int) : Cur (w.setCell ⟨B, 2, none⟩ (.int .i64 v)) B a n c := by
  obtain ⟨c0, ⟨i0, hi, c1⟩, ⟨h2, c2⟩, fr, bs⟩ := h
  refine ⟨?_, ⟨i0, hi, ?_⟩, ⟨v, World.cell?_setCell_same _ _ _ c2⟩, fun j => ?_, bs.of_but (Mem.but_setCell _ _ _ _)⟩
  · rw [World.cell?_setCell_other _ _ _ _ (by simp)]; exact c0
  · rw [World.cell?_setCell_other _ _ _ _ (by simp)]; exact c1
  · rw [World.frozen?_setCell]; exact fr j
theorem Cur.drewN {w : World} {B : Nat} {a : Option Addr} {n c : Nat} (h : Cur w B a n c) (m : Nat) : Cur (w.drewN m) B a n c := ⟨h.c0, h.c1, h.c2, h.fr, h.bs⟩

theorem wrap_small (y : Nat) (h : y ≤ 4294967295) : IntKind.i64.wrap (y : Int) = (y : Int) := by
  rw [IntWalk.i64_in _ (by omega)]
theorem and255 (z : Int) : ∃ x : Nat, x ≤ 255 ∧ bits BinOp.and IntKind.i64 z 255 = (x : Int) := by
  have h : (BitVec.ofInt 64 z &&& BitVec.ofInt 64 255).toNat ≤ 255 := by
    rw [BitVec.toNat_and]; exact Nat.le_trans Nat.and_le_right (by decide)
  refine ⟨_, h, ?_⟩
  show IntKind.i64.wrap ((BitVec.ofInt 64 z &&& BitVec.ofInt 64 255).toNat : Int) = _
  exact wrap_small _ (Nat.le_trans h (by decide))

set_option maxRecDepth 100000 in
set_option maxHeartbeats 2000000 in
theorem byte_any (B : Nat) (a : Option Addr) (n c : Nat) (hn : n ≤ 140737488355328) (w : World) (hc : Cur w B a n c) :
    Calls Try.prog 71 #[.pointer (some ⟨B, 0, none⟩)] w fun e w' => ∃ x : Nat, x ≤ 255 ∧ e = .returned (.int .i64 (x : Int)) ∧ Cur w' B a n c ∧ w.grownBy w' (some B) := by
  have HC := Lib.hid hc
  obtain ⟨c0, ⟨i, hi, c1⟩, ⟨h, c2⟩, fr, bs⟩ := hc
  have f2 := fr 2
  clear bs fr c0 c1 hi i
  go_enter Try.func71, Try.ntmps71
  go_wp2_with fail
  generalize wrap64 (wrap64 (h * 6364136223846793005) + 1442695040888963407) = v
  generalize wrap64 (h * 6364136223846793005) = v'
  have HC1 := Lib.hid (HC.out.set2 v)
  have HG1 := Lib.hid (Mem.but_setCell w B 2 (.int .i64 v))
  clear c2 f2 HC
  generalize w.setCell ⟨B, 2, none⟩ (.int .i64 v) = w1 at *
  obtain ⟨c0, ⟨i, hi, c1⟩, ⟨h2, c2⟩, fr, bs⟩ := HC1.out
  have f1 := fr 1
  have BS := Lib.hid bs
  clear fr bs
  go_quiet (fail)
  obtain ⟨x, hx, ex⟩ := and255 (bits BinOp.xor IntKind.i64 (h2 / 8589934592) (h2 / 35184372088832))
  rw [ex]
  clear ex
  generalize bits BinOp.xor IntKind.i64 (h2 / 8589934592) (h2 / 35184372088832) = z1
  generalize h2 / 8589934592 = z2
  generalize h2 / 35184372088832 = z3
  have c0 : (w1.drewN nq).cell? ⟨B, 0, none⟩ = some (.slice a n c) := c0
  have c1 : (w1.drewN nq).cell? ⟨B, 1, none⟩ = some (.int .i64 (i : Int)) := c1
  have f1 : (w1.drewN nq).frozen? ⟨B, 1, none⟩ = false := f1
  have HC2 := Lib.hid (HC1.out.drewN nq)
  have HG2 := Lib.hid (HG1.out.trans (Mem.but_of_below (Mem.below_drewN w1 nq) _))
  clear HC1 HG1 BS c2
  generalize w1.drewN nq = w2 at *
  by_cases hlt : i < n
  · obtain ⟨b, o, y, rfl, hb, hy, g⟩ := HC2.out.bs i hlt
    go_wp2_with fail
    go_quiet (fail)
    have c0 : (w2.drewN nq).cell? ⟨B, 0, none⟩ = some (.slice (some ⟨b, o, none⟩) n c) := c0
    have c1 : (w2.drewN nq).cell? ⟨B, 1, none⟩ = some (.int .i64 (i : Int)) := c1
    have f1 : (w2.drewN nq).frozen? ⟨B, 1, none⟩ = false := f1
    have g : (w2.drewN nq).cell? ⟨b, o + i, none⟩ = some (.int .u8 (y : Int)) := g
    have HC3 := Lib.hid (HC2.out.drewN nq)
    have HG3 := Lib.hid (HG2.out.trans (Mem.but_of_below (Mem.below_drewN w2 nq) _))
    clear HC2 HG2
    generalize w2.drewN nq = w3 at *
    go_wp2_with fail
    go_quiet (fail)
    obtain ⟨x2, hx2, ex2⟩ := and255 ((x : Int) + (y : Int))
    rw [ex2]
    clear ex2
    have c0 : (w3.drewN nq).cell? ⟨B, 0, none⟩ = some (.slice (some ⟨b, o, none⟩) n c) := c0
    have c1 : (w3.drewN nq).cell? ⟨B, 1, none⟩ = some (.int .i64 (i : Int)) := c1
    have f1 : (w3.drewN nq).frozen? ⟨B, 1, none⟩ = false := f1
    have HC4 := Lib.hid (HC3.out.drewN nq)
    have HG4 := Lib.hid (HG3.out.trans (Mem.but_of_below (Mem.below_drewN w3 nq) _))
    clear HC3 HG3 g
    generalize w3.drewN nq = w4 at *
    go_wp2
    go_ret
    have hs := HC4.out.set1 (i + 1) (by omega)
    have hg := HG4.out.trans (Mem.but_setCell w4 B 1 (.int .i64 ((i + 1 : Nat) : Int)))
    rw [show ((i + 1 : Nat) : Int) = (i : Int) + 1 from by omega] at hs hg
    exact ⟨x2, hx2, rfl, hs, hg⟩
  · go_wp2_with fail
    go_quiet (fail)
    go_wp2
    go_ret
    exact ⟨x, hx, rfl, HC2.out.drewN _, HG2.out.trans (Mem.but_of_below (Mem.below_drewN w2 nq) _)⟩

/-- What a draw hands back: the cursor is as good as before; only its block has changed. -/
def Drew (w w' : World) (B : Nat) (a : Option Addr) (n c : Nat) : Prop := Cur w' B a n c ∧ w.grownBy w' (some B)
theorem Drew.trans {w w1 w2 : World} {B : Nat} {a : Option Addr} {n c : Nat} (h : Drew w w1 B a n c) (k : Drew w1 w2 B a n c) : Drew w w2 B a n c := ⟨k.1, h.2.trans k.2⟩

theorem mod_nat (x n : Nat) (hn : 0 < n) : ∃ r : Nat, r < n ∧ ((x : Int) % (n : Int)) = (r : Int) := ⟨x % n, Nat.mod_lt _ hn, by omega⟩

set_option maxRecDepth 100000 in
set_option maxHeartbeats 2000000 in
theorem below_any (B : Nat) (a : Option Addr) (n c : Nat) (hn : n ≤ 140737488355328) (m : Nat) (hm : 0 < m) (hm2 : m ≤ 4294967296) (w : World) (hc : Cur w B a n c) :
    Calls Try.prog 40 #[.pointer (some ⟨B, 0, none⟩), .int .i64 (m : Int)] w fun e w' => ∃ r : Nat, r < m ∧ e = .returned (.int .i64 (r : Int)) ∧ Drew w w' B a n c := by
  have HC := Lib.hid hc
  clear hc
  by_cases hs : m ≤ 256
  · go_enter Try.func40, Try.ntmps40
    go_wp2_with fail
    refine (byte_any B a n c hn _ HC.out).mono ?_
    rintro e w1 ⟨x, hx, rfl, hc1, hg1⟩
    have HC1 := Lib.hid hc1
    have HG1 := Lib.hid hg1
    clear hc1 hg1
    go_wp2
    go_ret
    obtain ⟨r, hr, er⟩ := mod_nat x m hm
    exact ⟨r, hr, by rw [← er]; rfl, HC1.out, HG1.out⟩
  · go_enter Try.func40, Try.ntmps40
    go_wp2_with fail
    refine (byte_any B a n c hn _ HC.out).mono ?_
    rintro e w1 ⟨x, hx, rfl, hc1, hg1⟩
    have D1 : Hid (Drew w w1 B a n c) := ⟨hc1, hg1⟩
    clear hc1 hg1
    go_wp2_with fail
    refine (byte_any B a n c hn _ D1.out.1).mono ?_
    rintro e w2 ⟨y, hy, rfl, hc1, hg1⟩
    have D2 : Hid (Drew w w2 B a n c) := D1.out.trans ⟨hc1, hg1⟩
    clear hc1 hg1 D1
    go_wp2_with fail
    refine (byte_any B a n c hn _ D2.out.1).mono ?_
    rintro e w3 ⟨z, hz, rfl, hc1, hg1⟩
    have D3 : Hid (Drew w w3 B a n c) := D2.out.trans ⟨hc1, hg1⟩
    clear hc1 hg1 D2
    go_wp2_with fail
    refine (byte_any B a n c hn _ D3.out.1).mono ?_
    rintro e w4 ⟨t, ht, rfl, hc1, hg1⟩
    have D4 : Hid (Drew w w4 B a n c) := D3.out.trans ⟨hc1, hg1⟩
    clear hc1 hg1 D3
    go_wp2
    go_ret
    obtain ⟨r, hr, er⟩ := mod_nat (x * 16777216 + y * 65536 + z * 256 + t) m hm
    have er' : (((x : Int) * 16777216 + (y : Int) * 65536 + (z : Int) * 256 + (t : Int)) % (m : Int)) = (r : Int) := by rw [← er]; simp
    exact ⟨r, hr, by rw [← er']; rfl, D4.out⟩

/-- A slice of n bytes. -/
def Code (w : World) (a : Option Addr) (n : Nat) : Prop := ∀ j, j < n → ∃ b o x : Nat, a = some ⟨b, o, none⟩ ∧ x ≤ 255 ∧ w.cell? ⟨b, o + j, none⟩ = some (.int .u8 (x : Int))
theorem Code.keeps {w w' : World} {a : Option Addr} {n : Nat} (h : Code w a n) (hb : Below w.heap.size w w') : Code w' a n := fun j hj => by
  obtain ⟨b, o, x, e, hx, hc⟩ := h j hj
  exact ⟨b, o, x, e, hx, by rw [hb.cell (p := ⟨b, o + j, none⟩) (World.block_lt_of_cell? w _ hc)]; exact hc⟩

theorem cur_new (w : World) (a : Option Addr) (n c : Nat) (h : Int) (hc : Code w a n) : Cur (w.alloc (.cells #[.slice a n c, .int .i64 0, .int .i64 h] 65)) w.heap.size a n c := by
  refine ⟨World.cell?_alloc_new w _ _ 0, ⟨0, Nat.zero_le _, World.cell?_alloc_new w _ _ 1⟩, ⟨h, World.cell?_alloc_new w _ _ 2⟩, fun j => World.frozen?_alloc_at _ _ _ _ rfl, fun j hj => ?_⟩
  obtain ⟨b, o, x, e, hx, hcell⟩ := hc j hj
  have hlt := World.block_lt_of_cell? w _ hcell
  exact ⟨b, o, x, e, by simp at hlt; omega, hx, by rw [World.cell?_alloc_lt _ _ _ hlt]; exact hcell⟩

set_option maxRecDepth 100000 in
set_option maxHeartbeats 2000000 in
/-- l1New: a cursor in a new block. -/
theorem new_any (a : Option Addr) (n c : Nat) (hn : n ≤ 140737488355328) (w : World) (hc : Code w a n) :
    Calls Try.prog 37 #[.slice a n c] w fun e w' => e = .returned (.pointer (some ⟨w.heap.size, 0, none⟩)) ∧ Cur w' w.heap.size a n c ∧ w.heap.size < w'.heap.size ∧ Below w.heap.size w w' := by
  have HC := Lib.hid hc
  clear hc
  go_enter Try.func37, Try.ntmps37
  go_wp2
  go_loop [3, 4] (fun h i => ∃ (k : Nat) (v : Int), k ≤ n ∧ i = .int .i64 (k : Int) ∧ h = .int .i64 v) (fun _ i => n - (intOf i).toNat)
  case atStart => exact ⟨0, _, Nat.zero_le _, rfl, rfl⟩
  case round =>
    obtain ⟨k, v, hk, rfl, rfl⟩ := hrel
    by_cases hlt : k < n
    · by_cases h4 : k < 4000
      · obtain ⟨b, o, x, rfl, hx, g⟩ := HC.out k hlt
        go_wp2
        go_round
        case rel => exact ⟨k + 1, _, by omega, by go_num, rfl⟩
        case measure => simp [intOf]; omega
      · go_wp2
        go_ret
        exact ⟨rfl, cur_new _ _ _ _ _ HC.out, by simp, (Below.refl _ _).alloc (Nat.le_refl _) _⟩
    · go_wp2
      go_ret
      exact ⟨rfl, cur_new _ _ _ _ _ HC.out, by simp, (Below.refl _ _).alloc (Nat.le_refl _) _⟩

end Go.Proofs.Ytmonaiojejbhkaa

/-! WALKS: slices of strings: what they read as; the laws' own equality. -/

namespace Go.Proofs.Ytmonaiojejbhkaa
open Go.RowKit

/-- A slice's address and length read as the strings xs (whatever the address where there are none). -/
def Strs (w : World) (a : Option Addr) (xs : List ByteArray) : Prop := ∀ j, j < xs.length → ∃ b o, a = some ⟨b, o, none⟩ ∧ w.cell? ⟨b, o + j, none⟩ = some (.string (xs.getD j ByteArray.empty))

/-- A slice reads as the strings xs. -/
def StrRow (w : World) (b o : Nat) (xs : List ByteArray) : Prop := ∀ j, j < xs.length → w.cell? ⟨b, o + j, none⟩ = some (.string (xs.getD j ByteArray.empty))

theorem StrRow.strs {w : World} {b o : Nat} {xs : List ByteArray} (h : StrRow w b o xs) : Strs w (some ⟨b, o, none⟩) xs := fun j hj => ⟨b, o, rfl, h j hj⟩
theorem StrRow.of_block {w w' : World} {b o : Nat} {xs : List ByteArray} (h : StrRow w b o xs) (hb : w'.heap[b]? = w.heap[b]?) : StrRow w' b o xs := fun j hj => by
  rw [World.cell?_of_block (w := w) (w' := w') (a := ⟨b, o + j, none⟩) hb]; exact h j hj
theorem Strs.keeps {w w' : World} {a : Option Addr} {xs : List ByteArray} (h : Strs w a xs) (hb : Below w.heap.size w w') : Strs w' a xs := fun j hj => by
  obtain ⟨b, o, e, hc⟩ := h j hj
  exact ⟨b, o, e, by rw [hb.cell (p := ⟨b, o + j, none⟩) (World.block_lt_of_cell? w _ hc)]; exact hc⟩

end Go.Proofs.Ytmonaiojejbhkaa
