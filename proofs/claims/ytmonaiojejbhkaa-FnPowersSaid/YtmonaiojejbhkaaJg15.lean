/-
  TEXTS of one claim, put together: WCnt4, WCnt5, WHS1, WHS2.
-/
import Derived.Test.YtmonaiojejbhkaaJg14
import Derived.StillTailTactics
import Derived.Test.YtmonaiojejbhkaaJg2
import Derived.IntWalk
import Derived.Test.YtmonaiojejbhkaaJg5
/-! WALKS of chapter 4: EulerOf by impl and by spec. -/

namespace Go.Proofs.Ytmonaiojejbhkaa
open Go.RowKit
open Sets

end Go.Proofs.Ytmonaiojejbhkaa

/-! WALKS of chapter 4: EulerOf, FacesOfSize and FaceCounts by spec. -/

namespace Go.Proofs.Ytmonaiojejbhkaa
open Go.RowKit
open Sets

/-- What writes into another row leave. -/
theorem IntsAt.away {w w' : World} {g : Nat} {row : Option Nat} {a : Option Addr} {xs : List Int} (h : IntsAt w g a xs) (hg : w.grownBy w' row) (hne : row ≠ some g) : IntsAt w' g a xs := fun j hj => by
  obtain ⟨e, hl, hc, hf⟩ := h j hj
  have hb := hg.block g hl (Ne.symm hne)
  have := hg.size
  exact ⟨e, by omega, by rw [World.cell?_of_block (w := w) (w' := w') (a := ⟨g, j, none⟩) hb]; exact hc, by rw [World.frozen?_of_block (w := w) (w' := w') (a := ⟨g, j, none⟩) hb]; exact hf⟩

theorem OwnInts.put {w : World} {base g c : Nat} {xs : List Int} (h : OwnInts w base (.slice (some ⟨g, 0, none⟩) xs.length c) xs) (j : Nat) (x : Int) :
    OwnInts (w.setCell ⟨g, j, none⟩ (.int .i64 x)) base (.slice (some ⟨g, 0, none⟩) (xs.set j x).length c) (xs.set j x) := by
  unfold OwnInts at *
  rw [List.length_set, List.map_set]
  exact (World.ownsRow.stored h j _).1

theorem wp_region_tail {P : Program} {id : Nat} {Q : Exit → Act → World → Prop} {a : Act} {w : World} {l : List Oper} (n : Nat) (hm : P.follows .mixedOrders = true) (hB : Region.lexTailB .any l.toArray n = true)
    (h : wpStill P l.toArray w.drew (fun a' => wpList P l.toArray Q (l.drop n) a' w.drew) (l.take n) a) : (Code.region id l.toArray true).wp P Q a w := wp_region_still_tail n hm hB h

/-- The length that a slice value bears. -/
def lenOf : Value → Nat | .slice _ n _ => n | _ => 0

/-- The counts so far, with m rows. -/
def cntsTo (m : Nat) (L : List Int) : List Int := (cnts L).take m
theorem cntsTo_length (m : Nat) (L : List Int) (h : m ≤ 7) : (cntsTo m L).length = m := by unfold cntsTo; rw [List.length_take, cnts_length]; omega
theorem cntsTo_at (m : Nat) (L : List Int) (h : m ≤ 7) (j : Nat) (hj : j < m) : (cntsTo m L).getD j 0 = (cnt j L : Int) := by
  unfold cntsTo; rw [List.getD, List.getElem?_take_of_lt hj, ← List.getD_eq_getElem?_getD, cnts_at L j (by omega)]
theorem cntsTo_zero (L : List Int) : cntsTo 0 L = [] := rfl
theorem cntsTo_next (m : Nat) (L : List Int) (h : m < 7) (h0 : cnt m L = 0) : cntsTo (m + 1) L = cntsTo m L ++ [0] := by
  unfold cntsTo
  rw [take_nx _ _ (by rw [cnts_length]; exact h), cnts_at L m h, h0]; rfl
theorem cntsTo_set (m : Nat) (L : List Int) (k p : Nat) (h : k < L.length) (hp : pc (L.getD k 0).toNat = p) : (cntsTo m (L.take k)).set p ((cnt p (L.take k) : Int) + 1) = cntsTo m (L.take (k + 1)) := by
  unfold cntsTo
  rw [← cnts_set L k p h hp, List.take_set]

set_option maxRecDepth 100000 in
set_option maxHeartbeats 4000000 in
theorem specCounts_any (n : Int) (a : Option Addr) (c : Nat) (xs : List Int) (hlen : xs.length ≤ 1099511627776) (w : World) (h : Ints w a xs) :
    Calls Try.prog 61 #[cx n (.slice a xs.length c)] w fun e w' => ∃ v, e = .returned v ∧ OwnInts w' w.heap.size v (counts (faces n xs)) ∧ Below w.heap.size w w' := by
  obtain ⟨i0, hi, hz0, hz1, hz2⟩ := info_parts info_int
  have hb0 : Below w.heap.size w ((w.alloc (Obj.cells #[Value.int IntKind.i64 n, Value.slice a xs.length c] 33)).alloc (.cells #[] 3)) := ((Below.refl _ _).alloc (Nat.le_refl _) _).alloc (by simp) _
  have hO0 := OwnInts.lit (w.alloc (Obj.cells #[Value.int IntKind.i64 n, Value.slice a xs.length c] 33)) w.heap.size [] (by simp) (by simp)
  have htwo := (Two.new w (.int .i64 n) (.slice a xs.length c) 33).alloc (.cells #[] 3)
  have H := Lib.hid (h.keeps hb0)
  have HB0 := Lib.hid hb0
  have HO0 := Lib.hid hO0
  have HT := Lib.hid htwo
  clear h hb0 hO0 htwo
  have hle := faces_le n xs
  have HFA := Lib.hid (faces_at n xs)
  obtain ⟨L, hL⟩ : ∃ L, faces n xs = L := ⟨_, rfl⟩
  have HLL := Lib.hid hL
  rw [hL] at hle HFA
  clear hL
  go_enter Try.func61, Try.ntmps61
  obtain ⟨t0, t1, t2, _, _⟩ := HT.out
  go_wp2_with fail
  refine (specFaces_any n _ _ xs hlen _ H.out).mono ?_
  rw [HLL.out]
  rintro e w1 ⟨v1, rfl, hO1, hb1⟩
  obtain ⟨a1, d1, g1, rfl, hg1, hr1⟩ := hO1.at
  have HB1 : Hid (Below w.heap.size w w1) := HB0.out.trans (hb1.mono HB0.out.size)
  have HR1 := Lib.hid hr1
  have HO1 := Lib.hid (OwnInts.keeps HO0.out hb1)
  have hz1w := HB1.out.size
  rw [World.size_alloc] at HO1
  simp only [World.size_alloc] at hg1
  clear hO1 hr1 hb1 t0 t1 t2
  go_wp2
  have hne1 : (Value.slice (some ⟨w.heap.size + 1, 0, none⟩) 0 0).ownBlock ≠ some g1 := by simp only [Value.ownBlock, ne_eq, Option.some.injEq]; omega
  go_loopw [3, 5] (fun v i wr => ∃ k : Nat, k ≤ L.length ∧ i = .int .i64 (k : Int) ∧ OwnInts wr w.heap.size v (cntsTo (top (L.take k)) (L.take k)) ∧ Below w.heap.size w wr ∧ IntsAt wr g1 a1 L ∧ v.ownBlock ≠ some g1) (fun _ i _ => L.length - (intOf i).toNat)
  case atStart => exact ⟨0, Nat.zero_le _, rfl, HO1.out, HB1.out, HR1.out, hne1⟩
  case round =>
    clear hne1 HO1 HB1 HR1
    obtain ⟨k, hk, rfl, hO, hB, hR, hne⟩ := hrel
    obtain ⟨wo, rfl⟩ : ∃ wo : World, wo = wr := ⟨_, rfl⟩
    by_cases hlt : k < L.length
    · obtain ⟨t, ht, ht64⟩ := HFA.out k hlt
      have HOA := Lib.hid hO
      have HBA := Lib.hid hB
      have HRA := Lib.hid hR
      have HNE := Lib.hid hne
      have hltk : decide ((k : Int) < (L.length : Int)) = true := by simpa using hlt
      have hcl := cnt_le (pc t) (L.take k)
      rw [List.length_take, Nat.min_eq_left hk] at hcl
      have htk := top_take L k hlt
      rw [ht] at htk
      have e2 : (t : Int).toNat = t := rfl
      rw [e2] at htk
      have HTK := Lib.hid htk
      have HSET := Lib.hid (fun m => cntsTo_set m L k (pc t) hlt (by rw [ht]; rfl))
      have HT2 := Lib.hid ht
      have ht7 := top_le (L.take k)
      have HGE := Lib.hid (ge_top (L.take k))
      have hp7 := pc_le t
      obtain ⟨p, hp⟩ : ∃ p, pc t = p := ⟨_, rfl⟩
      rw [hp] at hp7 hcl HTK HSET
      have HP := Lib.hid hp
      obtain ⟨T0, hT0⟩ : ∃ T0, top (L.take k) = T0 := ⟨_, rfl⟩
      rw [hT0] at HTK HOA ht7 HGE
      clear hO hB hR hne ht htk e2 hp hT0
      go_wp2
      go_loopw [3] (fun v wr => ∃ m : Nat, m ≤ max T0 (p + 1) ∧ T0 ≤ m ∧ OwnInts wr w.heap.size v (cntsTo m (L.take k)) ∧ Below w.heap.size w wr ∧ IntsAt wr g1 a1 L ∧ v.ownBlock ≠ some g1) (fun v _ => 7 - lenOf v)
      case atStart => exact ⟨T0, Nat.le_max_left _ _, Nat.le_refl _, HOA.out, HBA.out, HRA.out, HNE.out⟩
      case round =>
        clear HOA HBA HRA HNE
        obtain ⟨m, hm, hTm, hO, hB, hR, hne⟩ := hrel
        have hm7 : m ≤ 7 := by omega
        obtain ⟨ao, co, go, rfl, hco, hgo, hro, _⟩ := OwnInts.ata hO hB.size
        have hlm := cntsTo_length m (L.take k) hm7
        rw [hlm] at hco
        have HO := Lib.hid hO
        unfold OwnInts at HO
        rw [hlm] at HO hne ⊢
        have HR := Lib.hid hR
        have HNE := Lib.hid hne
        have HRO := Lib.hid hro
        have HLM := Lib.hid hlm
        have hsz := hB.size
        obtain ⟨ea, hg1l, hc1, _⟩ := HR.out k hlt
        rw [HT2.out] at hc1
        obtain rfl := ea
        clear hO hR hne hro hlm
        by_cases hmp : m ≤ p
        · have h0 : Hid (cntsTo (m + 1) (L.take k) = cntsTo m (L.take k) ++ [0]) := by
            have : cntsTo (m + 1) (L.take k) = cntsTo m (L.take k) ++ [0] := cntsTo_next m _ (by omega) (HGE.out m hTm)
            exact this
          go_wp2_with fail
          refine (l2Size_b t _ HP.out ht64 _).mono ?_
          rintro e w' ⟨rfl, rfl⟩
          go_wp2_with (at_builtin; refine wpList_append_own_at _ rfl _ _ 26 rfl w.heap.size 3 i0 (.int .i64 0) 1 8 Try.underlying26 hi hz0 hz1 hz2 rfl (by decide) _ _ _ rfl (HO.out.alloc _) ⟨wr.heap.size, 0, none⟩ 1 1 [.int .i64 0] rfl rfl ?c1 ?c2 ?c3 ?c4 ?c5 ?_)
          case c1 => intro j u hj; exact Mem.cell_new wr _ _ j u hj
          case c2 => intro u hu; simp at hu; subst hu; rfl
          case c3 => unfold maxLen; omega
          case c4 => omega
          case c5 => simp; omega
          intro v' w3 hown1 hgrow _ hob
          have hB3 : Below w.heap.size w w3 := (hB.alloc hsz _).grown hgrow (by simp; omega) (fun g hg => (HO.out.lt g hg).1)
          have hR3 := IntsAt.away (HR.out.keeps ((Below.refl _ _).alloc (Nat.le_refl _) _)) hgrow HNE.out
          have hn3 : v'.ownBlock ≠ some g1 := by
            rcases hob with e | e
            · rw [e]; exact HNE.out
            · rw [e]; simp; omega
          have hO3 : OwnInts w3 w.heap.size v' (cntsTo (m + 1) (L.take k)) := by
            rw [h0.out]
            unfold OwnInts
            rw [List.length_append, List.map_append, HLM.out]
            exact hown1
          have hlv : lenOf v' = m + 1 := by
            obtain ⟨_, _, _, hv, _⟩ := OwnInts.ata hO3 hB3.size
            rw [hv]; exact cntsTo_length _ _ (by omega)
          have HO3 := Lib.hid hO3
          have HR3 := Lib.hid hR3
          have HN3 := Lib.hid hn3
          have HLV := Lib.hid hlv
          clear hown1 hgrow hob hR3 hn3 hO3 hlv
          go_wp2
          go_roundw
          case rel => exact ⟨m + 1, by omega, by omega, HO3.out, hB3, HR3.out, HN3.out⟩
          case measure => rw [HLV.out]; simp [lenOf]; omega
        · have hpm : p < m := by omega
          have hpm' : ¬ (m : Int) ≤ (p : Int) := by omega
          have hmx : max T0 (p + 1) = m := by omega
          obtain ⟨ea, hgl, hc2, hf2⟩ := HRO.out p (by rw [HLM.out]; exact hpm)
          rw [cntsTo_at m (L.take k) hm7 p hpm] at hc2
          obtain rfl := ea
          obtain ⟨z, hz⟩ : ∃ z, cnt p (L.take k) = z := ⟨_, rfl⟩
          rw [hz] at hc2 hcl
          have hS := HSET.out m
          rw [hz] at hS
          have hP := OwnInts.put (w := wr) (base := w.heap.size) (g := go) (c := co) (xs := cntsTo m (L.take k)) (by unfold OwnInts; rw [HLM.out]; exact HO.out) p ((z : Int) + 1)
          rw [hS, cntsTo_length m _ hm7] at hP
          have hgne : go ≠ g1 := fun e => HNE.out (by rw [e]; rfl)
          have HGNE := Lib.hid hgne
          have HPU := Lib.hid hP
          have hTn : top (L.take (k + 1)) = m := by rw [HTK.out, hmx]
          have HTN := Lib.hid hTn
          have hB4 : Below w.heap.size w (wr.setCell ⟨go, p, none⟩ (.int .i64 ((z : Int) + 1))) := hB.setCell hgo _
          have hR4 : IntsAt (wr.setCell ⟨go, p, none⟩ (.int .i64 ((z : Int) + 1))) g1 (some ⟨g1, 0, none⟩) L := HR.out.far (Mem.but_setCell _ _ _ _) (Ne.symm hgne)
          have HB4 := Lib.hid hB4
          have HR4 := Lib.hid hR4
          clear hmx hz hS hP hgne hTn hpm' hB4 hR4
          go_wp2_with fail
          refine (l2Size_b t _ HP.out ht64 _).mono ?_
          rintro e w' ⟨rfl, rfl⟩
          go_wp2_with fail
          refine wp_region_tail 16 (by kernel_rfl) (by kernel_rfl) ?_
          simp only [List.take_succ_cons, List.take_zero, List.drop_succ_cons, List.drop_zero]
          repeat (first | still_step | still_call ((l2Size_b t p HP.out ht64 _).mono fun _ _ ⟨he, hw⟩ => ⟨he, hw.symm⟩))
          refine wpStill_nil ?_
          go_wp2
          go_roundw
          case rel => exact ⟨k + 1, by omega, by go_num, by rw [HTN.out]; exact HPU.out, HB4.out.drew, HR4.out, (fun e => HGNE.out (by simpa [Value.ownBlock] using e))⟩
          case measure => simp [intOf]; omega
    · have E := Lib.hid (show k = L.length by omega)
      have HO := Lib.hid hO
      clear hO hR hne
      go_wp2
      go_ret
      have h2 := HO.out
      rw [E.out, List.take_length] at h2
      exact ⟨_, rfl, by rw [HLL.out]; exact h2, hB⟩

end Go.Proofs.Ytmonaiojejbhkaa

/-! WALKS: spec's chapter 10: Choose, HNumbers. -/

namespace Go.Proofs.Ytmonaiojejbhkaa
open Go.RowKit
open Sets Hn

set_option maxRecDepth 100000 in
set_option maxHeartbeats 4000000 in
theorem specChooseN_any (m k : Nat) (hm : m ≤ 60) (hk : k ≤ m) (w : World) : Calls Try.prog 62 #[.int .i64 (m : Int), .int .i64 (k : Int)] w fun e w' => e = .returned (.int .i64 (ch m k : Nat)) ∧ w = w' := by
  have h1 : inB 0 60 (m : Int) = true := by rw [inB_iff]; omega
  have h2 : inB 0 (m : Int) (k : Int) = true := by rw [inB_iff]; omega
  have H1 := Lib.hid h1
  have H2 := Lib.hid h2
  clear h1 h2
  go_enter Try.func62, Try.ntmps62
  go_wp2_with fail
  refine (in_b _ _ _ true H1.out _).mono ?_
  rintro e w' ⟨rfl, rfl⟩
  go_wp2_with fail
  refine (in_b _ _ _ true H2.out _).mono ?_
  rintro e w' ⟨rfl, rfl⟩
  go_wp2
  go_loop [5, 6] (fun v i => ∃ j : Nat, j ≤ k ∧ i = .int .i64 (j : Int) ∧ v = .int .i64 (ch m j : Nat)) (fun _ i => k - (intOf i).toNat)
  case atStart => exact ⟨0, Nat.zero_le _, rfl, by rw [ch_zero]; rfl⟩
  case round =>
    obtain ⟨j, hj, rfl, rfl⟩ := hrel
    by_cases hlt : j < k
    · have hs1 := ch_step m j (by omega)
      have hby := ch_big m (j + 1) hm
      obtain ⟨y, hy⟩ : ∃ y, ch m (j + 1) = y := ⟨_, rfl⟩
      obtain ⟨x, hx⟩ : ∃ x, ch m j = x := ⟨_, rfl⟩
      rw [hy, hx] at hs1
      rw [hy] at hby
      have HY := Lib.hid hy
      have HX := Lib.hid hx
      have hval : wrap64 ((wrap64 ((x : Int) * ((m : Int) - (j : Int)))).tdiv ((j : Int) + 1)) = (y : Int) := by
        have e1 : (m : Int) - (j : Int) = ((m - j : Nat) : Int) := by omega
        have e2 : (x : Int) * ((m - j : Nat) : Int) = ((y * (j + 1) : Nat) : Int) := by rw [hs1]; simp
        have hz : y * (j + 1) ≤ 118264581564861424 * 60 := Nat.mul_le_mul hby (by omega)
        have e3 : ((y * (j + 1) : Nat) : Int).tdiv ((j : Int) + 1) = (y : Int) := by
          have : ((y * (j + 1) : Nat) : Int) = (y : Int) * ((j : Int) + 1) := by simp
          rw [this]
          exact Int.mul_tdiv_cancel _ (by omega)
        rw [e1, e2]
        generalize y * (j + 1) = z at hz e3
        rw [IntWalk.wrap64_in (z : Int) (by omega), e3, IntWalk.wrap64_in (y : Int) (by omega)]
      have HV := Lib.hid hval
      clear hs1 hy hx hval
      rw [HX.out]
      go_wp2
      refine ⟨⟨j + 1, by omega, by go_num, ?_⟩, by simp [intOf]; omega⟩
      rw [HV.out, HY.out]
    · have E := Lib.hid (show j = k by omega)
      go_wp2
      go_ret
      exact ⟨by rw [← E.out]; rfl, rfl⟩

/-- .. at numbers that are given as such. -/
theorem specChoose_z (m k : Nat) (zm zk : Int) (hzm : zm = (m : Int)) (hzk : zk = (k : Int)) (x : Nat) (hx : ch m k = x) (hm : m ≤ 60) (hk : k ≤ m) (w : World) : Calls Try.prog 62 #[.int .i64 zm, .int .i64 zk] w fun e w' => e = .returned (.int .i64 (x : Int)) ∧ w = w' := by
  subst hzm hzk hx
  exact specChooseN_any m k hm hk w

set_option maxRecDepth 100000 in
set_option maxHeartbeats 4000000 in
theorem specChooseZ_any (n k : Int) (w : World) : Calls Try.prog 62 #[.int .i64 n, .int .i64 k] w fun e w' => e = .returned (.int .i64 (chZ n k)) ∧ Below w.heap.size w w' := by
  cases h1 : inB 0 60 n with
  | false =>
    have e : chZ n k = 0 := by
      unfold chZ; rw [if_neg (fun hh => by
        have : inB 0 60 n = true := by rw [inB_iff]; omega
        rw [h1] at this; cases this)]
    rw [e]
    have H1 := Lib.hid h1
    clear h1
    go_enter Try.func62, Try.ntmps62
    go_wp2_with fail
    refine (in_b _ _ _ false H1.out _).mono ?_
    rintro e w' ⟨rfl, rfl⟩
    go_wp2
    go_ret
    exact ⟨rfl, Below.refl _ _⟩
  | true =>
    cases h2 : inB 0 n k with
    | false =>
      have e : chZ n k = 0 := by
        unfold chZ; rw [if_neg (fun hh => by
          have : inB 0 n k = true := by rw [inB_iff]; omega
          rw [h2] at this; cases this)]
      rw [e]
      have H1 := Lib.hid h1
      have H2 := Lib.hid h2
      clear h1 h2
      go_enter Try.func62, Try.ntmps62
      go_wp2_with fail
      refine (in_b _ _ _ true H1.out _).mono ?_
      rintro e w' ⟨rfl, rfl⟩
      go_wp2_with fail
      refine (in_b _ _ _ false H2.out _).mono ?_
      rintro e w' ⟨rfl, rfl⟩
      go_wp2
      go_ret
      exact ⟨rfl, Below.refl _ _⟩
    | true =>
      rw [inB_iff] at h1 h2
      have e : chZ n k = (ch n.toNat k.toNat : Int) := by unfold chZ; rw [if_pos (by omega)]
      rw [e]
      refine (specChoose_z n.toNat k.toNat n k (by omega) (by omega) _ rfl (by omega) (by omega) w).mono ?_
      rintro e w' ⟨rfl, rfl⟩
      exact ⟨rfl, Below.refl _ _⟩

end Go.Proofs.Ytmonaiojejbhkaa

/-! WALKS: spec's chapter 10: HNumbers. -/

namespace Go.Proofs.Ytmonaiojejbhkaa
open Go.RowKit
open Sets Hn

theorem quietlyH {f : FuncId} {args : Array Value} {w : World} {n : Nat} {v : Value}
    (h : Calls Try.prog f args (w.drewN n) fun e w' => e = .returned v ∧ w.drewN n = w') : Calls Try.prog f args (w.drewN n) fun e w'' => e = .returned v ∧ ∃ n, w'' = w.drewN n :=
  h.mono fun _ _ ⟨he, hw⟩ => ⟨he, n, hw.symm⟩

theorem hsums_take (s : Int) (L : List Int) (k : Nat) (h : k < L.length) : (hsums s L).take (k + 1) = (hsums s L).take k ++ [hs s L (L.length - 1) k (k + 1)] := by
  rw [take_nx _ _ (by rw [hsums_length]; exact h), hsums_at s L k h]
theorem hsums_take_length (s : Int) (L : List Int) (k : Nat) (h : k ≤ L.length) : ((hsums s L).take k).length = k := by
  rw [List.length_take, hsums_length]; omega

set_option maxRecDepth 100000 in
set_option maxHeartbeats 1000000 in
theorem specH_any (n : Int) (a : Option Addr) (c : Nat) (xs : List Int) (hlen : xs.length ≤ 1099511627776) (w : World) (h : Ints w a xs) :
    Calls Try.prog 30 #[cx n (.slice a xs.length c)] w fun e w' => ∃ v, e = .returned v ∧ OwnInts w' w.heap.size v (hnum n xs) ∧ Below w.heap.size w w' := by
  obtain ⟨i0, hi, hz0, hz1, hz2⟩ := info_parts info_int
  have hb0 : Below w.heap.size w ((w.alloc (Obj.cells #[Value.int IntKind.i64 n, Value.slice a xs.length c] 33)).alloc (.cells #[] 3)) := ((Below.refl _ _).alloc (Nat.le_refl _) _).alloc (by simp) _
  have hO0 := OwnInts.lit (w.alloc (Obj.cells #[Value.int IntKind.i64 n, Value.slice a xs.length c] 33)) w.heap.size [] (by simp) (by simp)
  have htwo := (Two.new w (.int .i64 n) (.slice a xs.length c) 33).alloc (.cells #[] 3)
  have H := Lib.hid (h.keeps hb0)
  have HB0 := Lib.hid hb0
  have HO0 := Lib.hid hO0
  have HT := Lib.hid htwo
  clear h hb0 hO0 htwo
  have hl7 := counts_le7 (faces n xs)
  have HFEW := Lib.hid (counts_few n xs)
  obtain ⟨F, hF⟩ : ∃ F, counts (faces n xs) = F := ⟨_, rfl⟩
  have HN : Hid (hnum n xs = hsums (-1) F) := by
    have : hnum n xs = hsums (-1) F := by rw [← hF]; rfl
    exact this
  have HFF := Lib.hid hF
  rw [hF] at hl7 HFEW
  rw [HN.out]
  have HTK := Lib.hid (hsums_take (-1) F)
  have HTL := Lib.hid (hsums_take_length (-1) F)
  have HSUM := Lib.hid (hs_le (-1) (Or.inr rfl) F (fun j => by have := HFEW.out j; omega))
  have HPART := Lib.hid (fun d k m hd => part_le (-1) (Or.inr rfl) (F.getD m 0) (by have := HFEW.out m; omega) d k m hd)
  have HALL : Hid ((hsums (-1) F).take F.length = hsums (-1) F) := by
    have : (hsums (-1) F).take F.length = hsums (-1) F := by rw [← hsums_length (-1) F, List.take_length]
    exact this
  have HZERO : Hid ((hsums (-1) F).take 0 = []) := by
    have : (hsums (-1) F).take 0 = [] := rfl
    exact this
  obtain ⟨f, hf⟩ : ∃ f, F.length = f := ⟨_, rfl⟩
  have HFL := Lib.hid hf
  rw [hf] at hl7 HTK HTL HALL
  obtain ⟨H1, hH1⟩ : ∃ H1, hsums (-1) F = H1 := ⟨_, rfl⟩
  rw [hH1] at HTK HTL HALL HN HZERO
  rw [hH1]
  clear hF hf hH1
  go_enter Try.func30, Try.ntmps30
  obtain ⟨t0, t1, t2, _, _⟩ := HT.out
  go_wp2_with fail
  refine (specCounts_any n _ _ xs hlen _ H.out).mono ?_
  rw [HFF.out]
  rintro e w1 ⟨v1, rfl, hO1, hb1⟩
  obtain ⟨a1, d1, g1, rfl, hg1, hr1⟩ := hO1.at
  have HB1 : Hid (Below w.heap.size w w1) := HB0.out.trans (hb1.mono HB0.out.size)
  have HR1 := Lib.hid hr1
  have HO1 := Lib.hid (OwnInts.keeps HO0.out hb1)
  have hz1w := HB1.out.size
  rw [World.size_alloc] at HO1
  simp only [World.size_alloc] at hg1
  have hne1 : (Value.slice (some ⟨w.heap.size + 1, 0, none⟩) 0 0).ownBlock ≠ some g1 := by simp only [Value.ownBlock, ne_eq, Option.some.injEq]; omega
  have HNE1 := Lib.hid hne1
  clear hO1 hr1 hb1 t0 t1 t2 HB0 HT H hg1 HO0 hne1
  rw [HFL.out]
  rw [← HZERO.out] at HO1
  clear HZERO
  go_wp2
  go_loopw [3, 6] (fun v i wr => ∃ (k : Nat) (aa : Option Addr) (cc : Nat), k ≤ f ∧ i = .int .i64 (k : Int) ∧ v = .slice aa k cc ∧ OwnInts wr w.heap.size (.slice aa k cc) (H1.take k) ∧ Below w.heap.size w wr ∧ IntsAt wr g1 a1 F ∧ (Value.slice aa k cc).ownBlock ≠ some g1) (fun _ i _ => f - (intOf i).toNat)
  case atStart => exact ⟨0, _, _, Nat.zero_le _, rfl, rfl, HO1.out, HB1.out, HR1.out, HNE1.out⟩
  case round =>
    clear HO1 HB1 HR1 HNE1
    obtain ⟨k, aa, cc, hk, rfl, rfl, hO, hB, hR, hne⟩ := hrel
    have HO := Lib.hid hO
    have HB := Lib.hid hB
    have HR := Lib.hid hR
    have HNE := Lib.hid hne
    clear hO hB hR hne
    by_cases hlt : k < f
    · have hkd : decide ((k : Int) ≤ (f : Int) - 1) = true := by simp; omega
      go_wp2
      go_loopw [7, 8] (fun u v W => ∃ j : Nat, j ≤ k + 1 ∧ v = .int .i64 (j : Int) ∧ u = .int .i64 (hs (-1) F (f - 1) k j) ∧ ∃ m, W = wr.drewN m) (fun _ v _ => k + 1 - (intOf v).toNat)
      case atStart => exact ⟨0, by omega, rfl, rfl, 0, rfl⟩
      case round =>
        obtain ⟨j, hj, rfl, rfl, m, rfl⟩ := hrel
        by_cases hjk : j ≤ k
        · have hjd : decide ((j : Int) ≤ (k : Int)) = true := by simp; omega
          obtain ⟨b, o, rfl, g⟩ := HR.out.ints j (by rw [HFL.out]; omega)
          have hcx := HPART.out (f - 1) k j (by omega)
          have hsx := HSUM.out (f - 1) k (by omega) j
          obtain ⟨x, hx⟩ : ∃ x, F.getD j 0 = x := ⟨_, rfl⟩
          obtain ⟨y, hy⟩ : ∃ y, hs (-1) F (f - 1) k j = y := ⟨_, rfl⟩
          obtain ⟨ccc, hcc⟩ : ∃ q, ch (f - 1 - j) (k - j) = q := ⟨_, rfl⟩
          have hnx : hs (-1) F (f - 1) k (j + 1) = hs (-1) F (f - 1) k j + pw (-1) (k - j) * F.getD j 0 * (ch (f - 1 - j) (k - j) : Int) := rfl
          have HCH : Hid (∀ W, Calls Try.prog 62 #[.int .i64 ((f : Int) - 1 - (j : Int)), .int .i64 ((k : Int) - (j : Int))] W fun e w' => e = .returned (.int .i64 (ccc : Int)) ∧ W = w') := by
            have : ∀ W, Calls Try.prog 62 #[.int .i64 ((f : Int) - 1 - (j : Int)), .int .i64 ((k : Int) - (j : Int))] W fun e w' => e = .returned (.int .i64 (ccc : Int)) ∧ W = w' := fun W =>
              specChoose_z (f - 1 - j) (k - j) _ _ (by omega) (by omega) ccc hcc (by omega) (by omega) W
            exact this
          have HV : Hid (wrap64 (y + wrap64 (wrap64 ((1 - 2 * (((k : Int) - (j : Int)) % 2)) * x) * (ccc : Int))) = hs (-1) F (f - 1) k (j + 1)) := by
            have : wrap64 (y + wrap64 (wrap64 ((1 - 2 * (((k : Int) - (j : Int)) % 2)) * x) * (ccc : Int))) = hs (-1) F (f - 1) k (j + 1) := by
              rw [hnx, hy, hx, hcc]
              rw [hx, hcc] at hcx
              rw [hy] at hsx
              have hfx := HFEW.out j
              rw [hx] at hfx
              have hp := pw_neg (k - j)
              have e1 : ((k : Int) - (j : Int)) % 2 = (((k - j) % 2 : Nat) : Int) := by omega
              rw [e1, ← hp]
              have hq : -20 ≤ pw (-1) (k - j) * x ∧ pw (-1) (k - j) * x ≤ 20 := by rcases pw_sign (-1) (Or.inr rfl) (k - j) with e | e <;> rw [e] <;> omega
              generalize pw (-1) (k - j) * x = q at hq hcx ⊢
              rw [IntWalk.wrap64_in q (by omega)]
              generalize q * (ccc : Int) = z at hcx ⊢
              rw [IntWalk.wrap64_in z (by omega), IntWalk.wrap64_in (y + z) (by omega)]
            exact this
          rw [hx] at g
          rw [hy]
          have hjf : j < f := by omega
          clear hcx hsx hx hy hcc hnx
          go_wp2_with fail
          go_quiet ((go_at_call 62; refine quietly (HCH.out _)))
          go_wp2
          exact ⟨⟨j + 1, by omega, by go_num, by rw [HV.out], _, rfl⟩, by simp [intOf]; omega⟩
        · have hjd : decide ((j : Int) ≤ (k : Int)) = false := by simp; omega
          have E := Lib.hid (show j = k + 1 by omega)
          have HN1 : Hid (H1.take (k + 1) = H1.take k ++ [hs (-1) F (f - 1) k j]) := by
            have : H1.take (k + 1) = H1.take k ++ [hs (-1) F (f - 1) k j] := by rw [HTK.out k hlt, E.out]
            exact this
          have HO2 : Hid (wr.ownsRow w.heap.size 3 1 (.slice aa k cc) k ((H1.take k).map (Value.int .i64))) := by
            have h := HO.out
            unfold OwnInts at h
            rw [HTL.out k (by omega)] at h
            exact h
          have hsz := HB.out.size
          obtain ⟨y, hy⟩ : ∃ y, hs (-1) F (f - 1) k j = y := ⟨_, rfl⟩
          rw [hy] at HN1 ⊢
          clear hy
          go_wp2_with (at_builtin; refine wpList_append_own_at _ rfl _ _ 26 rfl w.heap.size 3 i0 (.int .i64 0) 1 8 Try.underlying26 hi hz0 hz1 hz2 rfl (by decide) _ _ _ rfl (((show (wr.drewN m).ownsRow w.heap.size 3 1 (.slice aa k cc) k ((H1.take k).map (Value.int .i64)) from HO2.out)).alloc _) ⟨wr.heap.size, 0, none⟩ 1 1 [.int .i64 y] rfl rfl ?c1 ?c2 ?c3 ?c4 ?c5 ?_)
          case c1 => intro q u hq; exact Mem.cell_new (wr.drewN m) _ _ q u hq
          case c2 => intro u hu; simp at hu; subst hu; rfl
          case c3 => unfold maxLen; omega
          case c4 => omega
          case c5 => simp; omega
          intro v' w3 hown1 hgrow _ hob
          have hB3 : Below w.heap.size w w3 := ((bdrew HB.out m).alloc hsz _).grown hgrow (by simp; omega) (fun g hg => (HO2.out.lt g hg).1)
          have hR3 := IntsAt.away ((show IntsAt (wr.drewN m) g1 a1 F from HR.out).keeps ((Below.refl _ _).alloc (Nat.le_refl _) _)) hgrow HNE.out
          have hgl : g1 < wr.heap.size := (HR.out 0 (by rw [HFL.out]; omega)).2.1
          have hn3 : v'.ownBlock ≠ some g1 := by
            rcases hob with e | e
            · rw [e]; exact HNE.out
            · rw [e]; simp; omega
          have hO3 : OwnInts w3 w.heap.size v' (H1.take (k + 1)) := by
            rw [HN1.out]
            unfold OwnInts
            rw [List.length_append, List.map_append, HTL.out k (by omega), List.map_take]
            exact hown1
          obtain ⟨a2, c2, _, rfl, _⟩ := OwnInts.ata hO3 hB3.size
          rw [HTL.out (k + 1) (by omega)] at hO3
          rw [HTL.out (k + 1) (by omega)] at hn3
          rw [HTL.out (k + 1) (by omega)]
          have HN3 := Lib.hid hn3
          have HR3 := Lib.hid hR3
          have HO3 := Lib.hid hO3
          have HB3 := Lib.hid hB3
          clear hown1 hgrow hob hO3 hB3 hR3 hn3
          go_wp2
          go_roundw
          case rel => exact ⟨k + 1, a2, c2, by omega, by go_num, rfl, HO3.out, HB3.out, HR3.out, HN3.out⟩
          case measure => simp [intOf]; omega
    · have hkd : decide ((k : Int) ≤ (f : Int) - 1) = false := by simp; omega
      have E := Lib.hid (show k = f by omega)
      go_wp2
      go_ret
      have h2 := HO.out
      rw [E.out, HALL.out] at h2
      exact ⟨_, rfl, by rw [E.out]; exact h2, HB.out⟩

end Go.Proofs.Ytmonaiojejbhkaa
