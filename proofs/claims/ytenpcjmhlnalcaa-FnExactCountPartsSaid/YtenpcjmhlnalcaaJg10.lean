/-
  TEXTS of one claim, put together: WCnt4, WCnt5.
-/
import Derived.Test.YtenpcjmhlnalcaaJg9
import Derived.StillTailTactics
/-! WALKS of chapter 4: EulerOf by impl and by spec. -/

namespace Go.Proofs.Ytenpcjmhlnalcaa
open Go.RowKit
open Sets

theorem countSizes_lit (a : Option Addr) (c : Nat) (xs : List Int) (hok : allOk xs = true) (hlen : xs.length ≤ 1099511627776) (c0 c1 c2 c3 c4 c5 c6 : Nat) (h0 : cnt 0 xs = c0) (h1 : cnt 1 xs = c1) (h2 : cnt 2 xs = c2) (h3 : cnt 3 xs = c3) (h4 : cnt 4 xs = c4) (h5 : cnt 5 xs = c5) (h6 : cnt 6 xs = c6) (w : World) (h : Ints w a xs) :
    Calls Try.prog 47 #[.slice a xs.length c] w fun e w' => e = .returned (.agg #[.int .i64 (c0 : Int), .int .i64 (c1 : Int), .int .i64 (c2 : Int), .int .i64 (c3 : Int), .int .i64 (c4 : Int), .int .i64 (c5 : Int), .int .i64 (c6 : Int)]) ∧ Below w.heap.size w w' := by
  subst h0 h1 h2 h3 h4 h5 h6
  exact countSizes_any a c xs hok hlen w h

theorem index7 (L : List Int) (hL : L.length = 7) (k : Nat) (hk : k < 7) (w : World) :
    (Instr.index 54 (.agg (icells L).toArray) (.int .i64 (k : Int))).run Try.prog w = .ok (.int .i64 (L.getD k 0)) w := by
  have hu : Try.prog.underlying 54 = some (.array 7 3) := by kernel_rfl
  have hi : Try.prog.underlying 3 = some (.int .i64) := by kernel_rfl
  have h1 : (0 : Int) ≤ (k : Int) ∧ (k : Int) < (7 : Nat) := by omega
  have hc : (icells L)[k]? = some (.int .i64 (L.getD k 0)) := icells_at L k (by omega)
  simp [Instr.index, asIntOf, run_underlying hu, run_underlying hi, part, isAgg, hc, hk, Result.andThen]

end Go.Proofs.Ytenpcjmhlnalcaa

/-! WALKS of chapter 4: EulerOf, FacesOfSize and FaceCounts by spec. -/

namespace Go.Proofs.Ytenpcjmhlnalcaa
open Go.RowKit
open Sets

/-- What writes into another row leave. -/
theorem IntsAt.away {w w' : World} {g : Nat} {row : Option Nat} {a : Option Addr} {xs : List Int} (h : IntsAt w g a xs) (hg : w.grownBy w' row) (hne : row ≠ some g) : IntsAt w' g a xs := fun j hj => by
  obtain ⟨e, hl, hc, hf⟩ := h j hj
  have hb := hg.block g hl (Ne.symm hne)
  have := hg.size
  exact ⟨e, by omega, by rw [World.cell?_of_block (w := w) (w' := w') (a := ⟨g, j, none⟩) hb]; exact hc, by rw [World.frozen?_of_block (w := w) (w' := w') (a := ⟨g, j, none⟩) hb]; exact hf⟩

set_option maxRecDepth 100000 in
set_option maxHeartbeats 4000000 in
theorem specSized_any (n : Int) (a : Option Addr) (c : Nat) (xs : List Int) (hlen : xs.length ≤ 1099511627776) (q : Int) (w : World) (h : Ints w a xs) :
    Calls Try.prog 41 #[cx n (.slice a xs.length c), .int .i64 q] w fun e w' => ∃ v, e = .returned v ∧ OwnInts w' w.heap.size v (sized q (faces n xs)) ∧ Below w.heap.size w w' := by
  obtain ⟨i0, hi, hz0, hz1, hz2⟩ := info_parts info_int
  have hb0 : Below w.heap.size w ((w.alloc (Obj.cells #[Value.int IntKind.i64 n, Value.slice a xs.length c] 27)).alloc (.cells #[] 3)) := ((Below.refl _ _).alloc (Nat.le_refl _) _).alloc (by simp) _
  have hO0 := OwnInts.lit (w.alloc (Obj.cells #[Value.int IntKind.i64 n, Value.slice a xs.length c] 27)) w.heap.size [] (by simp) (by simp)
  have htwo := (Two.new w (.int .i64 n) (.slice a xs.length c) 27).alloc (.cells #[] 3)
  have H := Lib.hid (h.keeps hb0)
  have HB0 := Lib.hid hb0
  have HO0 := Lib.hid hO0
  have HT := Lib.hid htwo
  clear h hb0 hO0 htwo
  have hle := faces_le n xs
  have HFA := Lib.hid (faces_at n xs)
  obtain ⟨L, hL⟩ : ∃ L, faces n xs = L := ⟨_, rfl⟩
  have HLL := Lib.hid hL
  rw [hL] at hle HFA
  clear hL
  go_enter Try.func41, Try.ntmps41
  obtain ⟨t0, t1, t2, _, _⟩ := HT.out
  go_wp2_with fail
  refine (specFaces_any n _ _ xs hlen _ H.out).mono ?_
  rw [HLL.out]
  rintro e w1 ⟨v1, rfl, hO1, hb1⟩
  obtain ⟨a1, d1, g1, rfl, hg1, hr1⟩ := hO1.at
  have HB1 : Hid (Below w.heap.size w w1) := HB0.out.trans (hb1.mono HB0.out.size)
  have HR1 := Lib.hid hr1
  have HO1 := Lib.hid (OwnInts.keeps HO0.out hb1)
  have hz1w := HB1.out.size
  rw [World.size_alloc] at HO1
  simp only [World.size_alloc] at hg1
  clear hO1 hr1 hb1 t0 t1 t2
  go_wp2
  have hne1 : (Value.slice (some ⟨w.heap.size + 1, 0, none⟩) 0 0).ownBlock ≠ some g1 := by simp only [Value.ownBlock, ne_eq, Option.some.injEq]; omega
  go_loopw [5, 7] (fun v i wr => ∃ k : Nat, k ≤ L.length ∧ i = .int .i64 (k : Int) ∧ OwnInts wr w.heap.size v (sized q (L.take k)) ∧ Below w.heap.size w wr ∧ IntsAt wr g1 a1 L ∧ v.ownBlock ≠ some g1) (fun _ i _ => L.length - (intOf i).toNat)
  case atStart => exact ⟨0, Nat.zero_le _, rfl, HO1.out, HB1.out, HR1.out, hne1⟩
  case round =>
    clear hne1 HO1 HB1 HR1
    obtain ⟨k, hk, rfl, hO, hB, hR, hne⟩ := hrel
    have HO := Lib.hid hO
    unfold OwnInts at HO
    have HR := Lib.hid hR
    have HNE := Lib.hid hne
    have hsz := hB.size
    have hl := sized_length q (L.take k)
    rw [List.length_take, Nat.min_eq_left hk] at hl
    clear hO hR hne
    by_cases hlt : k < L.length
    · obtain ⟨t, ht, ht64⟩ := HFA.out k hlt
      obtain ⟨ea, hg1, hc1, _⟩ := HR.out k hlt
      rw [ht] at hc1
      have HT := Lib.hid ht
      obtain rfl := ea
      have hp7 := pc_le t
      obtain ⟨p, hp⟩ : ∃ p, pc t = p := ⟨_, rfl⟩
      have HP := Lib.hid hp
      rw [hp] at hp7
      clear ht hp
      by_cases e : (p : Int) = q
      · have hq : ((p : Int) == q) = true := by simp [e]
        have HN : Hid (sized q (L.take (k + 1)) = sized q (L.take k) ++ [(t : Int)]) := by
          have : sized q (L.take (k + 1)) = sized q (L.take k) ++ [(t : Int)] := by
            rw [sized_hit q L k hlt (by rw [HT.out]; show (pc t : Int) = q; rw [HP.out]; exact e), HT.out]
          exact this
        subst e
        go_wp2_with fail
        refine (l2Size_b t _ HP.out ht64 _).mono ?_
        rintro e w' ⟨rfl, rfl⟩
        go_wp2_with (at_builtin; refine wpList_append_own_at _ rfl _ _ 22 rfl w.heap.size 3 i0 (.int .i64 0) 1 8 Try.underlying22 hi hz0 hz1 hz2 rfl (by decide) _ _ _ rfl (HO.out.alloc _) ⟨wr.heap.size, 0, none⟩ 1 1 [.int .i64 (t : Int)] rfl rfl ?c1 ?c2 ?c3 ?c4 ?c5 ?_)
        case c1 => intro j u hj; exact Mem.cell_new wr _ _ j u hj
        case c2 => intro u hu; simp at hu; subst hu; rfl
        case c3 => unfold maxLen; omega
        case c4 => omega
        case c5 => simp; omega
        intro v' w3 hown1 hgrow _ hob
        have hB3 : Below w.heap.size w w3 := (hB.alloc hsz _).grown hgrow (by simp; omega) (fun g hg => (HO.out.lt g hg).1)
        have hR3 := IntsAt.away (HR.out.keeps ((Below.refl _ _).alloc (Nat.le_refl _) _)) hgrow HNE.out
        have hn3 : v'.ownBlock ≠ some g1 := by
          rcases hob with e | e
          · rw [e]; exact HNE.out
          · rw [e]; simp; omega
        have H1 := Lib.hid hown1
        have HR3 := Lib.hid hR3
        have HN3 := Lib.hid hn3
        clear hown1 hgrow hob hR3 hn3
        go_wp2
        go_roundw
        case rel => exact ⟨k + 1, by omega, by go_num, by rw [HN.out]; exact OwnInts.next H1.out, hB3, HR3.out, HN3.out⟩
        case measure => simp [intOf]; omega
      · have hq : ((p : Int) == q) = false := by simp [e]
        have HN : Hid (sized q (L.take (k + 1)) = sized q (L.take k)) := by
          have : sized q (L.take (k + 1)) = sized q (L.take k) := by
            rw [sized_miss q L k hlt (by rw [HT.out]; show (pc t : Int) ≠ q; rw [HP.out]; exact e)]
          exact this
        go_wp2_with fail
        refine (l2Size_b t _ HP.out ht64 _).mono ?_
        rintro e w' ⟨rfl, rfl⟩
        go_wp2
        go_roundw
        case rel => exact ⟨k + 1, by omega, by go_num, by rw [HN.out]; exact HO.out, hB, HR.out, HNE.out⟩
        case measure => simp [intOf]; omega
    · have E := Lib.hid (show k = L.length by omega)
      go_wp2
      go_ret
      have h2 := HO.out
      rw [E.out, List.take_length] at h2
      exact ⟨_, rfl, by rw [HLL.out]; exact h2, hB⟩

theorem OwnInts.put {w : World} {base g c : Nat} {xs : List Int} (h : OwnInts w base (.slice (some ⟨g, 0, none⟩) xs.length c) xs) (j : Nat) (x : Int) :
    OwnInts (w.setCell ⟨g, j, none⟩ (.int .i64 x)) base (.slice (some ⟨g, 0, none⟩) (xs.set j x).length c) (xs.set j x) := by
  unfold OwnInts at *
  rw [List.length_set, List.map_set]
  exact (World.ownsRow.stored h j _).1

theorem wp_region_tail {P : Program} {id : Nat} {Q : Exit → Act → World → Prop} {a : Act} {w : World} {l : List Oper} (n : Nat) (hm : P.follows .mixedOrders = true) (hB : Region.lexTailB .any l.toArray n = true)
    (h : wpStill P l.toArray w.drew (fun a' => wpList P l.toArray Q (l.drop n) a' w.drew) (l.take n) a) : (Code.region id l.toArray true).wp P Q a w := wp_region_still_tail n hm hB h

/-- The length that a slice value bears. -/
def lenOf : Value → Nat | .slice _ n _ => n | _ => 0

/-- The counts so far, with m rows. -/
def cntsTo (m : Nat) (L : List Int) : List Int := (cnts L).take m
theorem cntsTo_length (m : Nat) (L : List Int) (h : m ≤ 7) : (cntsTo m L).length = m := by unfold cntsTo; rw [List.length_take, cnts_length]; omega
theorem cntsTo_at (m : Nat) (L : List Int) (h : m ≤ 7) (j : Nat) (hj : j < m) : (cntsTo m L).getD j 0 = (cnt j L : Int) := by
  unfold cntsTo; rw [List.getD, List.getElem?_take_of_lt hj, ← List.getD_eq_getElem?_getD, cnts_at L j (by omega)]
theorem cntsTo_zero (L : List Int) : cntsTo 0 L = [] := rfl
theorem cntsTo_next (m : Nat) (L : List Int) (h : m < 7) (h0 : cnt m L = 0) : cntsTo (m + 1) L = cntsTo m L ++ [0] := by
  unfold cntsTo
  rw [take_nx _ _ (by rw [cnts_length]; exact h), cnts_at L m h, h0]; rfl
theorem cntsTo_set (m : Nat) (L : List Int) (k p : Nat) (h : k < L.length) (hp : pc (L.getD k 0).toNat = p) : (cntsTo m (L.take k)).set p ((cnt p (L.take k) : Int) + 1) = cntsTo m (L.take (k + 1)) := by
  unfold cntsTo
  rw [← cnts_set L k p h hp, List.take_set]

set_option maxRecDepth 100000 in
set_option maxHeartbeats 4000000 in
theorem specCounts_any (n : Int) (a : Option Addr) (c : Nat) (xs : List Int) (hlen : xs.length ≤ 1099511627776) (w : World) (h : Ints w a xs) :
    Calls Try.prog 26 #[cx n (.slice a xs.length c)] w fun e w' => ∃ v, e = .returned v ∧ OwnInts w' w.heap.size v (counts (faces n xs)) ∧ Below w.heap.size w w' := by
  obtain ⟨i0, hi, hz0, hz1, hz2⟩ := info_parts info_int
  have hb0 : Below w.heap.size w ((w.alloc (Obj.cells #[Value.int IntKind.i64 n, Value.slice a xs.length c] 27)).alloc (.cells #[] 3)) := ((Below.refl _ _).alloc (Nat.le_refl _) _).alloc (by simp) _
  have hO0 := OwnInts.lit (w.alloc (Obj.cells #[Value.int IntKind.i64 n, Value.slice a xs.length c] 27)) w.heap.size [] (by simp) (by simp)
  have htwo := (Two.new w (.int .i64 n) (.slice a xs.length c) 27).alloc (.cells #[] 3)
  have H := Lib.hid (h.keeps hb0)
  have HB0 := Lib.hid hb0
  have HO0 := Lib.hid hO0
  have HT := Lib.hid htwo
  clear h hb0 hO0 htwo
  have hle := faces_le n xs
  have HFA := Lib.hid (faces_at n xs)
  obtain ⟨L, hL⟩ : ∃ L, faces n xs = L := ⟨_, rfl⟩
  have HLL := Lib.hid hL
  rw [hL] at hle HFA
  clear hL
  go_enter Try.func26, Try.ntmps26
  obtain ⟨t0, t1, t2, _, _⟩ := HT.out
  go_wp2_with fail
  refine (specFaces_any n _ _ xs hlen _ H.out).mono ?_
  rw [HLL.out]
  rintro e w1 ⟨v1, rfl, hO1, hb1⟩
  obtain ⟨a1, d1, g1, rfl, hg1, hr1⟩ := hO1.at
  have HB1 : Hid (Below w.heap.size w w1) := HB0.out.trans (hb1.mono HB0.out.size)
  have HR1 := Lib.hid hr1
  have HO1 := Lib.hid (OwnInts.keeps HO0.out hb1)
  have hz1w := HB1.out.size
  rw [World.size_alloc] at HO1
  simp only [World.size_alloc] at hg1
  clear hO1 hr1 hb1 t0 t1 t2
  go_wp2
  have hne1 : (Value.slice (some ⟨w.heap.size + 1, 0, none⟩) 0 0).ownBlock ≠ some g1 := by simp only [Value.ownBlock, ne_eq, Option.some.injEq]; omega
  go_loopw [3, 5] (fun v i wr => ∃ k : Nat, k ≤ L.length ∧ i = .int .i64 (k : Int) ∧ OwnInts wr w.heap.size v (cntsTo (top (L.take k)) (L.take k)) ∧ Below w.heap.size w wr ∧ IntsAt wr g1 a1 L ∧ v.ownBlock ≠ some g1) (fun _ i _ => L.length - (intOf i).toNat)
  case atStart => exact ⟨0, Nat.zero_le _, rfl, HO1.out, HB1.out, HR1.out, hne1⟩
  case round =>
    clear hne1 HO1 HB1 HR1
    obtain ⟨k, hk, rfl, hO, hB, hR, hne⟩ := hrel
    obtain ⟨wo, rfl⟩ : ∃ wo : World, wo = wr := ⟨_, rfl⟩
    by_cases hlt : k < L.length
    · obtain ⟨t, ht, ht64⟩ := HFA.out k hlt
      have HOA := Lib.hid hO
      have HBA := Lib.hid hB
      have HRA := Lib.hid hR
      have HNE := Lib.hid hne
      have hltk : decide ((k : Int) < (L.length : Int)) = true := by simpa using hlt
      have hcl := cnt_le (pc t) (L.take k)
      rw [List.length_take, Nat.min_eq_left hk] at hcl
      have htk := top_take L k hlt
      rw [ht] at htk
      have e2 : (t : Int).toNat = t := rfl
      rw [e2] at htk
      have HTK := Lib.hid htk
      have HSET := Lib.hid (fun m => cntsTo_set m L k (pc t) hlt (by rw [ht]; rfl))
      have HT2 := Lib.hid ht
      have ht7 := top_le (L.take k)
      have HGE := Lib.hid (ge_top (L.take k))
      have hp7 := pc_le t
      obtain ⟨p, hp⟩ : ∃ p, pc t = p := ⟨_, rfl⟩
      rw [hp] at hp7 hcl HTK HSET
      have HP := Lib.hid hp
      obtain ⟨T0, hT0⟩ : ∃ T0, top (L.take k) = T0 := ⟨_, rfl⟩
      rw [hT0] at HTK HOA ht7 HGE
      clear hO hB hR hne ht htk e2 hp hT0
      go_wp2
      go_loopw [3] (fun v wr => ∃ m : Nat, m ≤ max T0 (p + 1) ∧ T0 ≤ m ∧ OwnInts wr w.heap.size v (cntsTo m (L.take k)) ∧ Below w.heap.size w wr ∧ IntsAt wr g1 a1 L ∧ v.ownBlock ≠ some g1) (fun v _ => 7 - lenOf v)
      case atStart => exact ⟨T0, Nat.le_max_left _ _, Nat.le_refl _, HOA.out, HBA.out, HRA.out, HNE.out⟩
      case round =>
        clear HOA HBA HRA HNE
        obtain ⟨m, hm, hTm, hO, hB, hR, hne⟩ := hrel
        have hm7 : m ≤ 7 := by omega
        obtain ⟨ao, co, go, rfl, hco, hgo, hro, _⟩ := OwnInts.ata hO hB.size
        have hlm := cntsTo_length m (L.take k) hm7
        rw [hlm] at hco
        have HO := Lib.hid hO
        unfold OwnInts at HO
        rw [hlm] at HO hne ⊢
        have HR := Lib.hid hR
        have HNE := Lib.hid hne
        have HRO := Lib.hid hro
        have HLM := Lib.hid hlm
        have hsz := hB.size
        obtain ⟨ea, hg1l, hc1, _⟩ := HR.out k hlt
        rw [HT2.out] at hc1
        obtain rfl := ea
        clear hO hR hne hro hlm
        by_cases hmp : m ≤ p
        · have h0 : Hid (cntsTo (m + 1) (L.take k) = cntsTo m (L.take k) ++ [0]) := by
            have : cntsTo (m + 1) (L.take k) = cntsTo m (L.take k) ++ [0] := cntsTo_next m _ (by omega) (HGE.out m hTm)
            exact this
          go_wp2_with fail
          refine (l2Size_b t _ HP.out ht64 _).mono ?_
          rintro e w' ⟨rfl, rfl⟩
          go_wp2_with (at_builtin; refine wpList_append_own_at _ rfl _ _ 22 rfl w.heap.size 3 i0 (.int .i64 0) 1 8 Try.underlying22 hi hz0 hz1 hz2 rfl (by decide) _ _ _ rfl (HO.out.alloc _) ⟨wr.heap.size, 0, none⟩ 1 1 [.int .i64 0] rfl rfl ?c1 ?c2 ?c3 ?c4 ?c5 ?_)
          case c1 => intro j u hj; exact Mem.cell_new wr _ _ j u hj
          case c2 => intro u hu; simp at hu; subst hu; rfl
          case c3 => unfold maxLen; omega
          case c4 => omega
          case c5 => simp; omega
          intro v' w3 hown1 hgrow _ hob
          have hB3 : Below w.heap.size w w3 := (hB.alloc hsz _).grown hgrow (by simp; omega) (fun g hg => (HO.out.lt g hg).1)
          have hR3 := IntsAt.away (HR.out.keeps ((Below.refl _ _).alloc (Nat.le_refl _) _)) hgrow HNE.out
          have hn3 : v'.ownBlock ≠ some g1 := by
            rcases hob with e | e
            · rw [e]; exact HNE.out
            · rw [e]; simp; omega
          have hO3 : OwnInts w3 w.heap.size v' (cntsTo (m + 1) (L.take k)) := by
            rw [h0.out]
            unfold OwnInts
            rw [List.length_append, List.map_append, HLM.out]
            exact hown1
          have hlv : lenOf v' = m + 1 := by
            obtain ⟨_, _, _, hv, _⟩ := OwnInts.ata hO3 hB3.size
            rw [hv]; exact cntsTo_length _ _ (by omega)
          have HO3 := Lib.hid hO3
          have HR3 := Lib.hid hR3
          have HN3 := Lib.hid hn3
          have HLV := Lib.hid hlv
          clear hown1 hgrow hob hR3 hn3 hO3 hlv
          go_wp2
          go_roundw
          case rel => exact ⟨m + 1, by omega, by omega, HO3.out, hB3, HR3.out, HN3.out⟩
          case measure => rw [HLV.out]; simp [lenOf]; omega
        · have hpm : p < m := by omega
          have hpm' : ¬ (m : Int) ≤ (p : Int) := by omega
          have hmx : max T0 (p + 1) = m := by omega
          obtain ⟨ea, hgl, hc2, hf2⟩ := HRO.out p (by rw [HLM.out]; exact hpm)
          rw [cntsTo_at m (L.take k) hm7 p hpm] at hc2
          obtain rfl := ea
          obtain ⟨z, hz⟩ : ∃ z, cnt p (L.take k) = z := ⟨_, rfl⟩
          rw [hz] at hc2 hcl
          have hS := HSET.out m
          rw [hz] at hS
          have hP := OwnInts.put (w := wr) (base := w.heap.size) (g := go) (c := co) (xs := cntsTo m (L.take k)) (by unfold OwnInts; rw [HLM.out]; exact HO.out) p ((z : Int) + 1)
          rw [hS, cntsTo_length m _ hm7] at hP
          have hgne : go ≠ g1 := fun e => HNE.out (by rw [e]; rfl)
          have HGNE := Lib.hid hgne
          have HPU := Lib.hid hP
          have hTn : top (L.take (k + 1)) = m := by rw [HTK.out, hmx]
          have HTN := Lib.hid hTn
          have hB4 : Below w.heap.size w (wr.setCell ⟨go, p, none⟩ (.int .i64 ((z : Int) + 1))) := hB.setCell hgo _
          have hR4 : IntsAt (wr.setCell ⟨go, p, none⟩ (.int .i64 ((z : Int) + 1))) g1 (some ⟨g1, 0, none⟩) L := HR.out.far (Mem.but_setCell _ _ _ _) (Ne.symm hgne)
          have HB4 := Lib.hid hB4
          have HR4 := Lib.hid hR4
          clear hmx hz hS hP hgne hTn hpm' hB4 hR4
          go_wp2_with fail
          refine (l2Size_b t _ HP.out ht64 _).mono ?_
          rintro e w' ⟨rfl, rfl⟩
          go_wp2_with fail
          refine wp_region_tail 16 (by kernel_rfl) (by kernel_rfl) ?_
          simp only [List.take_succ_cons, List.take_zero, List.drop_succ_cons, List.drop_zero]
          repeat (first | still_step | still_call ((l2Size_b t p HP.out ht64 _).mono fun _ _ ⟨he, hw⟩ => ⟨he, hw.symm⟩))
          refine wpStill_nil ?_
          go_wp2
          go_roundw
          case rel => exact ⟨k + 1, by omega, by go_num, by rw [HTN.out]; exact HPU.out, HB4.out.drew, HR4.out, (fun e => HGNE.out (by simpa [Value.ownBlock] using e))⟩
          case measure => simp [intOf]; omega
    · have E := Lib.hid (show k = L.length by omega)
      have HO := Lib.hid hO
      clear hO hR hne
      go_wp2
      go_ret
      have h2 := HO.out
      rw [E.out, List.take_length] at h2
      exact ⟨_, rfl, by rw [HLL.out]; exact h2, hB⟩

end Go.Proofs.Ytenpcjmhlnalcaa
