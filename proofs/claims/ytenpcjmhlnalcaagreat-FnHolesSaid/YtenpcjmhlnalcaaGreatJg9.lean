/-
  TEXTS of one claim, put together: WCnt5, WMatI1, WMatI2, WMatI3.
-/
import Derived.Test.YtenpcjmhlnalcaaGreatJg8
import Derived.StillTailTactics
import Derived.Test.YtenpcjmhlnalcaaGreatJg3
import Derived.Test.YtenpcjmhlnalcaaGreatJg4
import Derived.Deep.RegionLaw
import Derived.Deep.AppendLies
import Derived.Laws.Cover3
import Derived.Test.YtenpcjmhlnalcaaGreatJg6
import Derived.Laws.EntriesVeiled
/-! WALKS of chapter 4: EulerOf, FacesOfSize and FaceCounts by spec. -/

namespace Go.Proofs.YtenpcjmhlnalcaaGreat
open Go.RowKit
open Sets

/-- What writes into another row leave. -/
theorem IntsAt.away {w w' : World} {g : Nat} {row : Option Nat} {a : Option Addr} {xs : List Int} (h : IntsAt w g a xs) (hg : w.grownBy w' row) (hne : row ≠ some g) : IntsAt w' g a xs := fun j hj => by
  obtain ⟨e, hl, hc, hf⟩ := h j hj
  have hb := hg.block g hl (Ne.symm hne)
  have := hg.size
  exact ⟨e, by omega, by rw [World.cell?_of_block (w := w) (w' := w') (a := ⟨g, j, none⟩) hb]; exact hc, by rw [World.frozen?_of_block (w := w) (w' := w') (a := ⟨g, j, none⟩) hb]; exact hf⟩

set_option maxRecDepth 100000 in
set_option maxHeartbeats 4000000 in
theorem specEuler_any (n : Int) (a : Option Addr) (c : Nat) (xs : List Int) (hlen : xs.length ≤ 1099511627776) (w : World) (h : Ints w a xs) :
    Calls Tryz.prog 23 #[cx n (.slice a xs.length c)] w fun e w' => e = .returned (.int .i64 (eul (faces n xs))) ∧ Below w.heap.size w w' := by
  have hb0 : Below w.heap.size w (w.alloc (Obj.cells #[Value.int IntKind.i64 n, Value.slice a xs.length c] 26)) := (Below.refl _ _).alloc (Nat.le_refl _) _
  have H := Lib.hid (h.keeps hb0)
  have HB0 := Lib.hid hb0
  clear h hb0
  have hle := faces_le n xs
  have HFA := Lib.hid (faces_at n xs)
  obtain ⟨L, hL⟩ : ∃ L, faces n xs = L := ⟨_, rfl⟩
  have HLL := Lib.hid hL
  rw [hL] at hle HFA
  clear hL
  go_enter Tryz.func23, Tryz.ntmps23
  go_wp2_with fail
  refine (specFaces_any n _ _ xs hlen _ H.out).mono ?_
  rw [HLL.out]
  rintro e w1 ⟨v1, rfl, hO1, hb1⟩
  obtain ⟨a1, d1, g1, rfl, hg1, hr1⟩ := hO1.at
  have HB1 : Hid (Below w.heap.size w w1) := HB0.out.trans (hb1.mono (by simp))
  have HR1 := Lib.hid hr1.ints
  clear hO1 hr1 hb1 hg1
  go_wp2
  go_loop [3, 5] (fun v i => ∃ k : Nat, k ≤ L.length ∧ i = .int .i64 (k : Int) ∧ v = .int .i64 (eul (L.take k))) (fun _ i => L.length - (intOf i).toNat)
  case atStart => exact ⟨0, Nat.zero_le _, rfl, rfl⟩
  case round =>
    obtain ⟨k, hk, rfl, rfl⟩ := hrel
    by_cases hlt : k < L.length
    · obtain ⟨b0, o, rfl, g⟩ := HR1.out k hlt
      obtain ⟨t, ht, ht64⟩ := HFA.out k hlt
      have hn := eul_take L k hlt
      have hbd := eul_bound (L.take k)
      rw [List.length_take, Nat.min_eq_left hk] at hbd
      rw [ht] at g hn
      have e2 : (t : Int).toNat = t := rfl
      rw [e2] at hn
      have h7 := pc_le t
      obtain ⟨p, hp⟩ : ∃ p, pc t = p := ⟨_, rfl⟩
      rw [hp] at hn h7
      have HP := Lib.hid hp
      have HN := Lib.hid hn
      clear hn ht e2 hp
      generalize eul (L.take k) = s at *
      have hs1 : -448 ≤ s := by omega
      have hs2 : s ≤ 448 := by omega
      clear hbd
      rcases (by omega : p = 0 ∨ p = 1 ∨ p = 2 ∨ p = 3 ∨ p = 4 ∨ p = 5 ∨ p = 6) with rfl | rfl | rfl | rfl | rfl | rfl | rfl <;>
      · go_wp2_with fail
        refine (l2Size_b t _ HP.out ht64 _).mono ?_
        rintro e w' ⟨rfl, rfl⟩
        go_wp2
        go_round
        case rel => exact ⟨k + 1, by omega, by go_num, by rw [HN.out]; go_num⟩
        case measure => simp [intOf]; omega
    · have E := Lib.hid (show k = L.length by omega)
      go_wp2
      go_ret
      exact ⟨by rw [HLL.out, E.out, List.take_length]; rfl, HB1.out⟩

set_option maxRecDepth 100000 in
set_option maxHeartbeats 4000000 in
theorem specSized_any (n : Int) (a : Option Addr) (c : Nat) (xs : List Int) (hlen : xs.length ≤ 1099511627776) (q : Int) (w : World) (h : Ints w a xs) :
    Calls Tryz.prog 54 #[cx n (.slice a xs.length c), .int .i64 q] w fun e w' => ∃ v, e = .returned v ∧ OwnInts w' w.heap.size v (sized q (faces n xs)) ∧ Below w.heap.size w w' := by
  obtain ⟨i0, hi, hz0, hz1, hz2⟩ := info_parts info_int
  have hb0 : Below w.heap.size w ((w.alloc (Obj.cells #[Value.int IntKind.i64 n, Value.slice a xs.length c] 26)).alloc (.cells #[] 3)) := ((Below.refl _ _).alloc (Nat.le_refl _) _).alloc (by simp) _
  have hO0 := OwnInts.lit (w.alloc (Obj.cells #[Value.int IntKind.i64 n, Value.slice a xs.length c] 26)) w.heap.size [] (by simp) (by simp)
  have htwo := (Two.new w (.int .i64 n) (.slice a xs.length c) 26).alloc (.cells #[] 3)
  have H := Lib.hid (h.keeps hb0)
  have HB0 := Lib.hid hb0
  have HO0 := Lib.hid hO0
  have HT := Lib.hid htwo
  clear h hb0 hO0 htwo
  have hle := faces_le n xs
  have HFA := Lib.hid (faces_at n xs)
  obtain ⟨L, hL⟩ : ∃ L, faces n xs = L := ⟨_, rfl⟩
  have HLL := Lib.hid hL
  rw [hL] at hle HFA
  clear hL
  go_enter Tryz.func54, Tryz.ntmps54
  obtain ⟨t0, t1, t2, _, _⟩ := HT.out
  go_wp2_with fail
  refine (specFaces_any n _ _ xs hlen _ H.out).mono ?_
  rw [HLL.out]
  rintro e w1 ⟨v1, rfl, hO1, hb1⟩
  obtain ⟨a1, d1, g1, rfl, hg1, hr1⟩ := hO1.at
  have HB1 : Hid (Below w.heap.size w w1) := HB0.out.trans (hb1.mono HB0.out.size)
  have HR1 := Lib.hid hr1
  have HO1 := Lib.hid (OwnInts.keeps HO0.out hb1)
  have hz1w := HB1.out.size
  rw [World.size_alloc] at HO1
  simp only [World.size_alloc] at hg1
  clear hO1 hr1 hb1 t0 t1 t2
  go_wp2
  have hne1 : (Value.slice (some ⟨w.heap.size + 1, 0, none⟩) 0 0).ownBlock ≠ some g1 := by simp only [Value.ownBlock, ne_eq, Option.some.injEq]; omega
  go_loopw [5, 7] (fun v i wr => ∃ k : Nat, k ≤ L.length ∧ i = .int .i64 (k : Int) ∧ OwnInts wr w.heap.size v (sized q (L.take k)) ∧ Below w.heap.size w wr ∧ IntsAt wr g1 a1 L ∧ v.ownBlock ≠ some g1) (fun _ i _ => L.length - (intOf i).toNat)
  case atStart => exact ⟨0, Nat.zero_le _, rfl, HO1.out, HB1.out, HR1.out, hne1⟩
  case round =>
    clear hne1 HO1 HB1 HR1
    obtain ⟨k, hk, rfl, hO, hB, hR, hne⟩ := hrel
    have HO := Lib.hid hO
    unfold OwnInts at HO
    have HR := Lib.hid hR
    have HNE := Lib.hid hne
    have hsz := hB.size
    have hl := sized_length q (L.take k)
    rw [List.length_take, Nat.min_eq_left hk] at hl
    clear hO hR hne
    by_cases hlt : k < L.length
    · obtain ⟨t, ht, ht64⟩ := HFA.out k hlt
      obtain ⟨ea, hg1, hc1, _⟩ := HR.out k hlt
      rw [ht] at hc1
      have HT := Lib.hid ht
      obtain rfl := ea
      have hp7 := pc_le t
      obtain ⟨p, hp⟩ : ∃ p, pc t = p := ⟨_, rfl⟩
      have HP := Lib.hid hp
      rw [hp] at hp7
      clear ht hp
      by_cases e : (p : Int) = q
      · have hq : ((p : Int) == q) = true := by simp [e]
        have HN : Hid (sized q (L.take (k + 1)) = sized q (L.take k) ++ [(t : Int)]) := by
          have : sized q (L.take (k + 1)) = sized q (L.take k) ++ [(t : Int)] := by
            rw [sized_hit q L k hlt (by rw [HT.out]; show (pc t : Int) = q; rw [HP.out]; exact e), HT.out]
          exact this
        subst e
        go_wp2_with fail
        refine (l2Size_b t _ HP.out ht64 _).mono ?_
        rintro e w' ⟨rfl, rfl⟩
        go_wp2_with (at_builtin; refine wpList_append_own_at _ rfl _ _ 24 rfl w.heap.size 3 i0 (.int .i64 0) 1 8 Tryz.underlying24 hi hz0 hz1 hz2 rfl (by decide) _ _ _ rfl (HO.out.alloc _) ⟨wr.heap.size, 0, none⟩ 1 1 [.int .i64 (t : Int)] rfl rfl ?c1 ?c2 ?c3 ?c4 ?c5 ?_)
        case c1 => intro j u hj; exact Mem.cell_new wr _ _ j u hj
        case c2 => intro u hu; simp at hu; subst hu; rfl
        case c3 => unfold maxLen; omega
        case c4 => omega
        case c5 => simp; omega
        intro v' w3 hown1 hgrow _ hob
        have hB3 : Below w.heap.size w w3 := (hB.alloc hsz _).grown hgrow (by simp; omega) (fun g hg => (HO.out.lt g hg).1)
        have hR3 := IntsAt.away (HR.out.keeps ((Below.refl _ _).alloc (Nat.le_refl _) _)) hgrow HNE.out
        have hn3 : v'.ownBlock ≠ some g1 := by
          rcases hob with e | e
          · rw [e]; exact HNE.out
          · rw [e]; simp; omega
        have H1 := Lib.hid hown1
        have HR3 := Lib.hid hR3
        have HN3 := Lib.hid hn3
        clear hown1 hgrow hob hR3 hn3
        go_wp2
        go_roundw
        case rel => exact ⟨k + 1, by omega, by go_num, by rw [HN.out]; exact OwnInts.next H1.out, hB3, HR3.out, HN3.out⟩
        case measure => simp [intOf]; omega
      · have hq : ((p : Int) == q) = false := by simp [e]
        have HN : Hid (sized q (L.take (k + 1)) = sized q (L.take k)) := by
          have : sized q (L.take (k + 1)) = sized q (L.take k) := by
            rw [sized_miss q L k hlt (by rw [HT.out]; show (pc t : Int) ≠ q; rw [HP.out]; exact e)]
          exact this
        go_wp2_with fail
        refine (l2Size_b t _ HP.out ht64 _).mono ?_
        rintro e w' ⟨rfl, rfl⟩
        go_wp2
        go_roundw
        case rel => exact ⟨k + 1, by omega, by go_num, by rw [HN.out]; exact HO.out, hB, HR.out, HNE.out⟩
        case measure => simp [intOf]; omega
    · have E := Lib.hid (show k = L.length by omega)
      go_wp2
      go_ret
      have h2 := HO.out
      rw [E.out, List.take_length] at h2
      exact ⟨_, rfl, by rw [HLL.out]; exact h2, hB⟩

theorem OwnInts.put {w : World} {base g c : Nat} {xs : List Int} (h : OwnInts w base (.slice (some ⟨g, 0, none⟩) xs.length c) xs) (j : Nat) (x : Int) :
    OwnInts (w.setCell ⟨g, j, none⟩ (.int .i64 x)) base (.slice (some ⟨g, 0, none⟩) (xs.set j x).length c) (xs.set j x) := by
  unfold OwnInts at *
  rw [List.length_set, List.map_set]
  exact (World.ownsRow.stored h j _).1

theorem wp_region_tail {P : Program} {id : Nat} {Q : Exit → Act → World → Prop} {a : Act} {w : World} {l : List Oper} (n : Nat) (hm : P.follows .mixedOrders = true) (hB : Region.lexTailB .any l.toArray n = true)
    (h : wpStill P l.toArray w.drew (fun a' => wpList P l.toArray Q (l.drop n) a' w.drew) (l.take n) a) : (Code.region id l.toArray true).wp P Q a w := wp_region_still_tail n hm hB h

/-- The length that a slice value bears. -/
def lenOf : Value → Nat | .slice _ n _ => n | _ => 0

/-- The counts so far, with m rows. -/
def cntsTo (m : Nat) (L : List Int) : List Int := (cnts L).take m
theorem cntsTo_length (m : Nat) (L : List Int) (h : m ≤ 7) : (cntsTo m L).length = m := by unfold cntsTo; rw [List.length_take, cnts_length]; omega
theorem cntsTo_at (m : Nat) (L : List Int) (h : m ≤ 7) (j : Nat) (hj : j < m) : (cntsTo m L).getD j 0 = (cnt j L : Int) := by
  unfold cntsTo; rw [List.getD, List.getElem?_take_of_lt hj, ← List.getD_eq_getElem?_getD, cnts_at L j (by omega)]
theorem cntsTo_zero (L : List Int) : cntsTo 0 L = [] := rfl
theorem cntsTo_next (m : Nat) (L : List Int) (h : m < 7) (h0 : cnt m L = 0) : cntsTo (m + 1) L = cntsTo m L ++ [0] := by
  unfold cntsTo
  rw [take_nx _ _ (by rw [cnts_length]; exact h), cnts_at L m h, h0]; rfl
theorem cntsTo_set (m : Nat) (L : List Int) (k p : Nat) (h : k < L.length) (hp : pc (L.getD k 0).toNat = p) : (cntsTo m (L.take k)).set p ((cnt p (L.take k) : Int) + 1) = cntsTo m (L.take (k + 1)) := by
  unfold cntsTo
  rw [← cnts_set L k p h hp, List.take_set]

set_option maxRecDepth 100000 in
set_option maxHeartbeats 4000000 in
theorem specCounts_any (n : Int) (a : Option Addr) (c : Nat) (xs : List Int) (hlen : xs.length ≤ 1099511627776) (w : World) (h : Ints w a xs) :
    Calls Tryz.prog 34 #[cx n (.slice a xs.length c)] w fun e w' => ∃ v, e = .returned v ∧ OwnInts w' w.heap.size v (counts (faces n xs)) ∧ Below w.heap.size w w' := by
  obtain ⟨i0, hi, hz0, hz1, hz2⟩ := info_parts info_int
  have hb0 : Below w.heap.size w ((w.alloc (Obj.cells #[Value.int IntKind.i64 n, Value.slice a xs.length c] 26)).alloc (.cells #[] 3)) := ((Below.refl _ _).alloc (Nat.le_refl _) _).alloc (by simp) _
  have hO0 := OwnInts.lit (w.alloc (Obj.cells #[Value.int IntKind.i64 n, Value.slice a xs.length c] 26)) w.heap.size [] (by simp) (by simp)
  have htwo := (Two.new w (.int .i64 n) (.slice a xs.length c) 26).alloc (.cells #[] 3)
  have H := Lib.hid (h.keeps hb0)
  have HB0 := Lib.hid hb0
  have HO0 := Lib.hid hO0
  have HT := Lib.hid htwo
  clear h hb0 hO0 htwo
  have hle := faces_le n xs
  have HFA := Lib.hid (faces_at n xs)
  obtain ⟨L, hL⟩ : ∃ L, faces n xs = L := ⟨_, rfl⟩
  have HLL := Lib.hid hL
  rw [hL] at hle HFA
  clear hL
  go_enter Tryz.func34, Tryz.ntmps34
  obtain ⟨t0, t1, t2, _, _⟩ := HT.out
  go_wp2_with fail
  refine (specFaces_any n _ _ xs hlen _ H.out).mono ?_
  rw [HLL.out]
  rintro e w1 ⟨v1, rfl, hO1, hb1⟩
  obtain ⟨a1, d1, g1, rfl, hg1, hr1⟩ := hO1.at
  have HB1 : Hid (Below w.heap.size w w1) := HB0.out.trans (hb1.mono HB0.out.size)
  have HR1 := Lib.hid hr1
  have HO1 := Lib.hid (OwnInts.keeps HO0.out hb1)
  have hz1w := HB1.out.size
  rw [World.size_alloc] at HO1
  simp only [World.size_alloc] at hg1
  clear hO1 hr1 hb1 t0 t1 t2
  go_wp2
  have hne1 : (Value.slice (some ⟨w.heap.size + 1, 0, none⟩) 0 0).ownBlock ≠ some g1 := by simp only [Value.ownBlock, ne_eq, Option.some.injEq]; omega
  go_loopw [3, 5] (fun v i wr => ∃ k : Nat, k ≤ L.length ∧ i = .int .i64 (k : Int) ∧ OwnInts wr w.heap.size v (cntsTo (top (L.take k)) (L.take k)) ∧ Below w.heap.size w wr ∧ IntsAt wr g1 a1 L ∧ v.ownBlock ≠ some g1) (fun _ i _ => L.length - (intOf i).toNat)
  case atStart => exact ⟨0, Nat.zero_le _, rfl, HO1.out, HB1.out, HR1.out, hne1⟩
  case round =>
    clear hne1 HO1 HB1 HR1
    obtain ⟨k, hk, rfl, hO, hB, hR, hne⟩ := hrel
    obtain ⟨wo, rfl⟩ : ∃ wo : World, wo = wr := ⟨_, rfl⟩
    by_cases hlt : k < L.length
    · obtain ⟨t, ht, ht64⟩ := HFA.out k hlt
      have HOA := Lib.hid hO
      have HBA := Lib.hid hB
      have HRA := Lib.hid hR
      have HNE := Lib.hid hne
      have hltk : decide ((k : Int) < (L.length : Int)) = true := by simpa using hlt
      have hcl := cnt_le (pc t) (L.take k)
      rw [List.length_take, Nat.min_eq_left hk] at hcl
      have htk := top_take L k hlt
      rw [ht] at htk
      have e2 : (t : Int).toNat = t := rfl
      rw [e2] at htk
      have HTK := Lib.hid htk
      have HSET := Lib.hid (fun m => cntsTo_set m L k (pc t) hlt (by rw [ht]; rfl))
      have HT2 := Lib.hid ht
      have ht7 := top_le (L.take k)
      have HGE := Lib.hid (ge_top (L.take k))
      have hp7 := pc_le t
      obtain ⟨p, hp⟩ : ∃ p, pc t = p := ⟨_, rfl⟩
      rw [hp] at hp7 hcl HTK HSET
      have HP := Lib.hid hp
      obtain ⟨T0, hT0⟩ : ∃ T0, top (L.take k) = T0 := ⟨_, rfl⟩
      rw [hT0] at HTK HOA ht7 HGE
      clear hO hB hR hne ht htk e2 hp hT0
      go_wp2
      go_loopw [3] (fun v wr => ∃ m : Nat, m ≤ max T0 (p + 1) ∧ T0 ≤ m ∧ OwnInts wr w.heap.size v (cntsTo m (L.take k)) ∧ Below w.heap.size w wr ∧ IntsAt wr g1 a1 L ∧ v.ownBlock ≠ some g1) (fun v _ => 7 - lenOf v)
      case atStart => exact ⟨T0, Nat.le_max_left _ _, Nat.le_refl _, HOA.out, HBA.out, HRA.out, HNE.out⟩
      case round =>
        clear HOA HBA HRA HNE
        obtain ⟨m, hm, hTm, hO, hB, hR, hne⟩ := hrel
        have hm7 : m ≤ 7 := by omega
        obtain ⟨ao, co, go, rfl, hco, hgo, hro, _⟩ := OwnInts.ata hO hB.size
        have hlm := cntsTo_length m (L.take k) hm7
        rw [hlm] at hco
        have HO := Lib.hid hO
        unfold OwnInts at HO
        rw [hlm] at HO hne ⊢
        have HR := Lib.hid hR
        have HNE := Lib.hid hne
        have HRO := Lib.hid hro
        have HLM := Lib.hid hlm
        have hsz := hB.size
        obtain ⟨ea, hg1l, hc1, _⟩ := HR.out k hlt
        rw [HT2.out] at hc1
        obtain rfl := ea
        clear hO hR hne hro hlm
        by_cases hmp : m ≤ p
        · have h0 : Hid (cntsTo (m + 1) (L.take k) = cntsTo m (L.take k) ++ [0]) := by
            have : cntsTo (m + 1) (L.take k) = cntsTo m (L.take k) ++ [0] := cntsTo_next m _ (by omega) (HGE.out m hTm)
            exact this
          go_wp2_with fail
          refine (l2Size_b t _ HP.out ht64 _).mono ?_
          rintro e w' ⟨rfl, rfl⟩
          go_wp2_with (at_builtin; refine wpList_append_own_at _ rfl _ _ 24 rfl w.heap.size 3 i0 (.int .i64 0) 1 8 Tryz.underlying24 hi hz0 hz1 hz2 rfl (by decide) _ _ _ rfl (HO.out.alloc _) ⟨wr.heap.size, 0, none⟩ 1 1 [.int .i64 0] rfl rfl ?c1 ?c2 ?c3 ?c4 ?c5 ?_)
          case c1 => intro j u hj; exact Mem.cell_new wr _ _ j u hj
          case c2 => intro u hu; simp at hu; subst hu; rfl
          case c3 => unfold maxLen; omega
          case c4 => omega
          case c5 => simp; omega
          intro v' w3 hown1 hgrow _ hob
          have hB3 : Below w.heap.size w w3 := (hB.alloc hsz _).grown hgrow (by simp; omega) (fun g hg => (HO.out.lt g hg).1)
          have hR3 := IntsAt.away (HR.out.keeps ((Below.refl _ _).alloc (Nat.le_refl _) _)) hgrow HNE.out
          have hn3 : v'.ownBlock ≠ some g1 := by
            rcases hob with e | e
            · rw [e]; exact HNE.out
            · rw [e]; simp; omega
          have hO3 : OwnInts w3 w.heap.size v' (cntsTo (m + 1) (L.take k)) := by
            rw [h0.out]
            unfold OwnInts
            rw [List.length_append, List.map_append, HLM.out]
            exact hown1
          have hlv : lenOf v' = m + 1 := by
            obtain ⟨_, _, _, hv, _⟩ := OwnInts.ata hO3 hB3.size
            rw [hv]; exact cntsTo_length _ _ (by omega)
          have HO3 := Lib.hid hO3
          have HR3 := Lib.hid hR3
          have HN3 := Lib.hid hn3
          have HLV := Lib.hid hlv
          clear hown1 hgrow hob hR3 hn3 hO3 hlv
          go_wp2
          go_roundw
          case rel => exact ⟨m + 1, by omega, by omega, HO3.out, hB3, HR3.out, HN3.out⟩
          case measure => rw [HLV.out]; simp [lenOf]; omega
        · have hpm : p < m := by omega
          have hpm' : ¬ (m : Int) ≤ (p : Int) := by omega
          have hmx : max T0 (p + 1) = m := by omega
          obtain ⟨ea, hgl, hc2, hf2⟩ := HRO.out p (by rw [HLM.out]; exact hpm)
          rw [cntsTo_at m (L.take k) hm7 p hpm] at hc2
          obtain rfl := ea
          obtain ⟨z, hz⟩ : ∃ z, cnt p (L.take k) = z := ⟨_, rfl⟩
          rw [hz] at hc2 hcl
          have hS := HSET.out m
          rw [hz] at hS
          have hP := OwnInts.put (w := wr) (base := w.heap.size) (g := go) (c := co) (xs := cntsTo m (L.take k)) (by unfold OwnInts; rw [HLM.out]; exact HO.out) p ((z : Int) + 1)
          rw [hS, cntsTo_length m _ hm7] at hP
          have hgne : go ≠ g1 := fun e => HNE.out (by rw [e]; rfl)
          have HGNE := Lib.hid hgne
          have HPU := Lib.hid hP
          have hTn : top (L.take (k + 1)) = m := by rw [HTK.out, hmx]
          have HTN := Lib.hid hTn
          have hB4 : Below w.heap.size w (wr.setCell ⟨go, p, none⟩ (.int .i64 ((z : Int) + 1))) := hB.setCell hgo _
          have hR4 : IntsAt (wr.setCell ⟨go, p, none⟩ (.int .i64 ((z : Int) + 1))) g1 (some ⟨g1, 0, none⟩) L := HR.out.far (Mem.but_setCell _ _ _ _) (Ne.symm hgne)
          have HB4 := Lib.hid hB4
          have HR4 := Lib.hid hR4
          clear hmx hz hS hP hgne hTn hpm' hB4 hR4
          go_wp2_with fail
          refine (l2Size_b t _ HP.out ht64 _).mono ?_
          rintro e w' ⟨rfl, rfl⟩
          go_wp2_with fail
          refine wp_region_tail 16 (by kernel_rfl) (by kernel_rfl) ?_
          simp only [List.take_succ_cons, List.take_zero, List.drop_succ_cons, List.drop_zero]
          repeat (first | still_step | still_call ((l2Size_b t p HP.out ht64 _).mono fun _ _ ⟨he, hw⟩ => ⟨he, hw.symm⟩))
          refine wpStill_nil ?_
          go_wp2
          go_roundw
          case rel => exact ⟨k + 1, by omega, by go_num, by rw [HTN.out]; exact HPU.out, HB4.out.drew, HR4.out, (fun e => HGNE.out (by simpa [Value.ownBlock] using e))⟩
          case measure => simp [intOf]; omega
    · have E := Lib.hid (show k = L.length by omega)
      have HO := Lib.hid hO
      clear hO hR hne
      go_wp2
      go_ret
      have h2 := HO.out
      rw [E.out, List.take_length] at h2
      exact ⟨_, rfl, by rw [HLL.out]; exact h2, hB⟩

end Go.Proofs.YtenpcjmhlnalcaaGreat

/-! WALKS of chapter 13 (impl): a row cloned; the height and the width of a matrix; the matrix of zeros. -/

namespace Go.Proofs.YtenpcjmhlnalcaaGreat
open Go.RowKit

theorem eqlM_nil (a : Option Addr) (l c : Nat) (w : World) : (binOp .eql 24 (.slice a l c) (.slice none 0 0)).run Tryz.prog w = .ok (.bool a.isNone) w := by
  unfold binOp
  simp [run_equal_slice_nil w 24 3 a l c Tryz.underlying24, Result.andThen]

attribute [local go_sem ↓] eqlM_nil

theorem Ints.newsP {w : World} {ad : Addr} {xs : List Int} (h : Ints w (some ad) xs) : ∀ (j : Nat) u, (xs.map (Value.int .i64))[j]? = some u → w.cell? (ad.add j) = some u := fun j u hu => by
  have hj : j < (xs.map (Value.int .i64)).length := (List.getElem?_eq_some_iff.1 hu).1
  rw [List.length_map] at hj
  rw [ints_cell xs j hj] at hu
  cases hu
  obtain ⟨b, o, e, hc⟩ := h j hj
  cases e
  have e1 : (⟨b, o, none⟩ : Addr).add j = ⟨b, o + j, none⟩ := by unfold Addr.add; split <;> simp_all
  rw [e1]; exact hc
theorem Ints.nilM {w : World} {xs : List Int} (h : Ints w none xs) : xs = [] := by
  rcases Nat.eq_zero_or_pos xs.length with e | e
  · exact List.eq_nil_of_length_eq_zero e
  · obtain ⟨_, _, e, _⟩ := h 0 e; cases e
theorem one_intsP (xs : List Int) : ∀ u ∈ xs.map (Value.int .i64), u.oneCell' = true := by
  intro u hu; obtain ⟨x, _, rfl⟩ := List.mem_map.1 hu; rfl
theorem run_append_noneM {P : Program} {w : World} (base : Nat) (t ty e : TypeId) (i : TypeInfo) (size : Nat) (ht : P.underlying t = some (.slice e)) (hi : P.info? e = some i)
    (v : Value) (n : Nat) (xs : List Value) (hown : w.ownsRow base e size v n xs) (c : Nat) :
    (Builtin.append_ #[t, t] ty #[v, .slice none 0 c]).run P w = .ok v w := by
  rcases hown.2 with ⟨rfl, rfl⟩ | ⟨g, cap, cur, rfl, _, _, hnc, _⟩
  · simp [Builtin.append_, run_underlying ht, sizeOf, typeInfo, hi, Builtin.lenOf, Builtin.firstCells]
  · simp [Builtin.append_, run_underlying ht, sizeOf, typeInfo, hi, Builtin.lenOf, Builtin.firstCells, hnc, storeCells]
/-- append of a slice that lies anywhere or is nil. -/
theorem wpList_append_srcM {P : Program} {ops : Array Oper} {rest : List Oper} {o : Oper} {a : Act} {w : World} {Q : Exit → Act → World → Prop} (hgd : o.guard = none) (s x : Operand) (t : TypeId)
    (ho : o.op = .call { callee := .builtin .append, args := #[s, x], argTypes := #[t, t] })
    (base : Nat) (e : TypeId) (i : TypeInfo) (z : Value) (ht : P.underlying t = some (.slice e)) (hi : P.info? e = some i) (hz : i.zero = some z)
    (hsize : i.size = 1) (hby : i.bytes = 8) (hzs : z.cells.size = 1)
    (v : Value) (n : Nat) (xs : List Value) (hs : a.eval s = v) (hown : w.ownsRow base e 1 v n xs)
    (src : Option Addr) (c : Nat) (ys : List Int) (hx : a.eval x = .slice src ys.length c) (hys : Ints w src ys)
    (h63 : n + ys.length ≤ maxLen) (hbytes : (n + ys.length) * 8 ≤ 140737488355328) (hbase : base ≤ w.heap.size)
    (h : ∀ v' w', w'.ownsRow base e 1 v' (n + ys.length) (xs ++ ys.map (Value.int .i64)) → w.grownBy w' v.ownBlock → wpList P ops Q rest (a.put o.dst v') w') :
    wpList P ops Q (o :: rest) a w := by
  cases src with
  | some ad => exact wpList_append_own w hgd s x t ho base e i z 1 8 ht hi hz hsize hby hzs (by decide) v n xs hs hown ad ys.length c (ys.map (Value.int .i64)) hx (by simp) (Ints.newsP hys) (one_intsP ys) h63 hbytes hbase fun v' w' h2 h3 _ => h v' w' h2 h3
  | none =>
    have hyn := hys.nilM
    subst hyn
    have hrun := run_append_noneM (P := P) (w := w) base t o.type e i 1 ht hi v n xs hown c
    have hk := h v w (by simpa using hown) (World.grownBy.refl w _)
    have hx2 : a.eval x = .slice none 0 c := hx
    refine wpList_plain hgd fun K hK => ?_
    unfold Oper.wp execOp
    simp only [ho, resolve, invoke, builtin, Sem.run_bind, Sem.run_pure, Result.andThen_ok, List.map_toArray, List.map_cons, List.map_nil, hs, hx2, hrun]
    exact hK _ _ hk

set_option maxRecDepth 100000 in
set_option maxHeartbeats 2000000 in
theorem cloneS_any (ad : Addr) (c : Nat) (xs : List Int) (hlen : xs.length ≤ 1099511627776) (w : World) (h : Ints w (some ad) xs) :
    Calls Tryz.prog 91 #[.slice (some ad) xs.length c] w fun e w' => ∃ g cc, e = .returned (.slice (some ⟨g, 0, none⟩) xs.length cc) ∧ OwnInts w' w.heap.size (.slice (some ⟨g, 0, none⟩) xs.length cc) xs ∧ Below w.heap.size w w' := by
  obtain ⟨i0, hi, hz0, hz1, hz2⟩ := info_parts info_int
  have hb1 : Below w.heap.size w (w.alloc (.cells #[] 3)) := (Below.refl _ _).alloc (Nat.le_refl _) _
  have HN1 := Lib.hid (h.keeps hb1)
  have HO0 := Lib.hid (OwnInts.lit w w.heap.size [] (Nat.le_refl _) (by simp))
  have HB1 := Lib.hid hb1
  clear hb1 h
  unfold OwnInts at HO0
  go_enter Tryz.func91, Tryz.ntmps91
  go_wp2_with (at_builtin; refine wpList_append_own_at _ rfl _ _ 24 rfl w.heap.size 3 i0 (.int .i64 0) 1 8 Tryz.underlying24 hi hz0 hz1 hz2 rfl (by decide) (.slice (some ⟨w.heap.size, 0, none⟩) 0 0) 0 [] rfl HO0.out ad xs.length c (xs.map (Value.int .i64)) rfl ?c0 (Ints.newsP HN1.out) (one_intsP _) ?c3 ?c4 ?c5 ?_)
  case c0 => rw [List.length_map]; simp
  case c3 => unfold maxLen; omega
  case c4 => omega
  case c5 => simp
  intro v1 w3 hown1 hgrow1 _ hob
  have hb3 : Below w.heap.size w w3 := HB1.out.grown hgrow1 (by simp) (fun g hg => by simp only [Value.ownBlock, Option.some.injEq] at hg; omega)
  have hO3 : OwnInts w3 w.heap.size v1 xs := by
    unfold OwnInts
    have h := hown1
    exact h
  obtain ⟨g, cc, rfl⟩ : ∃ g cc, v1 = .slice (some ⟨g, 0, none⟩) xs.length cc := by
    rcases hown1.2 with ⟨hv, _⟩ | ⟨g, cap, cur, hv, _⟩
    · rw [hv] at hob
      rcases hob with e | e <;> cases e
    · exact ⟨g, cap, by rw [hv]⟩
  have HO3 := Lib.hid hO3
  have HB3 := Lib.hid hb3
  clear hown1 hgrow1 hO3 hb3 hob
  go_wp2
  go_ret
  exact ⟨g, cc, rfl, HO3.out, HB3.out⟩

set_option maxRecDepth 100000 in
set_option maxHeartbeats 2000000 in
theorem height_any {base P : Nat} {v : Value} {R : List (Nat × Nat)} {M : Lin.Mat} (w : World) (h : MP w base P v R M) :
    Calls Tryz.prog 95 #[.pointer (some ⟨P, 0, none⟩)] w fun e w' => e = .returned (.int .i64 (M.length : Int)) ∧ w = w' := by
  obtain ⟨go, ao, co, rfl, -⟩ := h.own.mx
  have hc := h.cell
  clear h
  go_enter Tryz.func95, Tryz.ntmps95
  go_wp2
  go_ret
  exact ⟨rfl, rfl⟩

set_option maxRecDepth 100000 in
set_option maxHeartbeats 2000000 in
theorem width_any {base P : Nat} {v : Value} {R : List (Nat × Nat)} {M : Lin.Mat} (w : World) (h : MP w base P v R M) :
    Calls Tryz.prog 68 #[.pointer (some ⟨P, 0, none⟩)] w fun e w' => e = .returned (.int .i64 (Lin.wid M : Int)) ∧ w = w' := by
  obtain ⟨go, ao, co, rfl, -, hX⟩ := h.own.mx
  have hc := h.cell
  have hw0 : M.length = 0 → Lin.wid M = 0 := fun e => by
    rw [List.eq_nil_of_length_eq_zero e]; rfl
  have HW0 := Lib.hid hw0
  by_cases h0 : 0 < M.length
  · obtain ⟨hao, hgol, hc0, -⟩ := hX.out 0 h0
    subst hao
    have hd0 : ¬((M.length : Int) = 0) := by omega
    obtain ⟨n, hn⟩ : ∃ n, (Lin.row M 0).length = n := ⟨_, rfl⟩
    rw [hn] at hc0
    rw [show Lin.wid M = n from hn]
    clear h hX hw0 hn
    go_enter Tryz.func68, Tryz.ntmps68
    go_wp2
    go_ret
    exact ⟨rfl, rfl⟩
  · have hz : M.length = 0 := by omega
    rw [HW0.out hz]
    rw [hz] at hc
    clear h hX hw0
    go_enter Tryz.func68, Tryz.ntmps68
    go_wp2
    go_ret
    exact ⟨rfl, rfl⟩

def zeroM (h n : Nat) : Lin.Mat := List.replicate h (List.replicate n 0)
theorem zeroM_length (h n : Nat) : (zeroM h n).length = h := by simp [zeroM]
theorem zeroM_next (h n : Nat) : zeroM (h + 1) n = zeroM h n ++ [List.replicate n 0] := by unfold zeroM; rw [List.replicate_succ']

set_option maxRecDepth 100000 in
set_option maxHeartbeats 4000000 in
theorem zeroMatrix_any (h n : Nat) (zh zn : Int) (ezh : zh = (h : Int)) (ezn : zn = (n : Int)) (hh : h ≤ 1099511627776) (hn : n ≤ 1099511627776) (w : World) :
    Calls Tryz.prog 64 #[.int .i64 zh, .int .i64 zn] w fun e w' => ∃ P v R, e = .returned (.pointer (some ⟨P, 0, none⟩)) ∧ MP w' w.heap.size P v R (zeroM h n) ∧ Below w.heap.size w w' := by
  obtain ⟨i9, hi9, hz90, hz91, hz92⟩ := info_parts info_row
  subst ezh ezn
  have hmk := make_ints n hn
  have HMR := Lib.hid (fun W => made_row W n hn)
  obtain ⟨Z, hZ⟩ : ∃ Z, ((List.replicate n (0 : Int)).map (Value.int .i64)).toArray = Z := ⟨_, rfl⟩
  rw [hZ] at hmk
  simp only [hZ] at HMR
  have HP0 := Lib.hid (MP.new w w.heap.size (Nat.le_refl _) 72)
  have HB0 : Hid (Below w.heap.size w (w.alloc (.cells #[.slice none 0 0] 72))) := (Below.refl _ _).alloc (Nat.le_refl _) _
  clear hZ
  go_enter Tryz.func64, Tryz.ntmps64
  go_wp2
  go_loopw [9] (fun i wr => ∃ (k : Nat) (v : Value) (R : List (Nat × Nat)), k ≤ h ∧ i = .int .i64 (k : Int) ∧ MP wr w.heap.size w.heap.size v R (zeroM k n) ∧ Below w.heap.size w wr) (fun i _ => h - (intOf i).toNat)
  case atStart => exact ⟨0, _, [], Nat.zero_le _, rfl, HP0.out, HB0.out⟩
  case round =>
    clear HP0 HB0
    obtain ⟨k, v, R, hk, rfl, hM, hB⟩ := hrel
    have HM := Lib.hid hM
    have HB := Lib.hid hB
    have hcP := hM.cell
    have hfP := hM.soft
    have hltP := hM.lt
    have hsz := hB.size
    by_cases hlt : k < h
    · have hd : decide ((k : Int) < (h : Int)) = true := by simpa using hlt
      have hzl := zeroM_length k n
      have HOW := Lib.hid hM.own.own
      rw [hzl] at HOW
      have HOFF := Lib.hid hM.off
      clear hM hB hzl
      go_wp2_with fail
      go_region_law (first | (refine step_append_lies _ (by rfl) _ _ _ (by rfl) w.heap.size 24 i9 (.slice none 0 0) 1 24 Tryz.underlying38 hi9 hz90 hz91 hz92 rfl (by omega) v k (vals R (zeroM k n)) (by rfl) (((HOW.out.alloc _).alloc _).drew) ⟨wr.heap.size + 1, 0, none⟩ 1 1 [.slice (some ⟨wr.heap.size, 0, none⟩) n n] (by rfl) (by rfl) (fun j u hj => by have h := Mem.cell_new (wr.alloc (.cells Z 3)) [.slice (some ⟨wr.heap.size, 0, none⟩) n n] 24 j u hj; rw [World.size_alloc] at h; exact h) (by simp [Value.oneCell']) (by omega) (by unfold maxLen; omega) (by omega) (by simp; omega) (wr.heap.size + 2) (by simp) ?_; intro g2 cap w1 hown1 hgrow hat hlt3; obtain ⟨hcP1, hfP1⟩ := box_after hcP hfP hltP (below_two _ _) hgrow HOFF.out) | fail "arm")
      all_goals
        have hb2 : Below wr.heap.size wr ((wr.alloc (.cells Z 3)).alloc (.cells #[.slice (some ⟨wr.heap.size, 0, none⟩) n n] 24)).drew := below_two _ _
        have hM2 := MP.next (HM.out.keeps hb2) (g := wr.heap.size) (c := n) (g2 := g2) (cap := cap) (r := List.replicate n 0) (by omega) (by simp [World.drew]; omega) ((HMR.out wr).keeps (((Below.refl _ _).alloc (Nat.le_refl _) _).drew)) (fun hm => by have := (HM.out.own.old hm).2; omega) (fun e => by have := (World.ownsRow.lt HM.out.own.own _ e).2; omega) (by omega) (by rw [zeroM_length, List.length_replicate]; exact hown1) hgrow (by rcases hat with e | e; exact .inl e; exact .inr (by rw [e]; simp [World.drew]))
        rw [zeroM_length, ← zeroM_next] at hM2
        have hB2 : Below w.heap.size w w1 := (HB.out.trans (hb2.mono hsz)).grown hgrow (by have := hb2.size; omega) (fun g hg => (World.ownsRow.lt HM.out.own.own g hg).1)
        have hB3 := hB2.setCell (p := ⟨w.heap.size, 0, none⟩) (Nat.le_refl _) (.slice (some ⟨g2, 0, none⟩) (k + 1) cap)
        have HM2 := Lib.hid hM2
        have HB3 := Lib.hid hB3
        clear hown1 hgrow hat hb2 hM2 hB2 hB3
        go_wp2
        refine ⟨⟨k + 1, _, _, by omega, by go_num, HM2.out, HB3.out⟩, ?_⟩
        simp [intOf]; omega
    · have E : Hid (k = h) := by show k = h; omega
      have hd : decide ((k : Int) < (h : Int)) = false := by simpa using hlt
      go_wp2
      go_ret
      exact ⟨_, v, R, rfl, by rw [← E.out]; exact HM.out, HB.out⟩

end Go.Proofs.YtenpcjmhlnalcaaGreat

/-! WALK of chapter 13 (impl): a matrix read: rows of one length are copied. -/

namespace Go.Proofs.YtenpcjmhlnalcaaGreat
open Go.RowKit

/-- All rows have one length. -/
def rectB (M : Lin.Mat) : Bool := decide (∀ i, i < M.length → (Lin.row M i).length = Lin.wid M)
theorem rect_yes {M : Lin.Mat} (h : ∀ i, i < M.length → (Lin.row M i).length = Lin.wid M) : rectB M = true := decide_eq_true h
theorem rect_no {M : Lin.Mat} {k : Nat} (hk : k < M.length) (h : (Lin.row M k).length ≠ Lin.wid M) : rectB M = false := decide_eq_false fun a => h (a k hk)
theorem rect_at {M : Lin.Mat} (h : rectB M = true) : ∀ i, i < M.length → (Lin.row M i).length = Lin.wid M := of_decide_eq_true h
theorem rect_mem {M : Lin.Mat} (h : rectB M = true) : ∀ r ∈ M, r.length = Lin.wid M := fun r hr => by
  obtain ⟨i, hi, rfl⟩ := Lin.mem_row hr
  exact rect_at h i hi
theorem takeMx_next (M : Lin.Mat) (k : Nat) (h : k < M.length) : M.take (k + 1) = M.take k ++ [Lin.row M k] := by
  rw [List.take_add_one, List.getElem?_eq_getElem h]
  unfold Lin.row
  rw [List.getD, List.getElem?_eq_getElem h]
  rfl
theorem below_undrew {w w' : World} {n : Nat} (h : Below n w.drew w') : Below n w w' := ⟨h.os, h.tape, h.output, h.size, h.block⟩

set_option maxRecDepth 100000 in
set_option maxHeartbeats 4000000 in
theorem readMatrix_any (go : Nat) (ao : Option Addr) (co : Nat) (R0 : List (Nat × Nat)) (M : Lin.Mat) (hlen : M.length ≤ 1099511627776) (hrow : ∀ i, i < M.length → (Lin.row M i).length ≤ 1099511627776) (w : World) (h : Mx w go ao R0 M) :
    Calls Tryz.prog 66 #[.slice ao M.length co] w fun e w' => ((rectB M = true ∧ ∃ P v R, e = .returned (.tuple #[.pointer (some ⟨P, 0, none⟩), .bool true]) ∧ MP w' w.heap.size P v R M) ∨ (rectB M = false ∧ e = .returned (.tuple #[.pointer none, .bool false]))) ∧ Below w.heap.size w w' := by
  obtain ⟨i9, hi9, hz90, hz91, hz92⟩ := info_parts info_row
  have H := Lib.hid h
  have HLR := Lib.hid hrow
  have HP0 := Lib.hid (MP.new w w.heap.size (Nat.le_refl _) 72)
  have HB0 : Hid (Below w.heap.size w (w.alloc (.cells #[.slice none 0 0] 72))) := (Below.refl _ _).alloc (Nat.le_refl _) _
  clear h hrow
  go_enter Tryz.func66, Tryz.ntmps66
  go_wp2
  go_loopw [11] (fun i wr => ∃ (k : Nat) (v : Value) (R : List (Nat × Nat)), k ≤ M.length ∧ i = .int .i64 (k : Int) ∧ MP wr w.heap.size w.heap.size v R (M.take k) ∧ Hid (∀ i, i < k → (Lin.row M i).length = Lin.wid M) ∧ Below w.heap.size w wr) (fun i _ => M.length - (intOf i).toNat)
  case atStart => exact ⟨0, _, [], Nat.zero_le _, rfl, HP0.out, fun i hi => absurd hi (Nat.not_lt_zero _), HB0.out⟩
  case round =>
    clear HP0 HB0
    obtain ⟨k, v, R, hk, rfl, hM, hR, hB⟩ := hrel
    have HM := Lib.hid hM
    have HB := Lib.hid hB
    have HRR := Lib.hid hR
    have hcP := hM.cell
    have hfP := hM.soft
    have hltP := hM.lt
    have hsz := hB.size
    clear hM hB hR
    by_cases hlt : k < M.length
    · have hd : decide ((k : Int) < (M.length : Int)) = true := by simpa using hlt
      have hX := H.out.keeps HB.out
      obtain ⟨hao, hgo, hck, -⟩ := hX.out k hlt
      obtain ⟨-, -, hc0, -⟩ := hX.out 0 (by omega)
      have hrk := (hX.rows k hlt).2.ints
      subst hao
      have HLK := Lib.hid (HLR.out k hlt)
      have HCL := Lib.hid (cloneS_any ⟨blk R0 k, 0, none⟩ (room R0 k) (Lin.row M k) HLK.out wr.drew hrk)
      have HTN := Lib.hid (takeMx_next M k hlt)
      have HNO := Lib.hid (fun e => rect_no hlt (show (Lin.row M k).length ≠ Lin.wid M from e))
      obtain ⟨r, hr⟩ : ∃ r, Lin.row M k = r := ⟨_, rfl⟩
      obtain ⟨n, hn⟩ : ∃ n, r.length = n := ⟨_, rfl⟩
      obtain ⟨m, hm⟩ : ∃ m, Lin.wid M = m := ⟨_, rfl⟩
      obtain ⟨B1, hB1⟩ : ∃ b, blk R0 k = b := ⟨_, rfl⟩
      obtain ⟨C1, hC1⟩ : ∃ b, room R0 k = b := ⟨_, rfl⟩
      obtain ⟨B0, hB0⟩ : ∃ b, blk R0 0 = b := ⟨_, rfl⟩
      obtain ⟨C0, hC0⟩ : ∃ b, room R0 0 = b := ⟨_, rfl⟩
      have HRK := Lib.hid hr
      have HNN := Lib.hid hn
      have HMM := Lib.hid hm
      rw [show (Lin.row M 0).length = Lin.wid M from rfl, hm, hB0, hC0] at hc0
      rw [hr, hn, hB1, hC1] at hck
      rw [hr, hn, hB1, hC1] at HCL
      rw [hr] at HTN
      rw [hr, hn, hm] at HNO
      clear hX hrk hr hn hm hB1 hC1 hB0 hC0
      by_cases he : n = m
      · subst he
        have HTL : Hid ((M.take k).length = k) := by show (M.take k).length = k; rw [List.length_take]; omega
        have HOW := Lib.hid HM.out.own.own
        rw [HTL.out] at HOW
        have HOFF := Lib.hid HM.out.off
        have hk1 : k + 1 ≤ 1099511627776 := by omega
        go_wp2_with fail
        go_region_law (first
          | (go_simp; go_at_call 91; refine HCL.out.mono ?_; rintro e w2 ⟨g, cc, rfl, hO2, hb2⟩; have HB2 := Lib.hid (below_undrew hb2); have HO2 := Lib.hid hO2; obtain ⟨hcP2, hfP2⟩ := box_after hcP hfP hltP (Below.refl _ wr) (Mem.but_of_below HB2.out v.ownBlock) HOFF.out; have HOW2 := Lib.hid (HM.out.own.keeps HB2.out).own; rw [HTL.out] at HOW2; have hz2 := HB2.out.size; have hcA : ∀ o, (w2.alloc o).cell? ⟨w.heap.size, 0, none⟩ = some v := fun o => (box_after hcP hfP hltP (Below.refl _ wr) (Mem.but_of_below (HB2.out.alloc hz2 o) v.ownBlock) HOFF.out).1; clear hO2 hb2)
          | (refine step_append_lies _ (by rfl) _ _ _ (by rfl) w.heap.size 24 i9 (.slice none 0 0) 1 24 Tryz.underlying38 hi9 hz90 hz91 hz92 rfl (by omega) v k (vals R (M.take k)) (by rfl) (HOW2.out.alloc _) ⟨w2.heap.size, 0, none⟩ 1 1 [.slice (some ⟨g, 0, none⟩) n cc] (by rfl) (by rfl) (fun j u hj => Mem.cell_new w2 [.slice (some ⟨g, 0, none⟩) n cc] 24 j u hj) (by simp [Value.oneCell']) (by omega) (by unfold maxLen; omega) (by omega) (by simp; omega) (w2.heap.size + 1) (by simp) ?_; intro g2 cap w3 hown1 hgrow hat hlt3; obtain ⟨hcP3, hfP3⟩ := box_after hcP hfP hltP (HB2.out.alloc hz2 _) hgrow HOFF.out)
          | fail "arm")
        all_goals
          obtain ⟨q1, q2, q3, -⟩ := OwnInts.known HO2.out
          have q1 : wr.heap.size ≤ g := q1
          have hb2 : Below wr.heap.size wr (w2.alloc (.cells #[.slice (some ⟨g, 0, none⟩) n cc] 24)) := HB2.out.alloc hz2 _
          have hM2 := MP.next (HM.out.keeps hb2) (g := g) (c := cc) (g2 := g2) (cap := cap) (r := r) (by omega) (by simp; omega) (q3.keeps ((Below.refl _ _).alloc (Nat.le_refl _) _)) (fun hm => by have := (HM.out.own.old hm).2; omega) (fun e => by have := (World.ownsRow.lt HM.out.own.own _ e).2; omega) (by omega) (by rw [HTL.out, HNN.out]; exact hown1) hgrow (by rcases hat with e | e; exact .inl e; exact .inr (by rw [e]; simp))
          rw [HTL.out, ← HTN.out] at hM2
          have hB2 : Below w.heap.size w w3 := (HB.out.trans (hb2.mono hsz)).grown hgrow (by have := hb2.size; omega) (fun g hg => (World.ownsRow.lt HM.out.own.own g hg).1)
          have hB3 := hB2.setCell (p := ⟨w.heap.size, 0, none⟩) (Nat.le_refl _) (.slice (some ⟨g2, 0, none⟩) (k + 1) cap)
          have HM2 := Lib.hid hM2
          have HB3 := Lib.hid hB3
          have HR2 : Hid (∀ i, i < k + 1 → (Lin.row M i).length = Lin.wid M) := by
            have : ∀ i, i < k + 1 → (Lin.row M i).length = Lin.wid M := fun i hi => by
              by_cases e : i < k
              · exact HRR.out i e
              · rw [show i = k by omega, HRK.out, HNN.out, HMM.out]
            exact this
          clear hown1 hgrow hat hb2 hM2 hB2 hB3 q1 q2 q3
          go_wp2
          refine ⟨⟨k + 1, _, _, by omega, by go_num, HM2.out, HR2, HB3.out⟩, ?_⟩
          simp [intOf]; omega
      · have hne : ¬((n : Int) = (m : Int)) := by omega
        go_wp2
        go_ret2
        exact ⟨.inr ⟨HNO.out he, rfl⟩, HB.out⟩
    · have E : Hid (k = M.length) := by show k = _; omega
      have hd : decide ((k : Int) < (M.length : Int)) = false := by simpa using hlt
      go_wp2
      go_ret2
      refine ⟨.inl ⟨rect_yes (by rw [← E.out]; exact HRR.out), _, v, R, rfl, ?_⟩, HB.out⟩
      have h := HM.out
      rw [E.out, List.take_length] at h
      exact h

end Go.Proofs.YtenpcjmhlnalcaaGreat

/-! WALKS of chapter 13 (impl): a matrix is small: the library's ContainsFunc at rows; readSmallMatrix. -/

namespace Go.Proofs.YtenpcjmhlnalcaaGreat
open Go.RowKit

/-- What is asked of a predicate on rows: at every row of the matrix, in every later world, it answers q; it may draw. -/
def AsksM (g : Nat) (lb : Array Value) (q : List Int → Bool) (R : List (Nat × Nat)) (M : Lin.Mat) (w : World) : Prop :=
  ∀ (W : World) (j : Nat), j < M.length → Below w.heap.size w W → Calls Tryz.prog g (#[.slice (some ⟨blk R j, 0, none⟩) (Lin.row M j).length (room R j)] ++ lb) W fun e w' => e = .returned (.bool (q (Lin.row M j))) ∧ ∃ m, w' = W.drewN m
theorem AsksM.at {g : Nat} {lb : Array Value} {q : List Int → Bool} {R : List (Nat × Nat)} {M : Lin.Mat} {w : World} (h : AsksM g lb q R M w) (W : World) (j B n C : Nat) (b : Bool) (e1 : blk R j = B) (e2 : (Lin.row M j).length = n) (e3 : room R j = C) (hb : q (Lin.row M j) = b) (hj : j < M.length) (hB : Below w.heap.size w W) :
    Calls Tryz.prog g (#[.slice (some ⟨B, 0, none⟩) n C] ++ lb) W fun e w' => e = .returned (.bool b) ∧ ∃ m, w' = W.drewN m := by
  subst e1 e2 e3; subst hb; exact h W j hj hB
theorem anyM_miss (q : List Int → Bool) (M : Lin.Mat) (h : ∀ j, j < M.length → q (Lin.row M j) = false) : M.any q = false := by
  rw [List.any_eq_false]
  intro x hx
  obtain ⟨j, hj, rfl⟩ := Lin.mem_row hx
  rw [h j hj]; simp
theorem anyM_hit (q : List Int → Bool) (M : Lin.Mat) (j : Nat) (hj : j < M.length) (h : q (Lin.row M j) = true) : M.any q = true := by
  rw [List.any_eq_true]
  exact ⟨_, Lin.row_mem hj, h⟩

set_option maxRecDepth 100000 in
set_option maxHeartbeats 2000000 in
theorem indexFuncM_any (g : Nat) (lb : Array Value) (q : List Int → Bool) (go : Nat) (a : Option Addr) (c : Nat) (R : List (Nat × Nat)) (M : Lin.Mat) (w : World) (eg : ∀ args w, (callFunc g args).run Tryz.prog w = .ok (.enter g args) w)
    (hp : AsksM g lb q R M w) (hlen : M.length ≤ 1099511627776) (h : Mx w go a R M) :
    Calls Tryz.prog 109 #[.slice a M.length c, .func (.func g) #[] lb] w fun e w' => ∃ k : Int, e = .returned (.int .i64 k) ∧ -1 ≤ k ∧ k ≤ 1099511627776 ∧ decide (0 ≤ k) = M.any q ∧ ∃ m, w' = w.drewN m := by
  have HP := Lib.hid hp
  have H := Lib.hid h
  clear hp h
  go_enter Tryz.func109, Tryz.ntmps109
  go_wp2
  go_loopw [8] (fun i wr => ∃ k n : Nat, k ≤ M.length ∧ i = .int .i64 (k : Int) ∧ (∀ j, j < k → q (Lin.row M j) = false) ∧ wr = w.drewN n) (fun i _ => M.length - (intOf i).toNat)
  case atStart => exact ⟨0, 0, Nat.zero_le _, rfl, fun j hj => absurd hj (Nat.not_lt_zero _), rfl⟩
  case round =>
    obtain ⟨k, n, hk, rfl, hq, rfl⟩ := hrel
    have HQ := Lib.hid hq
    clear hq
    have hB : Below w.heap.size w (w.drewN n) := Mem.below_drewN w n
    by_cases hlt : k < M.length
    · have hX := H.out.keeps hB
      obtain ⟨hao, hgo, hck, -⟩ := hX.out k hlt
      subst hao
      obtain ⟨B1, hB1⟩ : ∃ b, blk R k = b := ⟨_, rfl⟩
      obtain ⟨C1, hC1⟩ : ∃ b, room R k = b := ⟨_, rfl⟩
      obtain ⟨l, hl⟩ : ∃ l, (Lin.row M k).length = l := ⟨_, rfl⟩
      rw [hB1, hl, hC1] at hck
      have HB1 := Lib.hid hB1
      have HC1 := Lib.hid hC1
      have HL := Lib.hid hl
      clear hX hB1 hC1 hl
      cases hqx : q (Lin.row M k) with
      | true =>
        have HQX := Lib.hid hqx
        clear hqx
        go_wp2_with (go_at_fn g; refine (HP.out.at _ k B1 l C1 true HB1.out HL.out HC1.out HQX.out hlt hB).mono ?_; rintro e w' ⟨rfl, m, rfl⟩)
        go_ret
        refine ⟨(k : Int), rfl, by omega, by omega, ?_, _, rfl⟩
        rw [anyM_hit q M k hlt HQX.out]
        simp
      | false =>
        have HQX := Lib.hid hqx
        clear hqx
        go_wp2_with (go_at_fn g; refine (HP.out.at _ k B1 l C1 false HB1.out HL.out HC1.out HQX.out hlt hB).mono ?_; rintro e w' ⟨rfl, m, rfl⟩)
        go_roundw
        case rel =>
          refine ⟨k + 1, _, by omega, by go_num, fun j hj => ?_, rfl⟩
          by_cases e : j = k
          · subst e; exact HQX.out
          · exact HQ.out j (by omega)
        case measure => simp [intOf]; omega
    · have E := Lib.hid (show k = M.length by omega)
      have hany : M.any q = false := anyM_miss q M (fun j hj => HQ.out j (by rw [E.out]; exact hj))
      have HA := Lib.hid hany
      clear hany
      go_wp2
      go_ret
      exact ⟨-1, rfl, by omega, by omega, by rw [HA.out]; rfl, _, rfl⟩

set_option maxRecDepth 100000 in
set_option maxHeartbeats 2000000 in
theorem containsFuncM_any (g : Nat) (lb : Array Value) (q : List Int → Bool) (b : Bool) (go : Nat) (a : Option Addr) (c : Nat) (R : List (Nat × Nat)) (M : Lin.Mat) (hb : M.any q = b) (w : World) (eg : ∀ args w, (callFunc g args).run Tryz.prog w = .ok (.enter g args) w)
    (hp : AsksM g lb q R M w) (hlen : M.length ≤ 1099511627776) (h : Mx w go a R M) :
    Calls Tryz.prog 96 #[.slice a M.length c, .func (.func g) #[] lb] w fun e w' => e = .returned (.bool b) ∧ ∃ m, w' = w.drewN m := by
  have hc := indexFuncM_any g lb q go a c R M w eg hp hlen h
  rw [hb] at hc
  have HC := Lib.hid hc
  clear hc hp h hb eg
  go_enter Tryz.func96, Tryz.ntmps96
  go_wp2_with fail
  refine HC.out.mono ?_
  rintro e w' ⟨k, rfl, h1, h2, hk, m, rfl⟩
  have HK := Lib.hid hk
  clear hk
  go_wp2
  go_ret
  exact ⟨by rw [← HK.out]; rfl, _, rfl⟩

/-- A number that is not from -1000 to 1000. -/
def farB (x : Int) : Bool := decide (x < -1000 ∨ 1000 < x)

set_option maxRecDepth 100000 in
theorem far_any (x : Int) (w : World) : Calls Tryz.prog 92 #[.int .i64 x] w fun e w' => e = .returned (.bool (farB x)) ∧ w = w' := by
  by_cases h1 : x < -1000
  · have e : farB x = true := decide_eq_true (.inl h1)
    rw [e]
    clear e
    go_enter Tryz.func92, Tryz.ntmps92
    go_wp2
    go_ret
    exact ⟨rfl, rfl⟩
  · have e : Hid (farB x = decide (1000 < x)) := by
      have : farB x = decide (1000 < x) := by unfold farB; simp [h1]
      exact this
    have h2 : decide (x < -1000) = false := decide_eq_false h1
    go_enter Tryz.func92, Tryz.ntmps92
    go_wp2
    go_ret
    exact ⟨by rw [e.out]; rfl, rfl⟩

set_option maxRecDepth 100000 in
set_option maxHeartbeats 2000000 in
theorem farRow_any (b : Nat) (a : Option Addr) (c : Nat) (xs : List Int) (hlen : xs.length ≤ 1099511627776) (w : World) (hb : w.cell? ⟨b, 0, none⟩ = some (.func (.func 92) #[] #[])) (h : Ints w a xs) :
    Calls Tryz.prog 93 #[.slice a xs.length c, .pointer (some ⟨b, 0, none⟩)] w fun e w' => e = .returned (.bool (xs.any farB)) ∧ ∃ m, w' = w.drewN m := by
  have eg : ∀ args w, (callFunc 92 args).run Tryz.prog w = .ok (.enter 92 args) w := enters_of Tryz.func92 (by kernel_rfl) rfl
  have HC := Lib.hid (containsFunc_any 92 #[] farB _ a c xs rfl w eg (fun W j _ _ => (far_any (xs.getD j 0) W).mono fun e w' ⟨he, hw⟩ => ⟨he, 0, by rw [← hw]; rfl⟩) hlen h)
  obtain ⟨l, hl⟩ : ∃ l, xs.length = l := ⟨_, rfl⟩
  rw [hl] at HC ⊢
  clear h hl eg
  go_enter Tryz.func93, Tryz.ntmps93
  go_wp2_with fail
  refine HC.out.mono ?_
  rintro e w' ⟨rfl, m, rfl⟩
  go_wp2
  go_ret
  exact ⟨rfl, m, rfl⟩

def smallB (M : Lin.Mat) : Bool := decide (M.length ≤ 30) && (decide (Lin.wid M ≤ 30) && !(M.any fun r => r.any farB))

set_option maxRecDepth 100000 in
set_option maxHeartbeats 4000000 in
theorem isSmall_any {base P : Nat} {v : Value} {R : List (Nat × Nat)} {M : Lin.Mat} (hlen : M.length ≤ 1099511627776) (hrow : ∀ i, i < M.length → (Lin.row M i).length ≤ 1099511627776) (w : World) (h : MP w base P v R M) :
    Calls Tryz.prog 67 #[.pointer (some ⟨P, 0, none⟩)] w fun e w' => e = .returned (.bool (smallB M)) ∧ Below w.heap.size w w' := by
  have hbA : Below w.heap.size w (w.alloc (.cells #[.func (.func 92) #[] #[]] 36)) := (Below.refl _ _).alloc (Nat.le_refl _) _
  have hM1 := h.keeps hbA
  have HH1 := Lib.hid (height_any _ hM1)
  have HW1 := Lib.hid (width_any _ hM1)
  obtain ⟨go, ao, co, rfl, -, hX⟩ := hM1.own.mx
  have hc1 := hM1.cell
  have eg : ∀ args w, (callFunc 93 args).run Tryz.prog w = .ok (.enter 93 args) w := enters_of Tryz.func93 (by kernel_rfl) rfl
  have hcell : (w.alloc (.cells #[.func (.func 92) #[] #[]] 36)).cell? ⟨w.heap.size, 0, none⟩ = some (.func (.func 92) #[] #[]) := by
    rw [World.cell?_alloc_new w _ _ 0]; rfl
  have HC := Lib.hid (containsFuncM_any 93 #[.pointer (some ⟨w.heap.size, 0, none⟩)] (fun r => r.any farB) _ go ao co R M rfl _ eg (fun W j hj hW => farRow_any w.heap.size (some ⟨blk R j, 0, none⟩) (room R j) (Lin.row M j) (hrow j hj) W (by rw [hW.cell (p := ⟨w.heap.size, 0, none⟩) (by simp)]; exact hcell) ((hX.rows j hj).2.keeps hW).ints) hlen hX)
  have HBA := Lib.hid hbA
  obtain ⟨b, hb⟩ : ∃ b, (M.any fun r => r.any farB) = b := ⟨_, rfl⟩
  have HS : Hid (smallB M = (decide (M.length ≤ 30) && (decide (Lin.wid M ≤ 30) && !b))) := by
    have : smallB M = (decide (M.length ≤ 30) && (decide (Lin.wid M ≤ 30) && !b)) := by unfold smallB; rw [hb]
    exact this
  rw [hb] at HC
  obtain ⟨n, hn⟩ : ∃ n, M.length = n := ⟨_, rfl⟩
  obtain ⟨m, hm⟩ : ∃ n, Lin.wid M = n := ⟨_, rfl⟩
  rw [hn] at HC hc1
  rw [hn] at HH1
  rw [hm] at HW1
  rw [hn, hm] at HS
  clear hb h hrow hbA hM1 hX hcell eg hn hm hlen
  by_cases h1 : n ≤ 30
  · have hd1 : decide ((n : Int) ≤ 30) = true := decide_eq_true (by omega)
    by_cases h2 : m ≤ 30
    · have hd2 : decide ((m : Int) ≤ 30) = true := decide_eq_true (by omega)
      go_enter Tryz.func67, Tryz.ntmps67
      go_wp2_with fail
      refine HH1.out.mono ?_
      rintro e w2 ⟨rfl, rfl⟩
      go_wp2_with fail
      refine HW1.out.mono ?_
      rintro e w2 ⟨rfl, rfl⟩
      go_wp2_with fail
      refine HC.out.mono ?_
      rintro e w2 ⟨rfl, k, rfl⟩
      go_wp2
      go_ret
      exact ⟨by rw [HS.out, decide_eq_true h1, decide_eq_true h2]; cases b <;> rfl, HBA.out.trans ((Mem.below_drewN _ k).mono (by simp))⟩
    · have hd2 : decide ((m : Int) ≤ 30) = false := decide_eq_false (by omega)
      go_enter Tryz.func67, Tryz.ntmps67
      go_wp2_with fail
      refine HH1.out.mono ?_
      rintro e w2 ⟨rfl, rfl⟩
      go_wp2_with fail
      refine HW1.out.mono ?_
      rintro e w2 ⟨rfl, rfl⟩
      go_wp2
      go_ret
      exact ⟨by rw [HS.out, decide_eq_true h1, decide_eq_false h2]; rfl, HBA.out⟩
  · have hd1 : decide ((n : Int) ≤ 30) = false := decide_eq_false (by omega)
    go_enter Tryz.func67, Tryz.ntmps67
    go_wp2_with fail
    refine HH1.out.mono ?_
    rintro e w2 ⟨rfl, rfl⟩
    go_wp2
    go_ret
    exact ⟨by rw [HS.out, decide_eq_false h1]; rfl, HBA.out⟩

/-- What the matrices of chapter 13 keep to: rows of one length, at most 30 rows and columns, numbers from -1000 to 1000. -/
def fitB (M : Lin.Mat) : Bool := rectB M && smallB M

set_option maxRecDepth 100000 in
set_option maxHeartbeats 4000000 in
theorem readSmall_any (go : Nat) (ao : Option Addr) (co : Nat) (R0 : List (Nat × Nat)) (M : Lin.Mat) (hlen : M.length ≤ 1099511627776) (hrow : ∀ i, i < M.length → (Lin.row M i).length ≤ 1099511627776) (w : World) (h : Mx w go ao R0 M) :
    Calls Tryz.prog 45 #[.slice ao M.length co] w fun e w' => ((fitB M = true ∧ ∃ P v R, e = .returned (.tuple #[.pointer (some ⟨P, 0, none⟩), .bool true]) ∧ MP w' w.heap.size P v R M) ∨ (fitB M = false ∧ e = .returned (.tuple #[.pointer none, .bool false]))) ∧ Below w.heap.size w w' := by
  have HC := Lib.hid (readMatrix_any go ao co R0 M hlen hrow w h)
  have HS := Lib.hid (fun (P : Nat) (v : Value) (R : List (Nat × Nat)) (W : World) (hM : MP W w.heap.size P v R M) => isSmall_any hlen hrow W hM)
  have HF : Hid (fitB M = (rectB M && smallB M)) := rfl
  obtain ⟨r, hr⟩ : ∃ r, rectB M = r := ⟨_, rfl⟩
  obtain ⟨s, hs⟩ : ∃ r, smallB M = r := ⟨_, rfl⟩
  simp only [hr] at HC
  simp only [hs] at HS
  rw [hr, hs] at HF
  obtain ⟨f, hf⟩ : ∃ r, fitB M = r := ⟨_, rfl⟩
  rw [hf] at HF ⊢
  clear h hr hs hrow hf
  go_enter Tryz.func45, Tryz.ntmps45
  go_wp2_with fail
  refine HC.out.mono ?_
  rintro e w1 ⟨⟨rfl, P, v, R, rfl, hM⟩ | ⟨rfl, rfl⟩, hb1⟩
  · have HM := Lib.hid hM
    have HB1 := Lib.hid hb1
    have hsz := hb1.size
    clear hM hb1
    go_wp2_with fail
    refine (HS.out P v R w1 HM.out).mono ?_
    rintro e w2 ⟨rfl, hb2⟩
    have HM2 := Lib.hid (HM.out.keeps hb2)
    have HB2 : Hid (Below w.heap.size w w2) := HB1.out.trans (hb2.mono hsz)
    clear hb2
    cases s with
    | true =>
      go_wp2
      go_ret2
      exact ⟨.inl ⟨by rw [HF.out]; rfl, P, v, R, rfl, HM2.out⟩, HB2.out⟩
    | false =>
      go_wp2
      go_ret2
      exact ⟨.inr ⟨by rw [HF.out]; rfl, rfl⟩, HB2.out⟩
  · have HB1 := Lib.hid hb1
    clear hb1
    go_wp2
    go_ret2
    exact ⟨.inr ⟨by rw [HF.out]; rfl, rfl⟩, HB1.out⟩

end Go.Proofs.YtenpcjmhlnalcaaGreat
