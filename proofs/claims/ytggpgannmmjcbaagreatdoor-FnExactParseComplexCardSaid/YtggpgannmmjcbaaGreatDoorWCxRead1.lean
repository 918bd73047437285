/-
  WALKS: impl.ParseComplex.
-/
import Derived.Test.YtggpgannmmjcbaaGreatDoorCxParse
import Derived.Test.YtggpgannmmjcbaaGreatDoorWParseSet
import Derived.Test.YtggpgannmmjcbaaGreatDoorWSplit
import Derived.Test.YtggpgannmmjcbaaGreatDoorWLawSplit
import Derived.Test.YtggpgannmmjcbaaGreatDoorShelfC
namespace Go.Proofs.YtggpgannmmjcbaaGreatDoor
open Go.RowKit
open Sets
open Pieces (strs pieces strs_length strs_data piece_size strs_sizes)

/-- The library's variables, as a program lays them. -/
def LibIs (w : World) : Prop := Tab w ∧ Errs w ∧ MaxIs w
theorem LibIs.keeps {w w' : World} (h : LibIs w) (hb : Below w.heap.size w w') : LibIs w' := ⟨h.1.keeps hb, h.2.1.keeps hb, h.2.2.keeps hb⟩

/-- The two parts of a text. -/
def part0 (s : ByteArray) : ByteArray := ⟨(Lib.cut s.data.toList [58]).1.toArray⟩
def part1 (s : ByteArray) : ByteArray := ⟨(Lib.cut s.data.toList [58]).2.1.toArray⟩
theorem part0_data (s : ByteArray) : (part0 s).data.toList = (Lib.cut s.data.toList [58]).1 := by simp [part0]
theorem part1_data (s : ByteArray) : (part1 s).data.toList = (Lib.cut s.data.toList [58]).2.1 := by simp [part1]
theorem part0_size (s : ByteArray) : (part0 s).size ≤ s.size := by
  have h : (part0 s).size = (part0 s).data.toList.length := (size_list _).symm
  have h2 : s.size = s.data.toList.length := (size_list _).symm
  rw [h, part0_data, h2]
  unfold Lib.cut
  split
  · exact List.length_take_le' _ _
  · exact Nat.le_refl _
theorem part1_size (s : ByteArray) : (part1 s).size ≤ s.size := by
  have h : (part1 s).size = (part1 s).data.toList.length := (size_list _).symm
  have h2 : s.size = s.data.toList.length := (size_list _).symm
  rw [h, part1_data, h2]
  unfold Lib.cut
  split
  · rw [List.length_drop]; omega
  · simp

/-- The sets among the first k texts. -/
def gatherK (L : List ByteArray) (k : Nat) : List Int := implSets ((L.take k).map (·.data.toList))
theorem gatherK_next (L : List ByteArray) (k : Nat) (h : k < L.length) : gatherK L (k + 1) = gatherK L k ++ ((parse (L.getD k ByteArray.empty).data.toList).map asInt).toList := by
  unfold gatherK implSets
  rw [List.take_succ_eq_append_getElem h, List.map_append, List.filterMap_append, List.getD, List.getElem?_eq_getElem h]
  simp only [List.map_cons, List.map_nil, Option.getD_some]
  cases hp : (parse L[k].data.toList).map asInt with
  | none => simp [hp]
  | some x => simp [hp]
theorem gatherK_le (L : List ByteArray) (k : Nat) : (gatherK L k).length ≤ k := by
  unfold gatherK implSets
  refine Nat.le_trans (List.length_filterMap_le _ _) ?_
  rw [List.length_map, List.length_take]; omega
theorem gatherK_all (b : UInt8) (s : ByteArray) : gatherK (strs b s) (strs b s).length = implSets (pieces b s.data.toList) := by
  unfold gatherK; rw [List.take_length, strs_data]

/-- impl's candidate. -/
def cand (s : ByteArray) : Option (Int × List Int) := made (implN (part0 s).data.toList) (gatherK (strs 44 (part1 s)) (strs 44 (part1 s)).length)
theorem implP_cand (s : ByteArray) : implP s.data.toList = (cand s).filter fun c => decide (whole c.1 c.2 = s.data.toList) := by
  unfold implP cand
  rw [gatherK_all, part0_data, part1_data]

theorem cut58 (s : ByteArray) (hs : s.size ≤ 1048576) (w : World) (h : LibIs w) :
    Calls Tryz.prog 13 #[.string s, .string ⟨#[58]⟩] w fun e w' => (∃ b, e = .returned (.tuple #[.string (part0 s), .string (part1 s), .bool b])) ∧ Below w.heap.size w w' := by
  obtain ⟨m, hm⟩ := h.2.2
  refine (Tryz.strings_Cut s ⟨#[58]⟩ m w (by omega) hm).mono ?_
  rintro e w' ⟨rfl, n, rfl⟩
  exact ⟨⟨_, rfl⟩, Mem.below_drewN w n⟩

set_option maxRecDepth 100000 in
set_option maxHeartbeats 4000000 in
theorem implParseC_any (s : ByteArray) (hs : s.size ≤ 1048576) (w : World) (hl : LibIs w) :
    Calls Tryz.prog 5 #[.string s] w fun e w' =>
      ∃ v, e = .returned (.tuple #[cx (oN (implP s.data.toList)) v, .bool (implP s.data.toList).isSome]) ∧ OwnInts w' w.heap.size v (oL (implP s.data.toList)) ∧ Below w.heap.size w w' := by
  obtain ⟨i0, hi, hz0, hz1, hz2⟩ := info_parts info_int
  have hs0 := part0_size s
  have hs1 := part1_size s
  have hn0 : (strs 44 (part1 s)).length ≤ 1048577 := by have := strs_length 44 (part1 s); omega
  rw [implP_cand]
  have hcd : cand s = made ((Num.numberF (part0 s).data.toList).getD 0) (gatherK (strs 44 (part1 s)) (strs 44 (part1 s)).length) := rfl
  generalize hC : cand s = C at *
  have HCD := Lib.hid hcd
  have HCC := Lib.hid hC
  clear hcd hC
  have hnum : ∀ w, LibIs w → Calls Tryz.prog 14 #[.string (part0 s)] w fun e w' => (∃ b, e = .returned (.tuple #[.int .i64 ((Num.numberF (part0 s).data.toList).getD 0), .bool b])) ∧ Below w.heap.size w w' := fun w h => by
    refine (implNumber_any (part0 s) (by omega) w h.1 h.2.1).mono ?_
    rintro e w' ⟨rfl, hb⟩
    exact ⟨⟨_, rfl⟩, hb⟩
  have hcut := fun w h => cut58 s hs w h
  have hspl : ∀ w, LibIs w → Calls Tryz.prog 15 #[.string (part1 s), .int .u8 44] w fun e w' =>
      e = .returned (.slice (some ⟨w.heap.size + 1, 0, none⟩) (strs 44 (part1 s)).length (strs 44 (part1 s)).length) ∧ Below w.heap.size w w' ∧ w'.heap.size = w.heap.size + 2 ∧ StrRow w' (w.heap.size + 1) 0 (strs 44 (part1 s)) ∧ (∀ j, w'.frozen? ⟨w.heap.size + 1, j, none⟩ = false) :=
    fun w h => implSplit_row (part1 s) 44 (by omega) w h.2.2
  generalize (Num.numberF (part0 s).data.toList).getD 0 = N at *
  have hsz44 : ∀ j, j < (strs 44 (part1 s)).length → ((strs 44 (part1 s)).getD j ByteArray.empty).size ≤ 1048576 := fun j hj => by
    have := piece_size 44 (part1 s) j hj
    omega
  generalize part0 s = p0 at *
  generalize part1 s = p1 at *
  generalize strs 44 p1 = L at *
  have HNUM := Lib.hid hnum
  have HCUT := Lib.hid hcut
  have HSPL := Lib.hid hspl
  have HSZ := Lib.hid hsz44
  have hB0 : Below w.heap.size w (w.alloc (Obj.cells #[.int .i64 0, .slice none 0 0] 24)) := (Below.refl _ _).alloc (Nat.le_refl _) _
  have hR0 := Two.new w (.int .i64 0) (.slice none 0 0) 24
  have HL := Lib.hid (hl.keeps hB0)
  have HB0 := Lib.hid hB0
  have HR0 := Lib.hid hR0
  clear hnum hcut hspl hsz44 hl hs0 hs1 hB0 hR0
  go_enter Tryz.func5, Tryz.ntmps5
  go_wp2_with fail
  refine (HCUT.out _ HL.out).mono ?_
  rintro e w1 ⟨⟨fnd, rfl⟩, hb1⟩
  have L1 := Lib.hid (HL.out.keeps hb1)
  have R1 := Lib.hid (HR0.out.keeps hb1)
  have B1 := Lib.hid (HB0.out.trans (hb1.mono (by simp)))
  have hzw1 := B1.out.size
  clear hb1 HL HR0 HB0
  go_wp2_with fail
  refine (HNUM.out _ L1.out).mono ?_
  rintro e w2 ⟨⟨fn2, rfl⟩, hb2⟩
  have L2 := Lib.hid (L1.out.keeps hb2)
  have R2 := Lib.hid (R1.out.keeps hb2)
  have B2 := Lib.hid (B1.out.trans (hb2.mono hzw1))
  have hzw2 := B2.out.size
  clear hb2 L1 R1 B1 hzw1
  go_wp2_with fail
  refine (HSPL.out _ L2.out).mono ?_
  rintro e w3 ⟨rfl, hb3, hq3, hrow3, _⟩
  have L3 := Lib.hid (L2.out.keeps hb3)
  have R3 := Lib.hid (R2.out.keeps hb3)
  have B3 := Lib.hid (B2.out.trans (hb3.mono hzw2))
  have hzw3 := B3.out.size
  have ROW := Lib.hid hrow3
  have hqa : w3.heap.size ≤ w2.heap.size + 2 := by omega
  have hqb : w2.heap.size + 2 ≤ w3.heap.size := by omega
  clear hb3 L2 R2 B2 hq3 hrow3
  go_wp2
  go_loopw [9, 30] (fun v i wr => ∃ k : Nat, k ≤ L.length ∧ i = .int .i64 (k : Int) ∧ OwnInts wr w3.heap.size v (gatherK L k) ∧ Below w3.heap.size w3 wr) (fun _ i _ => L.length - (intOf i).toNat)
  case atStart => exact ⟨0, Nat.zero_le _, rfl, OwnInts.nil _ _, Below.refl _ _⟩
  case round =>
    obtain ⟨k, hk, rfl, hO, hB⟩ := hrel
    have HO := Lib.hid hO
    have hszr := hB.size
    have hll := gatherK_le L k
    have HBr := Lib.hid hB
    clear hO hB
    by_cases hlt : k < L.length
    · have hc : wr.cell? ⟨w2.heap.size + 1, k, none⟩ = some (.string (L.getD k ByteArray.empty)) := by
        have h0 := ROW.out k hlt
        rw [Nat.zero_add] at h0
        rw [HBr.out.cell (p := ⟨w2.heap.size + 1, k, none⟩) (by show w2.heap.size + 1 < w3.heap.size; omega)]; exact h0
      have hps := HSZ.out k hlt
      have HN := Lib.hid (gatherK_next L k hlt)
      have hpa := fun w => implParse_any (L.getD k ByteArray.empty) (by omega) w
      generalize L.getD k ByteArray.empty = x at *
      cases hp : parse x.data.toList with
      | none =>
        rw [hp] at HN hpa
        have HPA := Lib.hid hpa
        clear hpa hp
        go_wp2_with fail
        refine (HPA.out _).mono ?_
        rintro e w4 ⟨rfl, hb4⟩
        have HB4 := Lib.hid (HBr.out.trans (hb4.mono hszr))
        have HO4 := Lib.hid (HO.out.keeps hb4)
        clear hb4
        go_wp2
        go_roundw
        case rel => exact ⟨k + 1, by omega, by go_num, by rw [HN.out]; simpa using HO4.out, HB4.out⟩
        case measure => simp [intOf]; omega
      | some y =>
        rw [hp] at HN hpa
        have HPA := Lib.hid hpa
        clear hpa hp
        go_wp2_with fail
        refine (HPA.out _).mono ?_
        rintro e w4 ⟨rfl, hb4⟩
        have HB4 := Lib.hid (HBr.out.trans (hb4.mono hszr))
        have hsz4 := HB4.out.size
        have HO4 : Hid (w4.ownsRow w3.heap.size 3 1 u9 (gatherK L k).length ((gatherK L k).map (Value.int .i64))) := Lib.hid (OwnInts.keeps HO.out hb4)
        clear hb4 HO
        go_wp2_with (at_builtin; refine wpList_append_own _ rfl _ _ 22 rfl w3.heap.size 3 i0 (.int .i64 0) 1 8 Tryz.underlying22 hi hz0 hz1 hz2 rfl (by decide) _ _ _ rfl (HO4.out.alloc _) ⟨w4.heap.size, 0, none⟩ 1 1 [.int .i64 (y : Int)] rfl rfl ?c1 ?c2 ?c3 ?c4 ?c5 ?_)
        case c1 => intro j u hj; exact Mem.cell_new w4 _ _ j u hj
        case c2 => intro u hu; simp at hu; subst hu; rfl
        case c3 => unfold maxLen; omega
        case c4 => omega
        case c5 => simp; omega
        intro v' w5 hown1 hgrow _
        have hB5 : Below w3.heap.size w3 w5 := (HB4.out.alloc hsz4 _).grown hgrow (by simp; omega) (fun g hg => (HO4.out.lt g hg).1)
        have H1 := Lib.hid hown1
        clear hown1 hgrow
        go_wp2
        go_roundw
        case rel => exact ⟨k + 1, by omega, by go_num, by rw [HN.out]; exact OwnInts.next H1.out, hB5⟩
        case measure => simp [intOf]; omega
    · have E : L.length = k := by omega
      subst E
      obtain ⟨a9, c9, g9, rfl, hcap9, hge9, hat9⟩ := HO.out.atc
      have hmk := fun w h => implMake_any N a9 c9 (gatherK L L.length) (by omega) w h
      rw [← HCD.out] at hmk
      have HMK := Lib.hid hmk
      have IN9 := Lib.hid hat9.ints
      clear hmk hat9 ROW HNUM HCUT HSPL HSZ
      go_wp2_with fail
      refine (HMK.out _ IN9.out).mono ?_
      rintro e w6 ⟨v, rfl, hO6, hb6⟩
      obtain ⟨a6, c6, g6, rfl, hcap6, hge6, hat6⟩ := hO6.atc
      have hzr := HBr.out.size
      have L6 := Lib.hid ((L3.out.keeps HBr.out).keeps hb6)
      have R6 := Lib.hid ((R3.out.keeps HBr.out).keeps hb6)
      have B6 := Lib.hid ((B3.out.trans (HBr.out.mono hzw3)).trans (hb6.mono (by omega)))
      have O6 := Lib.hid (hO6.lower (b := w.heap.size + 1) (by omega))
      have hz6 : wr.heap.size ≤ w6.heap.size := hb6.size
      clear hO6 hb6 hat6 L3 R3 B3 HO HBr IN9 HMK hge9 hcap9
      go_upto_region 12 with fail
      generalize hw7 : World.alloc w6 _ = w7
      have hb7 : Below w6.heap.size w6 w7 := hw7 ▸ (Below.refl _ _).alloc (Nat.le_refl _) _
      have hT7 : Two w7 w6.heap.size (.int .i64 (oN C)) (.slice a6 (oL C).length c6) := hw7 ▸ Two.new w6 _ _ _
      have T7 := Lib.hid hT7
      have L7 := Lib.hid (L6.out.keeps hb7)
      have R7 := Lib.hid (R6.out.keeps hb7)
      have B7 := Lib.hid (B6.out.trans (hb7.mono (by omega)))
      have O7 := Lib.hid (O6.out.keeps hb7)
      have hwlt : w.heap.size < w6.heap.size := by
        have := hzw3; have := hqb; have := hzw2; omega
      clear hT7 hb7 L6 B6 O6 R6 hw7
      obtain ⟨r1, r2, r3, r4, r5⟩ := R7.out
      cases C with
      | none =>
        go_wp2_with fail
        refine ret_cx2 w.heap.size rfl rfl rfl (x := .int .i64 0) (y := .slice none 0 0) (by go_simp) (by go_simp) rfl ?_
        exact ⟨_, rfl, OwnInts.nil _ _, (B7.out.setCell (by simp) _).setCell (by simp) _⟩
      | some c =>
        obtain ⟨n, ys⟩ := c
        have hset : setsOf N (gatherK L L.length) = true := by
          cases h : setsOf N (gatherK L L.length) with
          | true => rfl
          | false => have := HCD.out; rw [made_no h] at this; cases this
        have hisC : isC n ys = true := by
          have := HCD.out
          rw [made_yes hset] at this
          cases this
          exact made_isC hset
        have hly := isC_le hisC
        have hct := fun w h ht => implCxText_any n a6 c6 ys hcap6 (by omega) w h ht
        have hdat := cxText_data n ys hisC
        have O8 : Hid (OwnInts w7 (w.heap.size + 1) (.slice a6 ys.length c6) ys) := O7.out
        have T8 : Hid (Two w7 w6.heap.size (.int .i64 n) (.slice a6 ys.length c6)) := T7.out
        obtain ⟨a8, c8, g8, he8, _, hat8⟩ := O8.out.at
        cases he8
        have IN8 := Lib.hid hat8.ints
        have HCT := Lib.hid hct
        have HDT := Lib.hid hdat
        have HTab := Lib.hid L7.out.1
        clear hset hisC hct hdat hat8 HCD HCC L7 O7 T7 hcap6
        obtain ⟨t1, t2, t3, t4, t5⟩ := T8.out
        have hz7 := B7.out.size
        by_cases htx : cxText n ys = s
        · have hres : (some (n, ys)).filter (fun c => decide (whole c.1 c.2 = s.data.toList)) = some (n, ys) := by
            rw [Option.filter_some, if_pos]
            rw [← htx]; exact decide_eq_true HDT.out.symm
          have HS := Lib.hid htx
          have HRES := Lib.hid hres
          clear htx hres
          go_wp2_with fail
          refine (HCT.out _ IN8.out HTab.out).mono ?_
          rintro e w8 ⟨rfl, hb8⟩
          rw [HS.out]
          have R8 := Lib.hid (R7.out.keeps hb8)
          have T9 := Lib.hid (T8.out.keeps hb8)
          have O9 := Lib.hid (O8.out.keeps hb8)
          have B9 := Lib.hid (B7.out.trans (hb8.mono hz7))
          clear hb8 r1 r2 r3 r4 r5 t1 t2 t3 t4 t5
          obtain ⟨r1, r2, r3, r4, r5⟩ := R8.out
          obtain ⟨t1, t2, t3, t4, t5⟩ := T9.out
          go_wp2_with fail
          refine ret_cx2 w.heap.size rfl rfl rfl (x := .int .i64 n) (y := .slice a6 ys.length c6) (by go_simp) (by go_simp) rfl ?_
          rw [HRES.out]
          exact ⟨_, rfl, (OwnInts.set (OwnInts.set O9.out _ _ _ (by omega)) _ _ _ (by omega)).lower (by omega), (B9.out.setCell (by simp) _).setCell (by simp) _⟩
        · have hres : (some (n, ys)).filter (fun c => decide (whole c.1 c.2 = s.data.toList)) = none := by
            rw [Option.filter_some, if_neg]
            intro h
            apply htx
            have h2 := of_decide_eq_true h
            exact bytes_eq (by rw [HDT.out]; exact h2)
          have hne : (((cxText n ys).toList) == s.toList) = false := str_ne htx
          have HRES := Lib.hid hres
          clear htx hres
          go_wp2_with fail
          refine (HCT.out _ IN8.out HTab.out).mono ?_
          rintro e w8 ⟨rfl, hb8⟩
          have R8 := Lib.hid (R7.out.keeps hb8)
          have B9 := Lib.hid (B7.out.trans (hb8.mono hz7))
          clear hb8 r1 r2 r3 r4 r5 t1 t2 t3 t4 t5
          obtain ⟨r1, r2, r3, r4, r5⟩ := R8.out
          go_wp2_with fail
          refine ret_cx2 w.heap.size rfl rfl rfl (x := .int .i64 0) (y := .slice none 0 0) (by go_simp) (by go_simp) rfl ?_
          rw [HRES.out]
          exact ⟨_, rfl, OwnInts.nil _ _, (B9.out.setCell (by simp) _).setCell (by simp) _⟩

end Go.Proofs.YtggpgannmmjcbaaGreatDoor
