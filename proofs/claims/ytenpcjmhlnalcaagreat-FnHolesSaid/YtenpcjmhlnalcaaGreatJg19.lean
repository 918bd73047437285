/-
  TEXTS of one claim, put together: WSplit, WCxRead2.
-/
import Derived.Test.YtenpcjmhlnalcaaGreatJg18
import Derived.Laws.OwnMore
import Derived.OwnWalk
/-! WALKS: spec.SplitByte and impl.SplitByte cut a text into the same pieces; each hands back a row of its own. -/

namespace Go.Proofs.YtenpcjmhlnalcaaGreat
open Go.RowKit
open Pieces (Inv strs)

theorem info_strS : (Tryz.prog.info? 9).map (fun i => (i.zero, i.size, i.bytes)) = some (some (.string ByteArray.empty), 1, 16) := by kernel_rfl

theorem extract_eq (s : ByteArray) (f k : Nat) : (s.extract f k).data.toList = (s.data.toList.drop f).take (k - f) := Lib.extract_data s f k

theorem inv_hit' (b : UInt8) (s : ByteArray) (f k : Nat) (done : List ByteArray) (hk : k < s.size) (hb : s[k] = b) (h : Inv b s.data.toList f k (done.map (·.data.toList))) :
    Inv b s.data.toList (k + 1) (k + 1) ((done ++ [s.extract f k]).map (·.data.toList)) := by
  rw [List.map_append, List.map_cons, List.map_nil, extract_eq]
  exact Pieces.inv_hit b _ f k _ (by rw [Array.length_toList]; exact hk) hb h
theorem inv_end' (b : UInt8) (s : ByteArray) (f : Nat) (done : List ByteArray) (h : Inv b s.data.toList f s.size (done.map (·.data.toList))) (g : Nat) :
    Inv b s.data.toList g (s.size + 1) ((done ++ [s.extract f s.size]).map (·.data.toList)) := by
  rw [List.map_append, List.map_cons, List.map_nil, extract_eq]
  have e : s.data.toList.length = s.size := Array.length_toList
  rw [← e] at h ⊢
  exact Pieces.inv_end b _ f _ h g
theorem inv_skip' (b : UInt8) (s : ByteArray) (f k : Nat) (done : List ByteArray) (hf : f ≤ k) (hk : k < s.size) (hb : s[k] ≠ b) (h : Inv b s.data.toList f k (done.map (·.data.toList))) :
    Inv b s.data.toList f (k + 1) (done.map (·.data.toList)) :=
  Pieces.inv_skip b _ f k _ hf (by rw [Array.length_toList]; exact hk) hb h
theorem inv_done' (b : UInt8) (s : ByteArray) (f : Nat) (done : List ByteArray) (h : Inv b s.data.toList f (s.size + 1) (done.map (·.data.toList))) : done = strs b s := by
  unfold strs
  apply Pieces.of_data
  have e : s.data.toList.length = s.size := Array.length_toList
  rw [← e] at h
  exact Pieces.inv_done b _ f _ h

/-- A row of strings that the call owns. -/
def OwnStrs (w : World) (base : Nat) (v : Value) (xs : List ByteArray) : Prop := w.ownsRow base 9 1 v xs.length (xs.map Value.string)

theorem own_next {w : World} {base : Nat} {v : Value} {xs : List ByteArray} {x : ByteArray} (h : w.ownsRow base 9 1 v (xs.length + 1) (xs.map Value.string ++ [.string x])) : OwnStrs w base v (xs ++ [x]) := by
  unfold OwnStrs
  rw [List.length_append, List.map_append]
  exact h

set_option maxRecDepth 100000 in
set_option maxHeartbeats 2000000 in
theorem specSplit_any (s : ByteArray) (b : UInt8) (hs : s.size ≤ 1048576) (w : World) :
    Calls Tryz.prog 103 #[.string s, .int .u8 (b.toNat : Int)] w fun e w' => ∃ v, e = .returned v ∧ OwnStrs w' w.heap.size v (strs b s) ∧ Below w.heap.size w w' := by
  obtain ⟨i0, hi, hz0, hz1, hz2⟩ := info_parts info_strS
  go_enter Tryz.func103, Tryz.ntmps103
  go_wp2
  go_loopw [5, 6, 7] (fun out from_ i wr => ∃ (f k : Nat) (done : List ByteArray), i = .int .i64 (k : Int) ∧ from_ = .int .i64 (f : Int) ∧ (k ≤ s.size → f ≤ k) ∧ k ≤ s.size + 1 ∧ done.length ≤ k ∧
      Inv b s.data.toList f k (done.map (·.data.toList)) ∧ OwnStrs wr w.heap.size out done ∧ Below w.heap.size w wr) (fun _ _ i _ => s.size + 1 - (intOf i).toNat)
  case atStart =>
    refine ⟨0, 0, [], rfl, rfl, fun _ => Nat.zero_le _, Nat.zero_le _, Nat.le_refl _, Pieces.inv_start _ _, ?_, (Below.refl _ _).alloc (Nat.le_refl _) _⟩
    exact World.ownsRow_lit _ _ 0 (Nat.le_refl _) (by unfold maxLen; omega) rfl
  case round =>
    obtain ⟨f, k, done, rfl, rfl, hf, hk, hl, hI, hO, hB⟩ := hrel
    have HI := Lib.hid hI
    unfold OwnStrs at hO
    have HO := Lib.hid hO
    clear hI hO
    have hsz := hB.size
    by_cases h1 : k < s.size
    · have hq : ((k : Int) == (s.size : Int)) = false := by rw [beq_eq_false_iff_ne]; omega
      have hf1 : f ≤ k := hf (by omega)
      by_cases hb : s[k] = b
      · have hb' : ((s[k].toNat : Int) == (b.toNat : Int)) = true := by rw [hb]; simp
        have HB := Lib.hid hb
        clear hb
        go_wp2_with (at_builtin; refine wpList_append_own _ rfl _ _ 83 rfl w.heap.size 9 i0 (.string ByteArray.empty) 1 16 Tryz.underlying83 hi hz0 hz1 hz2 rfl (by decide) _ _ _ rfl (HO.out.alloc _) ⟨wr.heap.size, 0, none⟩ 1 1 [.string (s.extract f k)] rfl rfl ?c1 ?c2 ?c3 ?c4 ?c5 ?_)
        case c1 => intro j u hj; exact Mem.cell_new wr _ _ j u hj
        case c2 => intro u hu; simp at hu; subst hu; rfl
        case c3 => unfold maxLen; omega
        case c4 => omega
        case c5 => simp; omega
        intro v' w1 hown1 hgrow _
        have hB1 : Below w.heap.size w w1 := (hB.alloc hsz _).grown hgrow (by simp; omega) (fun g hg => (HO.out.lt g hg).1)
        have H1 := Lib.hid hown1
        clear hown1 hgrow
        go_wp2
        go_roundw
        case rel => exact ⟨k + 1, k + 1, done ++ [s.extract f k], by go_num, by go_num, fun _ => Nat.le_refl _, by omega, by rw [List.length_append]; simp; omega, inv_hit' b s f k done h1 HB.out HI.out, own_next H1.out, hB1⟩
        case measure => simp [intOf]; omega
      · have hb' : ((s[k].toNat : Int) == (b.toNat : Int)) = false := by
          rw [beq_eq_false_iff_ne]; intro e; exact hb (UInt8.toNat_inj.1 (by omega))
        have HB := Lib.hid hb
        clear hb
        go_wp2
        go_roundw
        case rel => exact ⟨f, k + 1, done, by go_num, rfl, fun _ => by omega, by omega, by omega, inv_skip' b s f k done hf1 h1 HB.out HI.out, HO.out, hB⟩
        case measure => simp [intOf]; omega
    · by_cases h2 : k = s.size
      · have hq : ((k : Int) == (s.size : Int)) = true := by rw [beq_iff_eq]; omega
        have hf1 : f ≤ k := hf (by omega)
        have hk2 : k ≤ s.size := by omega
        have H2 := Lib.hid h2
        clear h2
        go_wp2_with (at_builtin; refine wpList_append_own _ rfl _ _ 83 rfl w.heap.size 9 i0 (.string ByteArray.empty) 1 16 Tryz.underlying83 hi hz0 hz1 hz2 rfl (by decide) _ _ _ rfl (HO.out.alloc _) ⟨wr.heap.size, 0, none⟩ 1 1 [.string (s.extract f k)] rfl rfl ?c1 ?c2 ?c3 ?c4 ?c5 ?_)
        case c1 => intro j u hj; exact Mem.cell_new wr _ _ j u hj
        case c2 => intro u hu; simp at hu; subst hu; rfl
        case c3 => unfold maxLen; omega
        case c4 => omega
        case c5 => simp; omega
        intro v' w1 hown1 hgrow _
        have hB1 : Below w.heap.size w w1 := (hB.alloc hsz _).grown hgrow (by simp; omega) (fun g hg => (HO.out.lt g hg).1)
        have H1 := Lib.hid hown1
        clear hown1 hgrow
        go_wp2
        go_roundw
        case rel =>
          have hi2 := HI.out
          rw [H2.out] at hi2
          exact ⟨k + 1, k + 1, done ++ [s.extract f k], by go_num, by go_num, fun h => by omega, by omega, by rw [List.length_append]; simp; omega, by rw [H2.out]; exact inv_end' b s f done hi2 _, own_next H1.out, hB1⟩
        case measure => simp [intOf]; omega
      · have H2 : Hid (k = s.size + 1) := by
          have : k = s.size + 1 := by omega
          exact this
        go_wp2
        go_ret
        have hi2 := HI.out
        rw [H2.out] at hi2
        have hd := inv_done' b s f done hi2
        refine ⟨_, rfl, ?_, hB⟩
        rw [← hd]
        exact HO.out

theorem own_row {w : World} {base : Nat} {v : Value} {xs : List ByteArray} (h : OwnStrs w base v xs) (hne : xs.length ≠ 0) :
    ∃ g cap, v = .slice (some ⟨g, 0, none⟩) xs.length cap ∧ base ≤ g ∧ g < w.heap.size ∧ StrRow w g 0 xs := by
  unfold OwnStrs at h
  obtain ⟨g, cap, rfl⟩ : ∃ g cap, v = .slice (some ⟨g, 0, none⟩) xs.length cap := by
    rcases h.2 with ⟨_, h0⟩ | ⟨g, cap, _, hv, _⟩
    · exact absurd h0 hne
    · exact ⟨g, cap, hv⟩
  obtain ⟨h1, h2⟩ := h.lt g rfl
  refine ⟨g, cap, rfl, h1, h2, fun j hj => ?_⟩
  rw [Nat.zero_add, h.cellAt j (by omega), List.getElem?_map, List.getD, List.getElem?_eq_getElem hj]
  rfl

theorem toNat_back (b : UInt8) : UInt8.ofNat ((b.toNat : Int)).toNat = b := by
  rw [Int.toNat_natCast]; exact UInt8.ofNat_toNat

/-- What the library's cut lays in its world: a new row of the pieces. -/
def cutWorld (w : World) (b : UInt8) (s : ByteArray) : World := (w.alloc (.cells #[.int .u8 (b.toNat : Int)] 5)).alloc (.cells ((strs b s).map Value.string).toArray 9)

theorem cut_below (w : World) (b : UInt8) (s : ByteArray) : Below w.heap.size w (cutWorld w b s) := ((Below.refl _ _).alloc (Nat.le_refl _) _).alloc (by simp) _
theorem cut_size (w : World) (b : UInt8) (s : ByteArray) : (cutWorld w b s).heap.size = w.heap.size + 2 := by unfold cutWorld; simp
theorem cut_row (w : World) (b : UInt8) (s : ByteArray) : StrRow (cutWorld w b s) (w.heap.size + 1) 0 (strs b s) := by
  intro j hj
  unfold cutWorld
  rw [World.cell?_alloc_at _ _ _ _ (by simp), Nat.zero_add, List.getElem?_toArray, List.getElem?_map, List.getD, List.getElem?_eq_getElem hj]
  rfl
theorem cut_frozen (w : World) (b : UInt8) (s : ByteArray) (j : Nat) : (cutWorld w b s).frozen? ⟨w.heap.size + 1, j, none⟩ = false := by
  unfold cutWorld
  exact World.frozen?_alloc_at _ _ _ _ (by simp)

end Go.Proofs.YtenpcjmhlnalcaaGreat

/-! WALKS: spec.ParseComplex. -/

namespace Go.Proofs.YtenpcjmhlnalcaaGreat
open Go.RowKit
open Sets
open Pieces (strs pieces strs_length strs_data piece_size strs_sizes)

/-- One text's set. -/
def one (x : ByteArray) : Option Int := (parseS x.data.toList).map asInt
theorem mapM_next {L : List ByteArray} {k : Nat} {ys : List Int} {y : Int} (hk : k < L.length) (h : (L.take k).mapM one = some ys) (hy : one (L.getD k ByteArray.empty) = some y) :
    (L.take (k + 1)).mapM one = some (ys ++ [y]) := by
  rw [List.getD, List.getElem?_eq_getElem hk] at hy
  simp only [Option.getD_some] at hy
  rw [List.take_succ_eq_append_getElem hk, List.mapM_append, h]
  simp [hy]
theorem mapM_fail {L : List ByteArray} {k : Nat} (hk : k < L.length) (hy : one (L.getD k ByteArray.empty) = none) : L.mapM one = none := by
  rw [List.getD, List.getElem?_eq_getElem hk] at hy
  simp only [Option.getD_some] at hy
  rw [← List.take_append_drop k L, List.mapM_append, List.drop_eq_getElem_cons hk, List.mapM_cons, hy]
  cases (L.take k).mapM one <;> rfl
theorem specSets_strs (p1 : ByteArray) : specSets p1.data.toList = if p1.data.toList = [] then some [] else (strs 44 p1).mapM one := by
  unfold specSets
  rw [← strs_data, List.mapM_map]
  rfl
theorem specP_other (s : ByteArray) (h : ¬ (strs 58 s).length = 2) : specP s.data.toList = none := by
  unfold specP
  rw [← strs_data]
  match hL : strs 58 s with
  | [] => rfl
  | [_] => rfl
  | [_, _] => rw [hL] at h; simp at h
  | _ :: _ :: _ :: _ => rfl
theorem specP_two (s p0 p1 : ByteArray) (h : strs 58 s = [p0, p1]) :
    specP s.data.toList = (specSets p1.data.toList).bind fun xs => (Num.readF 12 p0.data.toList).bind fun n => if isC n xs = true then some (n, xs) else none := by
  unfold specP
  rw [← strs_data, h]
  rfl

/-- All blocks below a bound but one are as they were. -/
def Rest (w5 : World) (b7 : Nat) (wr : World) : Prop := ∀ b, b < w5.heap.size → b ≠ b7 → wr.heap[b]? = w5.heap[b]?
theorem Rest.refl (w5 : World) (b7 : Nat) : Rest w5 b7 w5 := fun _ _ _ => rfl
theorem Rest.keeps {w5 wr w' : World} {b7 : Nat} (h : Rest w5 b7 wr) (hz : w5.heap.size ≤ wr.heap.size) (hb : Below wr.heap.size wr w') : Rest w5 b7 w' := fun b h1 h2 => by
  rw [hb.block b (by omega)]; exact h b h1 h2
theorem Rest.far {w5 wr w' : World} {b7 g : Nat} (h : Rest w5 b7 wr) (hz : w5.heap.size ≤ wr.heap.size) (hg : wr.grownBy w' (some g)) (hgz : w5.heap.size ≤ g) : Rest w5 b7 w' := fun b h1 h2 => by
  rw [hg.block b (by omega) (by simp; omega)]; exact h b h1 h2
theorem Rest.set {w5 wr : World} {b7 : Nat} (h : Rest w5 b7 wr) (o : Nat) (v : Value) : Rest w5 b7 (wr.setCell ⟨b7, o, none⟩ v) := fun b h1 h2 => by
  rw [Below.heap_setCell _ _ _ _ h2]; exact h b h1 h2
theorem Rest.two {w5 wr : World} {b7 b : Nat} {x y : Value} (h : Rest w5 b7 wr) (hz : w5.heap.size ≤ wr.heap.size) (ht : Two w5 b x y) (hne : b ≠ b7) : Two wr b x y := by
  obtain ⟨h1, h2, h3, h4, h5⟩ := ht
  have hb := h b h1 hne
  exact ⟨by omega, by rw [World.cell?_of_block (w := w5) (w' := wr) (a := ⟨b, 0, none⟩) hb]; exact h2, by rw [World.cell?_of_block (w := w5) (w' := wr) (a := ⟨b, 1, none⟩) hb]; exact h3,
    by rw [World.frozen?_of_block (w := w5) (w' := wr) (a := ⟨b, 0, none⟩) hb]; exact h4, by rw [World.frozen?_of_block (w := w5) (w' := wr) (a := ⟨b, 1, none⟩) hb]; exact h5⟩
theorem Rest.below {w5 wr w' : World} {b7 : Nat} (h : Rest w5 b7 wr) (hb : Below w5.heap.size wr w') : Rest w5 b7 w' := fun b h1 h2 => by
  rw [hb.block b h1]; exact h b h1 h2
theorem Two.below {B : Nat} {w w' : World} {b : Nat} {x y : Value} (h : Two w b x y) (hb : Below B w w') (hlt : b < B) : Two w' b x y := by
  obtain ⟨h1, h2, h3, h4, h5⟩ := h
  refine ⟨by have := hb.size; omega, ?_, ?_, ?_, ?_⟩
  · rw [hb.cell (p := ⟨b, 0, none⟩) hlt]; exact h2
  · rw [hb.cell (p := ⟨b, 1, none⟩) hlt]; exact h3
  · rw [hb.frozen (p := ⟨b, 0, none⟩) hlt]; exact h4
  · rw [hb.frozen (p := ⟨b, 1, none⟩) hlt]; exact h5
theorem Rest.cell {w5 wr : World} {b7 b o : Nat} {v : Value} (h : Rest w5 b7 wr) (hc : w5.cell? ⟨b, o, none⟩ = some v) (hne : b ≠ b7) : wr.cell? ⟨b, o, none⟩ = some v := by
  have hb := h b (World.block_lt_of_cell? w5 _ hc) hne
  rw [World.cell?_of_block (w := w5) (w' := wr) (a := ⟨b, o, none⟩) hb]; exact hc

set_option maxRecDepth 100000 in
set_option maxHeartbeats 4000000 in
theorem specParseC_any (s : ByteArray) (hs : s.size ≤ 1048576) (w : World) :
    Calls Tryz.prog 79 #[.string s] w fun e w' =>
      ∃ v, e = .returned (.tuple #[cx (oN (specP s.data.toList)) v, .bool (specP s.data.toList).isSome]) ∧ OwnInts w' w.heap.size v (oL (specP s.data.toList)) ∧ Below w.heap.size w w' := by
  obtain ⟨i0, hi, hz0, hz1, hz2⟩ := info_parts info_int
  obtain ⟨C, hC⟩ : ∃ C, specP s.data.toList = C := ⟨_, rfl⟩
  rw [hC]
  have hB0 : Below w.heap.size w (w.alloc (Obj.cells #[.int .i64 0, .slice none 0 0] 26)) := (Below.refl _ _).alloc (Nat.le_refl _) _
  have hR0 := Two.new w (.int .i64 0) (.slice none 0 0) 26
  have hspl : ∀ w, Calls Tryz.prog 103 #[.string s, .int .u8 58] w fun e w' => ∃ v, e = .returned v ∧ OwnStrs w' w.heap.size v (strs 58 s) ∧ Below w.heap.size w w' := fun w => specSplit_any s 58 hs w
  have HC := Lib.hid hC
  have HB0 := Lib.hid hB0
  have HR0 := Lib.hid hR0
  have HSPL := Lib.hid hspl
  clear hC hB0 hR0 hspl
  go_enter Tryz.func79, Tryz.ntmps79
  go_wp2_with fail
  refine (HSPL.out _).mono ?_
  rintro e w1 ⟨v, rfl, hO1, hb1⟩
  have R1 := Lib.hid (HR0.out.keeps hb1)
  have B1 := Lib.hid (HB0.out.trans (hb1.mono (by simp)))
  have hzw1 : w.heap.size + 1 ≤ w1.heap.size := by have := hb1.size; simp at this; exact this
  have hne := Pieces.strs_ne 58 s
  obtain ⟨g4, c4, rfl, hg4, hrow4⟩ := own_row hO1 hne
  obtain ⟨hg4b, hrow⟩ := hrow4
  have hsum := strs_sizes 58 s
  obtain ⟨L, hL⟩ : ∃ L, strs 58 s = L := ⟨_, rfl⟩
  rw [hL] at hrow hne hsum ⊢
  have HLs := Lib.hid hL
  have ROW := Lib.hid hrow
  have HSUM := Lib.hid hsum
  clear hrow hsum hL hb1 HB0 HR0 HSPL hO1 hne
  have hg4c : w.heap.size + 1 ≤ g4 := by simpa using hg4
  clear hg4
  by_cases hl2 : L.length = 2
  case neg =>
    have hbne : ((L.length : Int) != 2) = true := by simp; omega
    have HCn : Hid (C = none) := Lib.hid (by rw [← HC.out]; exact specP_other s (by rw [HLs.out]; exact hl2))
    clear hl2
    obtain ⟨r1, r2, r3, r4, r5⟩ := R1.out
    go_wp2_with fail
    refine ret_cx2 w.heap.size rfl rfl rfl (x := .int .i64 0) (y := .slice none 0 0) (by go_simp) (by go_simp) rfl ?_
    rw [HCn.out]
    exact ⟨_, rfl, OwnInts.nil _ _, (B1.out.setCell (by simp) _).setCell (by simp) _⟩
  obtain ⟨p0, p1, rfl⟩ : ∃ p0 p1, L = [p0, p1] := by
    match L, hl2 with
    | [a, b], _ => exact ⟨a, b, rfl⟩
  have hc0 : w1.cell? ⟨g4, 0, none⟩ = some (.string p0) := ROW.out 0 (by simp)
  have hc1 : w1.cell? ⟨g4, 1, none⟩ = some (.string p1) := ROW.out 1 (by simp)
  have hsz : p0.size + p1.size ≤ s.size := by have := HSUM.out; simpa using this
  have HP2 := Lib.hid (specP_two s p0 p1 HLs.out)
  clear hl2 ROW HSUM HLs
  have hint : ∀ w, Calls Tryz.prog 104 #[.string p0] w fun e w' => e = .returned (.tuple #[.int .i64 ((Num.readF 12 p0.data.toList).getD 0), .bool (Num.readF 12 p0.data.toList).isSome]) ∧ Below w.heap.size w w' := fun w => specInt_any p0 (by omega) w
  have hsp2 : ∀ w, Calls Tryz.prog 103 #[.string p1, .int .u8 44] w fun e w' => ∃ v, e = .returned v ∧ OwnStrs w' w.heap.size v (strs 44 p1) ∧ Below w.heap.size w w' := fun w => specSplit_any p1 44 (by omega) w
  have HINT := Lib.hid hint
  have HSP2 := Lib.hid hsp2
  have HC0 := Lib.hid hc0
  have HC1 := Lib.hid hc1
  clear hint hsp2 hc1
  obtain ⟨rd, hrd⟩ : ∃ rd, Num.readF 12 p0.data.toList = rd := ⟨_, rfl⟩
  rw [hrd] at HINT HP2
  clear hrd
  go_wp2_with fail
  refine (HINT.out _).mono ?_
  rintro e w2 ⟨rfl, hb2⟩
  have R2 := Lib.hid (R1.out.keeps hb2)
  have B2 := Lib.hid (B1.out.trans (hb2.mono (by omega)))
  have hzw2 : w1.heap.size ≤ w2.heap.size := hb2.size
  have hc1 : w2.cell? ⟨g4, 1, none⟩ = some (.string p1) := by rw [hb2.cell (p := ⟨g4, 1, none⟩) hg4b]; exact HC1.out
  clear hb2 R1 B1 HINT hc0
  go_upto_region 6 with fail
  generalize hw3 : World.alloc w2 _ = w3
  have hb3 : Below w2.heap.size w2 w3 := hw3 ▸ (Below.refl _ _).alloc (Nat.le_refl _) _
  have hT3 : Two w3 w2.heap.size (.int .i64 (rd.getD 0)) (.slice none 0 0) := hw3 ▸ Two.new w2 _ _ _
  have T3 := Lib.hid hT3
  have R3 := Lib.hid (R2.out.keeps hb3)
  have B3 := Lib.hid (B2.out.trans (hb3.mono (by omega)))
  have hc3 : w3.cell? ⟨g4, 1, none⟩ = some (.string p1) := by rw [hb3.cell (p := ⟨g4, 1, none⟩) (by show g4 < w2.heap.size; omega)]; exact hc1
  have hzw3 : w2.heap.size < w3.heap.size := hT3.1
  clear hT3 hb3 R2 B2 hw3 hc1
  go_wp2_with fail
  refine (HSP2.out _).mono ?_
  rintro e w5 ⟨v8, rfl, hO8, hb5⟩
  obtain ⟨g8, c8, rfl, hg8a, hg8b, hrow8⟩ := own_row hO8 (Pieces.strs_ne 44 p1)
  have T5 := Lib.hid (T3.out.keeps hb5)
  have R5 := Lib.hid (R3.out.keeps hb5)
  have B5 := Lib.hid (B3.out.trans (hb5.mono (by omega)))
  have hc5 : w5.cell? ⟨g4, 1, none⟩ = some (.string p1) := by rw [hb5.cell (p := ⟨g4, 1, none⟩) (by show g4 < w3.heap.size; omega)]; exact hc3
  have hzw5 : w3.heap.size ≤ w5.heap.size := hb5.size
  have hM1 : 1 ≤ (strs 44 p1).length := by have := Pieces.strs_ne 44 p1; omega
  have hM : (strs 44 p1).length ≤ 1048577 := by have := strs_length 44 p1; omega
  have hsz44 : ∀ j, j < (strs 44 p1).length → ((strs 44 p1).getD j ByteArray.empty).size ≤ 1048576 := fun j hj => by
    have := piece_size 44 p1 j hj
    omega
  have HSS := Lib.hid (specSets_strs p1)
  have HP1 : Hid (specP s.data.toList = (specSets p1.data.toList).bind fun xs => rd.bind fun n => if isC n xs = true then some (n, xs) else none) := HP2
  obtain ⟨M, hMM⟩ : ∃ M, strs 44 p1 = M := ⟨_, rfl⟩
  rw [hMM] at hM hM1 hsz44 hrow8 HSS ⊢
  have ROW8 := Lib.hid hrow8
  have HC5 := Lib.hid hc5
  have HSZ := Lib.hid hsz44
  clear hMM hO8 hb5 T3 R3 B3 hc3 hrow8 hc5 hsz44 HP2 HSP2
  by_cases hp1 : p1.data.toList = []
  · have HYS : Hid (specSets p1.data.toList = some []) := Lib.hid (by rw [HSS.out, if_pos hp1])
    obtain rfl : p1 = ⟨#[]⟩ := bytes_eq hp1
    clear hp1
    have hM0 : 0 < M.length := by omega
    have hc5 := HC5.out
    go_wp2
    go_loopw [9] (fun i wr => i = .int .i64 0 ∧ wr = w5) (fun _ _ => 0)
    case atStart => exact ⟨rfl, rfl⟩
    case round =>
      obtain ⟨rfl, rfl⟩ := hrel
      have OX : Hid (OwnInts wr wr.heap.size (.slice none 0 0) []) := Lib.hid (OwnInts.nil _ _)
      have TX := T5
      have RX := R5
      have BX := B5
      obtain ⟨r1, r2, r3, r4, r5⟩ := RX.out
      obtain ⟨t1, t2, t3, t4, t5⟩ := TX.out
      have HCe : Hid (C = rd.bind fun n => if isC n [] = true then some (n, []) else none) := Lib.hid (by rw [← HC.out, HP1.out, HYS.out]; rfl)
      cases rd with
      | none =>
        have HCn : Hid (C = none) := HCe
        go_wp2_with fail
        refine ret_cx2 w.heap.size rfl rfl rfl (x := .int .i64 0) (y := .slice none 0 0) (by go_simp) (by go_simp) rfl ?_
        rw [HCn.out]
        exact ⟨_, rfl, OwnInts.nil _ _, (BX.out.setCell (by simp) _).setCell (by simp) _⟩
      | some n =>
        have hqc : Calls Tryz.prog 40 #[cx n (.slice none 0 0)] wr fun e w' => e = .returned (.bool (isC n [])) ∧ Below wr.heap.size wr w' := specIsC_any n none 0 [] (by simp) wr (Ints.nil _ _)
        have HCe' : Hid (C = if isC n [] = true then some (n, []) else none) := HCe
        have TX' : Hid (Two wr w2.heap.size (.int .i64 n) (.slice none 0 0)) := TX
        clear t1 t2 t3 t4 t5 TX HCe
        obtain ⟨t1, t2, t3, t4, t5⟩ := TX'.out
        have hzx := BX.out.size
        cases hic : isC n [] with
        | false =>
          rw [hic] at hqc HCe'
          have HQC := Lib.hid hqc
          clear hqc hic
          go_wp2_with fail
          refine HQC.out.mono ?_
          rintro e w8 ⟨rfl, hb8⟩
          have R8 := Lib.hid (RX.out.keeps hb8)
          have B9 := Lib.hid (BX.out.trans (hb8.mono hzx))
          clear hb8 r1 r2 r3 r4 r5 t1 t2 t3 t4 t5
          obtain ⟨r1, r2, r3, r4, r5⟩ := R8.out
          go_wp2_with fail
          refine ret_cx2 w.heap.size rfl rfl rfl (x := .int .i64 0) (y := .slice none 0 0) (by go_simp) (by go_simp) rfl ?_
          rw [HCe'.out]
          exact ⟨_, rfl, OwnInts.nil _ _, (B9.out.setCell (by simp) _).setCell (by simp) _⟩
        | true =>
          rw [hic] at hqc HCe'
          have HQC := Lib.hid hqc
          clear hqc hic
          go_wp2_with fail
          refine HQC.out.mono ?_
          rintro e w8 ⟨rfl, hb8⟩
          have R8 := Lib.hid (RX.out.keeps hb8)
          have T9 := Lib.hid (TX'.out.keeps hb8)
          have O9 := Lib.hid (OX.out.keeps hb8)
          have B9 := Lib.hid (BX.out.trans (hb8.mono hzx))
          clear hb8 r1 r2 r3 r4 r5 t1 t2 t3 t4 t5
          obtain ⟨r1, r2, r3, r4, r5⟩ := R8.out
          obtain ⟨t1, t2, t3, t4, t5⟩ := T9.out
          go_wp2_with fail
          refine ret_cx2 w.heap.size rfl rfl rfl (x := .int .i64 n) (y := .slice none 0 0) (by go_simp) (by go_simp) rfl ?_
          rw [HCe'.out]
          exact ⟨_, rfl, (OwnInts.set (OwnInts.set O9.out _ _ _ (by omega)) _ _ _ (by omega)).lower (by omega), (B9.out.setCell (by simp) _).setCell (by simp) _⟩
  · have hsn1 : (p1.toList == []) = false := by
      rw [Lib.toList_data]; simpa using hp1
    have HSS2 : Hid (specSets p1.data.toList = M.mapM one) := Lib.hid (by rw [HSS.out, if_neg hp1])
    have hsn2 : ¬ p1.toList = [] := by rw [Lib.toList_data]; exact hp1
    have hsn3 : (!p1.toList.isEmpty) = true := by rw [Lib.toList_data]; simpa using hp1
    clear hp1
    go_wp2
    go_loopw [9] (fun i wr => ∃ (k : Nat) (v : Value) (ys : List Int), k ≤ M.length ∧ ys.length ≤ k ∧ i = .int .i64 (k : Int) ∧ (M.take k).mapM one = some ys ∧ OwnInts wr w5.heap.size v ys ∧ Two wr w2.heap.size (.int .i64 (rd.getD 0)) v ∧ Rest w5 w2.heap.size wr ∧ Below w.heap.size w wr ∧ w5.heap.size ≤ wr.heap.size) (fun i _ => M.length - (intOf i).toNat)
    case atStart => exact ⟨0, _, [], Nat.zero_le _, Nat.le_refl _, rfl, rfl, OwnInts.nil _ _, T5.out, Rest.refl _ _, B5.out, Nat.le_refl _⟩
    case round =>
      obtain ⟨k, v, ys, hk, hyl, rfl, hmk, hO, hT, hRest, hB, hszr⟩ := hrel
      have HMK := Lib.hid hmk
      have HO := Lib.hid hO
      have HT := Lib.hid hT
      have HRest := Lib.hid hRest
      have HB := Lib.hid hB
      have hcr : wr.cell? ⟨g4, 1, none⟩ = some (.string p1) := hRest.cell HC5.out (by omega)
      clear hmk hO hT hRest hB
      by_cases hlt : k < M.length
      · have h0 := ROW8.out k hlt
        rw [Nat.zero_add] at h0
        have hcx : wr.cell? ⟨g8, k, none⟩ = some (.string (M.getD k ByteArray.empty)) := HRest.out.cell h0 (by omega)
        have hps := HSZ.out k hlt
        have hpa := fun w => specParse_any (M.getD k ByteArray.empty) (by omega) w
        have hn1 : ∀ y, one (M.getD k ByteArray.empty) = some y → (M.take (k + 1)).mapM one = some (ys ++ [y]) := fun y hy => mapM_next hlt HMK.out hy
        have hn2 : one (M.getD k ByteArray.empty) = none → M.mapM one = none := fun hy => mapM_fail hlt hy
        have HN1 := Lib.hid hn1
        have HN2 := Lib.hid hn2
        unfold one at HN1 HN2
        clear h0 hn1 hn2
        generalize M.getD k ByteArray.empty = x at *
        cases hp : parseS x.data.toList with
        | none =>
          rw [hp] at hpa HN2
          have HPA := Lib.hid hpa
          have HCn : Hid (C = none) := Lib.hid (by rw [← HC.out, HP1.out, HSS2.out]; unfold one; rw [HN2.out rfl]; rfl)
          clear hpa hp
          have RX := Lib.hid (HRest.out.two hszr R5.out (by omega))
          go_wp2_with fail
          refine (HPA.out _).mono ?_
          rintro e w6 ⟨rfl, hb6⟩
          have R8 := Lib.hid (RX.out.keeps hb6)
          have B9 := Lib.hid (HB.out.trans (hb6.mono HB.out.size))
          clear hb6
          obtain ⟨r1, r2, r3, r4, r5⟩ := R8.out
          go_wp2_with fail
          refine ret_cx2 w.heap.size rfl rfl rfl (x := .int .i64 0) (y := .slice none 0 0) (by go_simp) (by go_simp) rfl ?_
          rw [HCn.out]
          exact ⟨_, rfl, OwnInts.nil _ _, (B9.out.setCell (by simp) _).setCell (by simp) _⟩
        | some y =>
          rw [hp] at hpa HN1
          have HPA := Lib.hid hpa
          clear hpa hp
          go_wp2_with fail
          refine (HPA.out _).mono ?_
          rintro e w6 ⟨rfl, hb6⟩
          have HO6 : Hid (w6.ownsRow w5.heap.size 3 1 v ys.length (ys.map (Value.int .i64))) := Lib.hid (OwnInts.keeps HO.out hb6)
          have T6 := Lib.hid (HT.out.keeps hb6)
          have Rest6 := Lib.hid (HRest.out.keeps hszr hb6)
          have HB6 := Lib.hid (HB.out.trans (hb6.mono HB.out.size))
          have hsz6 : w5.heap.size ≤ w6.heap.size := Nat.le_trans hszr hb6.size
          clear hb6 HO HT HRest HB hszr hcr hcx
          obtain ⟨t1, t2, t3, t4, t5⟩ := T6.out
          go_wp2_with (at_builtin; refine wpList_append_own _ rfl _ _ 24 rfl w5.heap.size 3 i0 (.int .i64 0) 1 8 Tryz.underlying24 hi hz0 hz1 hz2 rfl (by decide) _ _ _ rfl (HO6.out.alloc _) ⟨w6.heap.size, 0, none⟩ 1 1 [.int .i64 (y : Int)] rfl rfl ?c1 ?c2 ?c3 ?c4 ?c5 ?_)
          case c1 => intro j u hj; exact Mem.cell_new w6 _ _ j u hj
          case c2 => intro u hu; simp at hu; subst hu; rfl
          case c3 => unfold maxLen; omega
          case c4 => omega
          case c5 => simp; omega
          intro v' w7 hown1 hgrow _
          obtain ⟨a7, c7, g7, hv7, _, _⟩ := (OwnInts.next hown1).at
          have hb67 : Below w5.heap.size w6 w7 := ((Below.refl _ _).alloc hsz6 _).grown hgrow (by simp; omega) (fun g hg => (HO6.out.lt g hg).1)
          have T7 := Lib.hid (T6.out.below hb67 (by omega))
          have Rest7 := Lib.hid ((Rest6.out.below hb67).set 1 v')
          have HB7 := Lib.hid ((HB6.out.trans (hb67.mono (by omega))).setCell (p := ⟨w2.heap.size, 1, none⟩) (by show w.heap.size ≤ w2.heap.size; omega) v')
          have O7 := Lib.hid ((OwnInts.next hown1).set w2.heap.size 1 v' (by omega))
          have T8 := Lib.hid (T7.out.set1 v')
          have hsz7 : w5.heap.size ≤ w7.heap.size := Nat.le_trans hsz6 hb67.size
          clear hown1 hgrow hb67
          rw [hv7] at T8 HB7 Rest7 O7 ⊢
          rw [show (ys ++ [(y : Int)]).length = ys.length + 1 by simp] at T8 HB7 Rest7 O7 ⊢
          clear hv7 t1 t2 t3 t4 t5 HO6 T6 Rest6 HB6
          obtain ⟨t1, t2, t3, t4, t5⟩ := T7.out
          go_wp2
          go_roundw
          case rel => exact ⟨k + 1, _, ys ++ [(y : Int)], by omega, by simp; omega, by go_num, HN1.out _ rfl, O7.out, T8.out, Rest7.out, HB7.out, by simp [World.setCell]; exact hsz7⟩
          case measure => simp [intOf]; omega
      · have hkm : k = M.length := by omega
        have HYS : Hid (specSets p1.data.toList = some ys) := Lib.hid (by
          rw [HSS2.out]
          have := HMK.out
          rw [hkm, List.take_length] at this
          exact this)
        have OX := HO
        have TX := HT
        have RX := Lib.hid (HRest.out.two hszr R5.out (by omega))
        have BX := HB
        have HKM := Lib.hid hkm
        clear hkm HO HT HB
        obtain ⟨r1, r2, r3, r4, r5⟩ := RX.out
        obtain ⟨t1, t2, t3, t4, t5⟩ := TX.out
        have HCe : Hid (C = rd.bind fun n => if isC n ys = true then some (n, ys) else none) := Lib.hid (by rw [← HC.out, HP1.out, HYS.out]; rfl)
        cases rd with
        | none =>
          have HCn : Hid (C = none) := HCe
          go_wp2_with fail
          refine ret_cx2 w.heap.size rfl rfl rfl (x := .int .i64 0) (y := .slice none 0 0) (by go_simp) (by go_simp) rfl ?_
          rw [HCn.out]
          exact ⟨_, rfl, OwnInts.nil _ _, (BX.out.setCell (by simp) _).setCell (by simp) _⟩
        | some n =>
          obtain ⟨a6, c6, g6, rfl, hge6, hat6⟩ := OX.out.at
          have hqc := specIsC_any n a6 c6 ys (by omega) wr hat6.ints
          have HCe' : Hid (C = if isC n ys = true then some (n, ys) else none) := HCe
          have TX' : Hid (Two wr w2.heap.size (.int .i64 n) (.slice a6 ys.length c6)) := TX
          clear t1 t2 t3 t4 t5 TX HCe
          obtain ⟨t1, t2, t3, t4, t5⟩ := TX'.out
          have hzx := BX.out.size
          cases hic : isC n ys with
          | false =>
            rw [hic] at hqc HCe'
            have HQC := Lib.hid hqc
            clear hqc hic
            go_wp2_with fail
            refine HQC.out.mono ?_
            rintro e w8 ⟨rfl, hb8⟩
            have R8 := Lib.hid (RX.out.keeps hb8)
            have B9 := Lib.hid (BX.out.trans (hb8.mono hzx))
            clear hb8 r1 r2 r3 r4 r5 t1 t2 t3 t4 t5
            obtain ⟨r1, r2, r3, r4, r5⟩ := R8.out
            go_wp2_with fail
            refine ret_cx2 w.heap.size rfl rfl rfl (x := .int .i64 0) (y := .slice none 0 0) (by go_simp) (by go_simp) rfl ?_
            rw [HCe'.out]
            exact ⟨_, rfl, OwnInts.nil _ _, (B9.out.setCell (by simp) _).setCell (by simp) _⟩
          | true =>
            rw [hic] at hqc HCe'
            have HQC := Lib.hid hqc
            clear hqc hic
            go_wp2_with fail
            refine HQC.out.mono ?_
            rintro e w8 ⟨rfl, hb8⟩
            have R8 := Lib.hid (RX.out.keeps hb8)
            have T9 := Lib.hid (TX'.out.keeps hb8)
            have O9 := Lib.hid (OX.out.keeps hb8)
            have B9 := Lib.hid (BX.out.trans (hb8.mono hzx))
            clear hb8 r1 r2 r3 r4 r5 t1 t2 t3 t4 t5
            obtain ⟨r1, r2, r3, r4, r5⟩ := R8.out
            obtain ⟨t1, t2, t3, t4, t5⟩ := T9.out
            go_wp2_with fail
            refine ret_cx2 w.heap.size rfl rfl rfl (x := .int .i64 n) (y := .slice a6 ys.length c6) (by go_simp) (by go_simp) rfl ?_
            rw [HCe'.out]
            exact ⟨_, rfl, (OwnInts.set (OwnInts.set O9.out _ _ _ (by omega)) _ _ _ (by omega)).lower (by omega), (B9.out.setCell (by simp) _).setCell (by simp) _⟩

end Go.Proofs.YtenpcjmhlnalcaaGreat
