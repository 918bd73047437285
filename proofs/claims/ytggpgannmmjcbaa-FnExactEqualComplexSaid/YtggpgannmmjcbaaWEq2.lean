/-
  WALKS: impl.EqualComplex.
-/
import Derived.Test.YtggpgannmmjcbaaWEq1
import Derived.Deep.RegionHeld3
namespace Go.Proofs.Ytggpgannmmjcbaa
open Go.RowKit
open Sets

/-- EqualComplex. -/
def eqC (n m : Int) (xs ys : List Int) : Bool := n == m && xs == ys

theorem eqBlk_no {n m : Int} {xs ys : List Int} (h : eqBlk n m xs ys = false) : eqC n m xs ys = false := by
  rw [Bool.eq_false_iff]; intro e
  unfold eqC at e
  rw [Bool.and_eq_true, beq_iff_eq, beq_iff_eq] at e
  obtain ⟨rfl, rfl⟩ := e
  unfold eqBlk at h
  simp at h
theorem eqBlk_yes {n m : Int} {xs ys : List Int} (h : eqBlk n m xs ys = true) : n = m ∧ xs.length = ys.length ∧ pad xs = pad ys := by
  unfold eqBlk at h
  rw [Bool.and_eq_true, Bool.and_eq_true, beq_iff_eq, beq_iff_eq, beq_iff_eq] at h
  exact ⟨h.1, by omega, h.2.2⟩
theorem eqBlk_take {n m : Int} {xs ys : List Int} (h : eqBlk n m xs ys = true) : xs.take 64 = ys.take 64 := by
  obtain ⟨_, hl, hp⟩ := eqBlk_yes h
  unfold pad at hp
  exact (List.append_inj hp (by simp [hl])).1
theorem eqBlk_end {n m : Int} {xs ys : List Int} (h : eqBlk n m xs ys = true) (hs : xs.length ≤ 64) : eqC n m xs ys = true := by
  obtain ⟨rfl, hl, _⟩ := eqBlk_yes h
  have ht := eqBlk_take h
  rw [List.take_of_length_le hs, List.take_of_length_le (by omega)] at ht
  subst ht
  simp [eqC]
theorem eqBlk_step {n m : Int} {xs ys : List Int} (h : eqBlk n m xs ys = true) : eqC n m (xs.drop 64) (ys.drop 64) = eqC n m xs ys := by
  have ht := eqBlk_take h
  unfold eqC
  congr 1
  rw [Bool.eq_iff_iff, beq_iff_eq, beq_iff_eq]
  constructor
  · intro e
    rw [← List.take_append_drop 64 xs, ← List.take_append_drop 64 ys, ht, e]
  · intro e; rw [e]

theorem Ints.drop {w : World} {b o : Nat} {xs : List Int} (h : Ints w (some ⟨b, o, none⟩) xs) (k : Nat) : Ints w (some ⟨b, o + k, none⟩) (xs.drop k) := fun j hj => by
  rw [List.length_drop] at hj
  obtain ⟨b', o', e, hc⟩ := h (k + j) (by omega)
  cases e
  refine ⟨b, o + k, rfl, ?_⟩
  rw [show o + k + j = o + (k + j) by omega, hc]
  simp [List.getD]
theorem Two.set1o {w : World} {b b' : Nat} {x y : Value} (h : Two w b x y) (hne : b ≠ b') (z : Value) : Two (w.setCell ⟨b', 1, none⟩ z) b x y := by
  obtain ⟨h1, h2, h3, h4, h5⟩ := h
  refine ⟨by simp [World.setCell]; exact h1, ?_, ?_, by rw [World.frozen?_setCell]; exact h4, by rw [World.frozen?_setCell]; exact h5⟩
  · rw [World.cell?_setCell_other _ _ _ _ (by simp)]; exact h2
  · rw [World.cell?_setCell_other _ _ _ _ (by simp)]; exact h3

/-- The length that lies in a box. -/
def lenBox (w : World) (b : Nat) : Nat := match w.cell? ⟨b, 1, none⟩ with | some (.slice _ n _) => n | _ => 0
theorem Two.len {w : World} {b : Nat} {x : Value} {a : Option Addr} {l c : Nat} (h : Two w b x (.slice a l c)) : lenBox w b = l := by
  unfold lenBox; rw [h.2.2.1]

theorem eql_blk (n m : Int) (xs ys : List Int) (w : World) : (binOp .eql 51 (.agg (blkV n xs).toArray) (.agg (blkV m ys).toArray)).run Try.prog w = .ok (.bool (eqBlk n m xs ys)) w := by
  rw [run_eql_struct, beq_blk 9997 n m xs ys w]; rfl

attribute [local go_sem ↓] eql_blk

set_option maxRecDepth 100000 in
set_option maxHeartbeats 4000000 in
theorem implEqual_any (n m : Int) (pa pb : Option Addr) (ca cb : Nat) (xs ys : List Int) (hlx : xs.length ≤ 1099511627776) (hly : ys.length ≤ 1099511627776) (hcx : xs.length ≤ ca) (hcy : ys.length ≤ cb) (w : World) (hx : Ints w pa xs) (hy : Ints w pb ys) :
    Calls Try.prog 28 #[cx n (.slice pa xs.length ca), cx m (.slice pb ys.length cb)] w fun e w' => e = .returned (.bool (eqC n m xs ys)) ∧ Below w.heap.size w w' := by
  have T0 := (Two.new w (.int .i64 n) (.slice pa xs.length ca) 27).alloc (.cells #[.int .i64 m, .slice pb ys.length cb] 27)
  have T1 := Two.new (w.alloc (.cells #[.int .i64 n, .slice pa xs.length ca] 27)) (.int .i64 m) (.slice pb ys.length cb) 27
  have hB : Below w.heap.size w ((w.alloc (.cells #[.int .i64 n, .slice pa xs.length ca] 27)).alloc (.cells #[.int .i64 m, .slice pb ys.length cb] 27)) := ((Below.refl _ _).alloc (by simp) _).alloc (by simp) _
  rw [World.size_alloc] at T1
  have HT0 := Lib.hid T0
  have HT1 := Lib.hid T1
  have HB := Lib.hid hB
  have HX := Lib.hid hx
  have HY := Lib.hid hy
  obtain ⟨r, hr⟩ : ∃ r, eqC n m xs ys = r := ⟨_, rfl⟩
  rw [hr]
  have HR := Lib.hid hr
  clear T0 T1 hB hx hy hr
  go_enter Try.func28, Try.ntmps28
  go_wp2_with fail
  go_loopw [] (fun wr => ∃ (qa qb : Option Addr) (da db : Nat) (us vs : List Int), us.length ≤ 1099511627776 ∧ vs.length ≤ 1099511627776 ∧ us.length ≤ da ∧ vs.length ≤ db ∧ Ints w qa us ∧ Ints w qb vs ∧
      Two wr w.heap.size (.int .i64 n) (.slice qa us.length da) ∧ Two wr (w.heap.size + 1) (.int .i64 m) (.slice qb vs.length db) ∧ Below w.heap.size w wr ∧ eqC n m us vs = r) (fun wr => lenBox wr w.heap.size)
  case atStart => exact ⟨pa, pb, ca, cb, xs, ys, hlx, hly, hcx, hcy, HX.out, HY.out, HT0.out, HT1.out, HB.out, HR.out⟩
  case round =>
    clear HT0 HT1 HB HX HY HR hlx hly hcx hcy
    obtain ⟨qa, qb, da, db, us, vs, hlu, hlv, hcu, hcv, hu, hv, ta, tb, hb, hr⟩ := hrel
    have HU := Lib.hid (hu.keeps hb)
    have HV := Lib.hid (hv.keeps hb)
    have HU0 := Lib.hid hu
    have HV0 := Lib.hid hv
    have TA := Lib.hid ta
    have TB := Lib.hid tb
    have HB := Lib.hid hb
    have HR := Lib.hid hr
    have hz := hb.size
    clear hu hv ta tb hb hr
    obtain ⟨ta1, ta2, ta3, ta4, ta5⟩ := TA.out
    obtain ⟨tb1, tb2, tb3, tb4, tb5⟩ := TB.out
    cases hq : eqBlk n m us vs with
    | false =>
      go_wp2_with fail
      go_region_held3 (fun w' => w'.cell? ⟨w.heap.size, 0, none⟩ = some (.int .i64 n) ∧ w'.cell? ⟨w.heap.size, 1, none⟩ = some (.slice qa us.length da) ∧ w'.cell? ⟨w.heap.size + 1, 0, none⟩ = some (.int .i64 m) ∧ w'.cell? ⟨w.heap.size + 1, 1, none⟩ = some (.slice qb vs.length db) ∧ Below wr.heap.size wr w') (first | (exact ⟨TA.out.drew.2.1, TA.out.drew.2.2.1, TB.out.drew.2.1, TB.out.drew.2.2.1, bdrew1 _⟩) | (exact ⟨(TA.out.keeps (below_fresh hbA)).2.1, (TA.out.keeps (below_fresh hbA)).2.2.1, (TB.out.keeps (below_fresh hbA)).2.1, (TB.out.keeps (below_fresh hbA)).2.2.1, below_fresh hbA⟩) | (exact ⟨((TA.out.keeps (below_fresh hbA)).keeps hbB).2.1, ((TA.out.keeps (below_fresh hbA)).keeps hbB).2.2.1, ((TB.out.keeps (below_fresh hbA)).keeps hbB).2.1, ((TB.out.keeps (below_fresh hbA)).keeps hbB).2.2.1, (below_fresh hbA).trans (hbB.mono (below_fresh hbA).size)⟩)) (first | (go_at_call 49; with_reducible refine (firstBlock_any n _ _ us hlu _ (Ints.drew HU.out)).mono ?_; rintro e wA ⟨rfl, hbA⟩) | (go_at_call 49; with_reducible refine (firstBlock_any m _ _ vs hlv _ (HV.out.keeps (below_fresh hbA))).mono ?_; rintro e wB ⟨rfl, hbB⟩))
      have hW : Below wr.heap.size wr wB := (below_fresh hbA).trans (hbB.mono (below_fresh hbA).size)
      go_wp2_with fail
      obtain rfl : false = r := by rw [← HR.out]; exact (eqBlk_no hq).symm
      go_ret
      exact ⟨rfl, HB.out.trans (hW.mono hz)⟩
    | true =>
      have hle : us.length = vs.length := (eqBlk_yes hq).2.1
      have hle1 : us.length ≤ vs.length := by omega
      have hle2 : vs.length ≤ us.length := by omega
      have HE := Lib.hid hq
      clear hle
      by_cases hs : us.length ≤ 64
      · go_wp2_with fail
        go_region_held3 (fun w' => w'.cell? ⟨w.heap.size, 0, none⟩ = some (.int .i64 n) ∧ w'.cell? ⟨w.heap.size, 1, none⟩ = some (.slice qa us.length da) ∧ w'.cell? ⟨w.heap.size + 1, 0, none⟩ = some (.int .i64 m) ∧ w'.cell? ⟨w.heap.size + 1, 1, none⟩ = some (.slice qb vs.length db) ∧ Below wr.heap.size wr w') (first | (exact ⟨TA.out.drew.2.1, TA.out.drew.2.2.1, TB.out.drew.2.1, TB.out.drew.2.2.1, bdrew1 _⟩) | (exact ⟨(TA.out.keeps (below_fresh hbA)).2.1, (TA.out.keeps (below_fresh hbA)).2.2.1, (TB.out.keeps (below_fresh hbA)).2.1, (TB.out.keeps (below_fresh hbA)).2.2.1, below_fresh hbA⟩) | (exact ⟨((TA.out.keeps (below_fresh hbA)).keeps hbB).2.1, ((TA.out.keeps (below_fresh hbA)).keeps hbB).2.2.1, ((TB.out.keeps (below_fresh hbA)).keeps hbB).2.1, ((TB.out.keeps (below_fresh hbA)).keeps hbB).2.2.1, (below_fresh hbA).trans (hbB.mono (below_fresh hbA).size)⟩)) (first | (go_at_call 49; with_reducible refine (firstBlock_any n _ _ us hlu _ (Ints.drew HU.out)).mono ?_; rintro e wA ⟨rfl, hbA⟩) | (go_at_call 49; with_reducible refine (firstBlock_any m _ _ vs hlv _ (HV.out.keeps (below_fresh hbA))).mono ?_; rintro e wB ⟨rfl, hbB⟩))
        have hW : Below wr.heap.size wr wB := (below_fresh hbA).trans (hbB.mono (below_fresh hbA).size)
        have TA2 := Lib.hid ((TA.out.keeps (below_fresh hbA)).keeps hbB)
        obtain ⟨sa1, sa2, sa3, sa4, sa5⟩ := TA2.out
        go_wp2_with fail
        obtain rfl : true = r := by rw [← HR.out]; exact (eqBlk_end HE.out hs).symm
        go_ret
        exact ⟨rfl, HB.out.trans (hW.mono hz)⟩
      · go_wp2_with fail
        go_region_held3 (fun w' => w'.cell? ⟨w.heap.size, 0, none⟩ = some (.int .i64 n) ∧ w'.cell? ⟨w.heap.size, 1, none⟩ = some (.slice qa us.length da) ∧ w'.cell? ⟨w.heap.size + 1, 0, none⟩ = some (.int .i64 m) ∧ w'.cell? ⟨w.heap.size + 1, 1, none⟩ = some (.slice qb vs.length db) ∧ Below wr.heap.size wr w') (first | (exact ⟨TA.out.drew.2.1, TA.out.drew.2.2.1, TB.out.drew.2.1, TB.out.drew.2.2.1, bdrew1 _⟩) | (exact ⟨(TA.out.keeps (below_fresh hbA)).2.1, (TA.out.keeps (below_fresh hbA)).2.2.1, (TB.out.keeps (below_fresh hbA)).2.1, (TB.out.keeps (below_fresh hbA)).2.2.1, below_fresh hbA⟩) | (exact ⟨((TA.out.keeps (below_fresh hbA)).keeps hbB).2.1, ((TA.out.keeps (below_fresh hbA)).keeps hbB).2.2.1, ((TB.out.keeps (below_fresh hbA)).keeps hbB).2.1, ((TB.out.keeps (below_fresh hbA)).keeps hbB).2.2.1, (below_fresh hbA).trans (hbB.mono (below_fresh hbA).size)⟩)) (first | (go_at_call 49; with_reducible refine (firstBlock_any n _ _ us hlu _ (Ints.drew HU.out)).mono ?_; rintro e wA ⟨rfl, hbA⟩) | (go_at_call 49; with_reducible refine (firstBlock_any m _ _ vs hlv _ (HV.out.keeps (below_fresh hbA))).mono ?_; rintro e wB ⟨rfl, hbB⟩))
        have hW : Below wr.heap.size wr wB := (below_fresh hbA).trans (hbB.mono (below_fresh hbA).size)
        have TA2 := Lib.hid ((TA.out.keeps (below_fresh hbA)).keeps hbB)
        obtain ⟨sa1, sa2, sa3, sa4, sa5⟩ := TA2.out
        have TB2 := Lib.hid ((TB.out.keeps (below_fresh hbA)).keeps hbB)
        obtain ⟨sb1, sb2, sb3, sb4, sb5⟩ := TB2.out
        clear ta1 ta2 ta3 ta4 ta5 tb1 tb2 tb3 tb4 tb5 hq
        go_wp2_with fail
        obtain ⟨ga, oa, rfl, _⟩ := HU.out 0 (by omega)
        obtain ⟨gb, ob, rfl, _⟩ := HV.out 0 (by omega)
        have hda : 64 < da := by omega
        have hdb : 64 < db := by omega
        have hua : 64 ≤ us.length := by omega
        have hvb : 64 ≤ vs.length := by omega
        go_region
        have eu : us.length - 64 = (us.drop 64).length := by rw [List.length_drop]
        have ev : vs.length - 64 = (vs.drop 64).length := by rw [List.length_drop]
        have TA3 := ((TA2.out.set1 (.slice (some ⟨ga, oa + 64, none⟩) (us.length - 64) (da - 64))).set1o (b' := w.heap.size + 1) (by omega) (.slice (some ⟨gb, ob + 64, none⟩) (vs.length - 64) (db - 64)))
        have TB3 := ((TB2.out.set1o (b' := w.heap.size) (by omega) (.slice (some ⟨ga, oa + 64, none⟩) (us.length - 64) (da - 64))).set1 (.slice (some ⟨gb, ob + 64, none⟩) (vs.length - 64) (db - 64)))
        have hB3 := ((HB.out.trans (hW.mono hz)).setCell (p := ⟨w.heap.size, 1, none⟩) (by simp) (.slice (some ⟨ga, oa + 64, none⟩) (us.length - 64) (da - 64))).setCell (p := ⟨w.heap.size + 1, 1, none⟩) (by simp) (.slice (some ⟨gb, ob + 64, none⟩) (vs.length - 64) (db - 64))
        have HA3 := Lib.hid TA3
        have HC3 := Lib.hid TB3
        have HB3 := Lib.hid hB3
        have EU := Lib.hid eu
        have EV := Lib.hid ev
        have hlen0 : lenBox wr w.heap.size = us.length := TA.out.len
        have hlen1 := TA3.len
        have L0 := Lib.hid hlen0
        have L1 := Lib.hid hlen1
        clear TA3 TB3 hB3 eu ev hlen0 hlen1 sa1 sa2 sa3 sa4 sa5 sb1 sb2 sb3 sb4 sb5
        go_wp2_with fail
        go_roundw
        case rel =>
          refine ⟨some ⟨ga, oa + 64, none⟩, some ⟨gb, ob + 64, none⟩, da - 64, db - 64, us.drop 64, vs.drop 64, by rw [← EU.out]; omega, by rw [← EV.out]; omega, by rw [← EU.out]; omega, by rw [← EV.out]; omega, HU0.out.drop 64, HV0.out.drop 64, ?_, ?_, HB3.out.drew, ?_⟩
          · rw [← EU.out]; exact HA3.out
          · rw [← EV.out]; exact HC3.out
          · rw [eqBlk_step HE.out]; exact HR.out
        case measure =>
          have e2 : lenBox ((wB.setCell ⟨w.heap.size, 1, none⟩ (.slice (some ⟨ga, oa + 64, none⟩) (us.length - 64) (da - 64))).setCell ⟨w.heap.size + 1, 1, none⟩ (.slice (some ⟨gb, ob + 64, none⟩) (vs.length - 64) (db - 64))).drew w.heap.size = us.length - 64 := L1.out
          rw [e2, L0.out]; omega

end Go.Proofs.Ytggpgannmmjcbaa
