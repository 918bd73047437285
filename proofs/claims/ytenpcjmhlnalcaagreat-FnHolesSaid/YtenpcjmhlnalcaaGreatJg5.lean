/-
  TEXTS of one claim, put together: WOrder, WSpecOrder, WCx2, WCx3.
-/
import Derived.Test.YtenpcjmhlnalcaaGreatJg4
import Derived.Test.YtenpcjmhlnalcaaGreatJg1
import Derived.BigQuiet
/-! WALKS: impl.OrderSets and impl.SubsetsOf. -/

namespace Go.Proofs.YtenpcjmhlnalcaaGreat
open Go.RowKit
open Sets

theorem inZ_take (xs : List Int) (k : Nat) (h : k < xs.length) (s : Nat) : inZ (xs.take (k + 1)) s = (inZ (xs.take k) s || decide (xs.getD k 0 = (s : Int))) := by
  rw [Bool.eq_iff_iff, inZ_iff, List.take_succ_eq_append_getElem h, List.mem_append, Bool.or_eq_true, inZ_iff, decide_eq_true_iff, List.getD, List.getElem?_eq_getElem h, List.mem_singleton]
  exact ⟨fun h => h.imp_right Eq.symm, fun h => h.imp_right Eq.symm⟩
theorem allOk_at (xs : List Int) (h : allOk xs = true) (k : Nat) (hk : k < xs.length) : okZ (xs.getD k 0) = true := by
  unfold allOk at h
  rw [List.all_eq_true] at h
  rw [List.getD, List.getElem?_eq_getElem hk]
  exact h _ (List.getElem_mem hk)
theorem allOk_not (xs : List Int) (k : Nat) (hk : k < xs.length) (h : okZ (xs.getD k 0) = false) : order xs = [] := by
  unfold order
  rw [if_neg]
  intro e
  rw [allOk_at xs e k hk] at h
  cases h
theorem allOk_all (xs : List Int) (h : ∀ j, j < xs.length → okZ (xs.getD j 0) = true) : allOk xs = true := by
  unfold allOk
  rw [List.all_eq_true]
  intro x hx
  obtain ⟨j, hj, rfl⟩ := List.mem_iff_getElem.1 hx
  have := h j hj
  rwa [List.getD, List.getElem?_eq_getElem hj] at this

/-- Block B holds 64 marks. -/
def Marks (w : World) (B : Nat) (p : Nat → Bool) : Prop := ∀ t, t < 64 → w.cell? ⟨B, t, none⟩ = some (.bool (p t))

theorem marks_new (w : World) (A : Array Value) (ty : TypeId) (h : A = Array.replicate 64 (Value.bool false)) : Marks (w.alloc (.cells A ty)) w.heap.size (inZ []) := fun t ht => by
  rw [World.cell?_alloc_new, h, Array.getElem?_replicate, if_pos ht]; rfl
theorem free_new (w : World) (A : Array Value) (ty : TypeId) : ∀ t, (w.alloc (.cells A ty)).frozen? ⟨w.heap.size, t, none⟩ = false := fun _ => World.frozen?_alloc_at _ _ _ _ rfl
theorem marks_set {w : World} {B : Nat} (xs : List Int) (k s : Nat) (hk : k < xs.length) (hs : s < 64) (e : xs.getD k 0 = (s : Int)) (h : Marks w B (inZ (xs.take k))) : Marks (w.setCell ⟨B, s, none⟩ (.bool true)) B (inZ (xs.take (k + 1))) := fun t ht => by
  rw [inZ_take xs k hk, e]
  by_cases q : s = t
  · subst q
    rw [World.cell?_setCell_same _ _ _ (h s hs)]; simp
  · rw [World.cell?_setCell_other _ _ _ _ (fun h => q (by injection h with _ h2)), h t ht]
    have : decide ((s : Int) = (t : Int)) = false := by simp; omega
    rw [this, Bool.or_false]

theorem and_sub : ∀ a b : Nat, a < 64 → b < 64 → (bits BinOp.andNot IntKind.i64 (a : Int) (b : Int) == 0) = sub a b := by
  refine fin64b ?_
  decide +kernel

set_option maxRecDepth 100000 in
theorem isSubset_any (s t : Nat) (hs : s < 64) (ht : t < 64) (w : World) : Calls Tryz.prog 90 #[.int .i64 (s : Int), .int .i64 (t : Int)] w fun e w' => e = .returned (.bool (sub s t)) ∧ w = w' := by
  go_enter Tryz.func90, Tryz.ntmps90
  go_wp2
  go_ret
  exact ⟨ret_bool (and_sub s t hs ht), rfl⟩

theorem subsets_nat (s : Nat) (h : s < 64) : subsets (s : Int) = ord (fun t => sub t s) := by unfold subsets; rw [if_pos ((okZ_nat s).2 h)]; rfl
theorem subsets_no (x : Int) (h : okZ x = false) : subsets x = [] := by unfold subsets; rw [if_neg (by rw [h]; simp)]

end Go.Proofs.YtenpcjmhlnalcaaGreat

/-! WALKS: spec.OrderSets and spec.SubsetsOf. -/

namespace Go.Proofs.YtenpcjmhlnalcaaGreat
open Go.RowKit
open Sets

theorem info_bool : (Tryz.prog.info? 4).map (fun i => (i.zero, i.size, i.bytes)) = some (some (.bool false), 1, 1) := by kernel_rfl
theorem marks_made {w : World} {base g cap : Nat} {e : TypeId} (h : w.ownsRow base e 1 (.slice (some ⟨g, 0, none⟩) 64 cap) 64 (madeCells (Value.bool false).cells (64 * 1)).toList) : Marks w g (inZ []) := fun t ht => by
  rw [h.cellAt t (by omega)]
  show (madeCells #[Value.bool false] 64).toList[t]? = _
  rw [toList_madeCells_one, List.getElem?_replicate, if_pos ht]; rfl

set_option maxRecDepth 100000 in
set_option maxHeartbeats 4000000 in
theorem l2Order_any (a : Option Addr) (c : Nat) (xs : List Int) (hlen : xs.length ≤ 1099511627776) (hall : allOk xs = true) (w : World) (h : Ints w a xs) :
    Calls Tryz.prog 61 #[.slice a xs.length c] w fun e w' => ∃ v, e = .returned v ∧ OwnInts w' w.heap.size v (ord (inZ xs)) ∧ Below w.heap.size w w' := by
  obtain ⟨i0, hi, hz0, hz1, hz2⟩ := info_parts info_int
  obtain ⟨b0, hj, hj0, hj1, hj2⟩ := info_parts info_bool
  have H := Lib.hid h
  have HALL := Lib.hid hall
  clear h hall
  go_enter Tryz.func61, Tryz.ntmps61
  go_wp2_with (at_make; refine wpList_make_full _ rfl _ _ 86 rfl w.heap.size 4 b0 (.bool false) 1 Tryz.underlying86 hj hj0 hj1 _ _ _ _ 64 rfl rfl rfl rfl ?c1 ?c2 ?c3 ?_)
  case c1 => rw [hj2]; omega
  case c2 => unfold maxLen; omega
  case c3 => exact Nat.le_refl _
  intro w1 hown hgrow
  have hm1 := Lib.hid (marks_made hown)
  have hf1 := Lib.hid (fun t => hown.frozenAt t)
  have hsz1 : w.heap.size < w1.heap.size := (hown.lt w.heap.size rfl).2
  have hB1 := Mem.below_of_none hgrow
  clear hown hgrow
  go_wp2
  go_loopw [4] (fun i wr => ∃ k : Nat, k ≤ xs.length ∧ i = .int .i64 (k : Int) ∧ Marks wr w.heap.size (inZ (xs.take k)) ∧ (∀ t, wr.frozen? ⟨w.heap.size, t, none⟩ = false) ∧ w.heap.size < wr.heap.size ∧ Below w.heap.size w wr) (fun i _ => xs.length - (intOf i).toNat)
  case atStart => exact ⟨0, Nat.zero_le _, rfl, hm1.out, hf1.out, hsz1, hB1⟩
  case round =>
    clear hm1 hf1 hsz1 hB1
    obtain ⟨k, hk, rfl, hM, hF, hsz, hB⟩ := hrel
    have HM := Lib.hid hM
    have HF := Lib.hid hF
    clear hM hF
    by_cases hlt : k < xs.length
    · obtain ⟨b, o, rfl, g0⟩ := H.out k hlt
      have g : wr.cell? ⟨b, o + k, none⟩ = some (.int .i64 (xs.getD k 0)) := by rw [hB.cell (p := ⟨b, o + k, none⟩) (World.block_lt_of_cell? w _ g0)]; exact g0
      clear g0
      obtain ⟨s, hs, hs64⟩ := okZ_cast _ (allOk_at xs HALL.out k hlt)
      have HS := Lib.hid hs
      rw [hs] at g
      clear hs
      have hm := HM.out s hs64
      have hf := HF.out s
      go_wp2
      go_roundw
      case rel =>
        refine ⟨k + 1, by omega, by go_num, marks_set xs k s hlt hs64 HS.out HM.out, fun t => ?_, by simp [World.setCell]; exact hsz, hB.setCell (Nat.le_refl _) _⟩
        rw [World.frozen?_setCell]; exact HF.out t
      case measure => simp [intOf]; omega
    · have E := Lib.hid (show k = xs.length by omega)
      have hm : Marks wr w.heap.size (inZ xs) := by
        have := HM.out
        rwa [E.out, List.take_length] at this
      have HMX := Lib.hid hm
      clear hm HM HF E
      obtain ⟨wo, rfl⟩ : ∃ wo : World, wo = wr := ⟨_, rfl⟩
      generalize hpp : inZ xs = p at *
      have HPP := Lib.hid hpp
      clear hpp
      go_wp2
      go_loopw [5, 6] (fun v i wr => ∃ k : Nat, k ≤ 7 ∧ i = .int .i64 (k : Int) ∧ OwnInts wr (w.heap.size + 1) v (upto p k 0) ∧ Marks wr w.heap.size p ∧ w.heap.size < wr.heap.size ∧ Below w.heap.size w wr) (fun _ i _ => 7 - (intOf i).toNat)
      case atStart => exact ⟨0, by omega, rfl, OwnInts.lit wo _ [] hsz (by simp), fun t ht => by rw [World.cell?_alloc_lt _ _ _ hsz]; exact HMX.out t ht, by simp; omega, hB.alloc (by omega) _⟩
      case round =>
        clear HMX hB hsz
        obtain ⟨k, hk, rfl, hO, hM, hsz, hB⟩ := hrel
        have HO := Lib.hid hO
        have HM := Lib.hid hM
        clear hO hM
        obtain ⟨wq, rfl⟩ : ∃ wq : World, wq = wr := ⟨_, rfl⟩
        by_cases hlt : k < 7
        · have hlt7 : decide ((k : Int) ≤ 6) = true := by simp; omega
          go_wp2
          go_loopw [5, 7] (fun v i wr => ∃ n : Nat, n ≤ 64 ∧ i = .int .i64 (n : Int) ∧ OwnInts wr (w.heap.size + 1) v (upto p k n) ∧ Marks wr w.heap.size p ∧ w.heap.size < wr.heap.size ∧ Below w.heap.size w wr) (fun _ i _ => 64 - (intOf i).toNat)
          case atStart => exact ⟨0, by omega, rfl, HO.out, HM.out, hsz, hB⟩
          case round =>
            clear hB HO HM hsz
            obtain ⟨n, hn, rfl, hO, hM, hsz, hB⟩ := hrel
            unfold OwnInts at hO
            have HO := Lib.hid hO
            have HM := Lib.hid hM
            clear hO hM
            have hl := upto_length p k n
            by_cases hln : n < 64
            · have hpn := pc_le n
              have hm := HM.out n hln
              cases hp : p n with
              | true =>
                rw [hp] at hm
                have HP := Lib.hid hp
                clear hp
                by_cases hq : pc n = k
                · have hq' : ((pc n : Int) == (k : Int)) = true := by rw [hq]; simp
                  have HQ := Lib.hid hq
                  clear hq
                  go_wp2_with fail
                  refine (l2Size_any n hln _).mono ?_
                  rintro e w' ⟨rfl, rfl⟩
                  go_wp2_with (at_builtin; refine wpList_append_own _ rfl _ _ 24 rfl (w.heap.size + 1) 3 i0 (.int .i64 0) 1 8 Tryz.underlying24 hi hz0 hz1 hz2 rfl (by decide) _ _ _ rfl (HO.out.alloc _) ⟨wr.heap.size, 0, none⟩ 1 1 [.int .i64 (n : Int)] rfl rfl ?d1 ?d2 ?d3 ?d4 ?d5 ?_)
                  case d1 => intro j u hj; exact Mem.cell_new wr _ _ j u hj
                  case d2 => intro u hu; simp at hu; subst hu; rfl
                  case d3 => unfold maxLen; omega
                  case d4 => omega
                  case d5 => simp; omega
                  intro v' w1 hown1 hgrow _
                  have hbs : Below (w.heap.size + 1) wr w1 := ((Below.refl _ _).alloc (by omega) _).grown hgrow (by simp; omega) (fun g hg => (HO.out.lt g hg).1)
                  have hB1 : Below w.heap.size w w1 := (hB.alloc (by omega) _).grown hgrow (by simp; omega) (fun g hg => by have := (HO.out.lt g hg).1; omega)
                  have H1 := Lib.hid hown1
                  clear hown1 hgrow
                  have HM1 : Hid (Marks w1 w.heap.size p) := Lib.hid (fun t ht => by rw [hbs.cell (p := ⟨w.heap.size, t, none⟩) (show w.heap.size < w.heap.size + 1 by omega)]; exact HM.out t ht)
                  have hsz1 : w.heap.size < w1.heap.size := by have := hbs.size; omega
                  clear hbs
                  go_wp2
                  go_roundw
                  case rel => exact ⟨n + 1, by omega, by go_num, by rw [upto_hit p k n HQ.out HP.out]; exact OwnInts.next H1.out, HM1.out, hsz1, hB1⟩
                  case measure => simp [intOf]; omega
                · have hq' : ((pc n : Int) == (k : Int)) = false := by simp; omega
                  have HQ := Lib.hid hq
                  clear hq
                  go_wp2_with fail
                  refine (l2Size_any n hln _).mono ?_
                  rintro e w' ⟨rfl, rfl⟩
                  go_wp2
                  go_roundw
                  case rel => exact ⟨n + 1, by omega, by go_num, by rw [upto_miss p k n (fun h => HQ.out h.1)]; exact HO.out, HM.out, hsz, hB⟩
                  case measure => simp [intOf]; omega
              | false =>
                rw [hp] at hm
                have HP := Lib.hid hp
                clear hp
                go_wp2
                go_roundw
                case rel => exact ⟨n + 1, by omega, by go_num, by rw [upto_miss p k n (fun h => by rw [HP.out] at h; simp at h)]; exact HO.out, HM.out, hsz, hB⟩
                case measure => simp [intOf]; omega
            · have E := Lib.hid (show n = 64 by omega)
              go_wp2
              go_roundw
              case rel =>
                have h2 := HO.out
                rw [E.out, upto_line] at h2
                exact ⟨k + 1, by omega, by go_num, h2, HM.out, hsz, hB⟩
              case measure => simp [intOf]; omega
        · have E := Lib.hid (show k = 7 by omega)
          go_wp2
          go_ret
          have h2 := HO.out
          rw [E.out, upto_end] at h2
          refine ⟨_, rfl, ?_, hB⟩
          rw [HPP.out]
          exact OwnInts.lower (base := w.heap.size + 1) h2 (by omega)

/-- The subsets of s among the first k numbers. -/
def subl (s k : Nat) : List Int := ((List.range k).filter fun t => sub t s).map Int.ofNat
theorem subl_hit (s k : Nat) (h : sub k s = true) : subl s (k + 1) = subl s k ++ [(k : Int)] := by
  unfold subl; rw [List.range_succ, List.filter_append, List.map_append]; simp [h]
theorem subl_miss (s k : Nat) (h : sub k s = false) : subl s (k + 1) = subl s k := by
  unfold subl; rw [List.range_succ, List.filter_append, List.map_append]; simp [h]
theorem subl_length (s k : Nat) : (subl s k).length ≤ k := by
  unfold subl; rw [List.length_map]; exact Nat.le_trans (List.length_filter_le _ _) (by simp)
theorem mem_subl (s k : Nat) (x : Int) : x ∈ subl s k ↔ ∃ t : Nat, x = (t : Int) ∧ t < k ∧ sub t s = true := by
  unfold subl
  rw [List.mem_map]
  constructor
  · rintro ⟨t, ht, rfl⟩
    rw [List.mem_filter, List.mem_range] at ht
    exact ⟨t, rfl, ht.1, ht.2⟩
  · rintro ⟨t, rfl, h1, h2⟩
    exact ⟨t, by rw [List.mem_filter, List.mem_range]; exact ⟨h1, h2⟩, rfl⟩
theorem subl_ok (s : Nat) : allOk (subl s 64) = true := by
  unfold allOk
  rw [List.all_eq_true]
  intro x hx
  obtain ⟨t, rfl, ht, _⟩ := (mem_subl s 64 x).1 hx
  exact (okZ_nat t).2 ht
theorem subl_ord (s : Nat) : ord (inZ (subl s 64)) = ord (fun t => sub t s) := by
  apply ord_congr
  intro t ht
  rw [Bool.eq_iff_iff, inZ_iff, mem_subl]
  constructor
  · rintro ⟨u, hu, _, h⟩
    have : t = u := by omega
    rw [this]; exact h
  · intro h; exact ⟨t, rfl, ht, h⟩
theorem and_sub2 : ∀ a b : Nat, a < 64 → b < 64 → (bits BinOp.and IntKind.i64 (a : Int) (b : Int) == (a : Int)) = sub a b := by
  refine fin64b ?_
  decide +kernel

end Go.Proofs.YtenpcjmhlnalcaaGreat

/-! WALKS: impl.IsComplex and spec.IsComplex. -/

namespace Go.Proofs.YtenpcjmhlnalcaaGreat
open Go.RowKit
open Sets

set_option maxRecDepth 100000 in
theorem pointCount_b (n : Int) (b : Bool) (hb : inB 1 6 n = b) (w : World) : Calls Tryz.prog 85 #[.int .i64 n] w fun e w' => e = .returned (.bool b) ∧ w = w' := by
  subst hb
  by_cases h1 : 1 ≤ n
  · by_cases h2 : n ≤ 6
    · go_enter Tryz.func85, Tryz.ntmps85
      go_wp2
      go_ret
      exact ⟨by rw [inB_true h1 h2]; rfl, rfl⟩
    · go_enter Tryz.func85, Tryz.ntmps85
      go_wp2
      go_ret
      exact ⟨by rw [inB_false (fun h => by omega)]; rfl, rfl⟩
  · go_enter Tryz.func85, Tryz.ntmps85
    go_wp2
    go_ret
    exact ⟨by rw [inB_false (fun h => by omega)]; rfl, rfl⟩

theorem before_b (a b : Int) (r : Bool) (hr : befZ a b = r) (w : World) : Calls Tryz.prog 107 #[.int .i64 a, .int .i64 b] w fun e w' => e = .returned (.bool r) ∧ w = w' := by
  subst hr; exact implBefore_any a b w
theorem isSet_b (n s : Int) (r : Bool) (hr : setB n s = r) (w : World) : Calls Tryz.prog 86 #[.int .i64 n, .int .i64 s] w fun e w' => e = .returned (.bool r) ∧ w = w' := by
  subst hr; exact implIsSet_any n s w
theorem isSubset_b (x y : Int) (hx : okZ x = true) (hy : okZ y = true) (r : Bool) (hr : sub x.toNat y.toNat = r) (w : World) : Calls Tryz.prog 90 #[.int .i64 x, .int .i64 y] w fun e w' => e = .returned (.bool r) ∧ w = w' := by
  obtain ⟨s, rfl, hs⟩ := okZ_cast x hx
  obtain ⟨t, rfl, ht⟩ := okZ_cast y hy
  subst hr; exact isSubset_any s t hs ht w

theorem all_false {q : Int → Bool} {xs : List Int} {k : Nat} (hk : k < xs.length) (h : q (xs.getD k 0) = false) : xs.all q = false := by
  rw [Bool.eq_false_iff]; intro e
  have := List.all_eq_true.1 e (xs.getD k 0) (by rw [List.getD, List.getElem?_eq_getElem hk]; exact List.getElem_mem hk)
  rw [h] at this; cases this
theorem all_true {q : Int → Bool} {xs : List Int} (h : ∀ j, j < xs.length → q (xs.getD j 0) = true) : xs.all q = true := by
  rw [List.all_eq_true]; intro x hx
  obtain ⟨j, hj, rfl⟩ := List.mem_iff_getElem.1 hx
  have := h j hj
  rwa [List.getD, List.getElem?_eq_getElem hj] at this

set_option maxRecDepth 100000 in
set_option maxHeartbeats 2000000 in
theorem follows_any (a : Option Addr) (c : Nat) (es : List Int) (f : Int) (r : Bool) (hr : (es.all fun x => fits x f) = r) (hlen : es.length ≤ 1099511627776) (w : World) (h : Ints w a es) :
    Calls Tryz.prog 87 #[.slice a es.length c, .int .i64 f] w fun e w' => e = .returned (.bool r) ∧ w = w' := by
  have H := Lib.hid h
  have HR := Lib.hid hr
  clear h hr
  go_enter Tryz.func87, Tryz.ntmps87
  go_wp2
  go_loop [9] (fun i => ∃ k : Nat, k ≤ es.length ∧ i = .int .i64 (k : Int) ∧ ∀ j, j < k → fits (es.getD j 0) f = true) (fun i => es.length - (intOf i).toNat)
  case atStart => exact ⟨0, Nat.zero_le _, rfl, fun j hj => absurd hj (Nat.not_lt_zero _)⟩
  case round =>
    obtain ⟨k, hk, rfl, hq⟩ := hrel
    have HQ := Lib.hid hq
    clear hq
    by_cases hlt : k < es.length
    · obtain ⟨b, o, rfl, g⟩ := H.out k hlt
      obtain ⟨x, hx⟩ : ∃ x, es.getD k 0 = x := ⟨_, rfl⟩
      rw [hx] at g
      have HX := Lib.hid hx
      clear hx
      cases hb : befZ x f with
      | false =>
        have HF : Hid (r = false) := by
          have : r = false := by rw [← HR.out]; exact all_false hlt (by rw [HX.out]; exact fits_no_bef hb)
          exact this
        have HB := Lib.hid hb
        clear hb
        go_wp2_with fail
        refine (before_b x f false HB.out _).mono ?_
        rintro e w' ⟨rfl, rfl⟩
        go_wp2
        go_ret
        exact ⟨by rw [HF.out]; rfl, rfl⟩
      | true =>
        have hz := (befZ_iff x f).1 hb
        have HZ1 := Lib.hid hz.1
        have HZ2 := Lib.hid hz.2.1
        have HB := Lib.hid hb
        cases hs : sub x.toNat f.toNat with
        | true =>
          have HF : Hid (r = false) := by
            have : r = false := by rw [← HR.out]; exact all_false hlt (by rw [HX.out]; exact fits_no_sub hs)
            exact this
          have HS := Lib.hid hs
          clear hb hs hz
          go_wp2_with fail
          refine (before_b x f true HB.out _).mono ?_
          rintro e w' ⟨rfl, rfl⟩
          go_wp2_with fail
          refine (isSubset_b x f HZ1.out HZ2.out true HS.out _).mono ?_
          rintro e w' ⟨rfl, rfl⟩
          go_wp2
          go_ret
          exact ⟨by rw [HF.out]; rfl, rfl⟩
        | false =>
          have HF := Lib.hid ((fits_iff x f).2 ⟨hb, hs⟩)
          have HS := Lib.hid hs
          clear hb hs hz
          go_wp2_with fail
          refine (before_b x f true HB.out _).mono ?_
          rintro e w' ⟨rfl, rfl⟩
          go_wp2_with fail
          refine (isSubset_b x f HZ1.out HZ2.out false HS.out _).mono ?_
          rintro e w' ⟨rfl, rfl⟩
          go_wp2
          go_round
          case rel =>
            refine ⟨k + 1, by omega, by go_num, fun j hj => ?_⟩
            by_cases e : j = k
            · subst e; rw [HX.out]; exact HF.out
            · exact HQ.out j (by omega)
          case measure => simp [intOf]; omega
    · have E := Lib.hid (show k = es.length by omega)
      have HT : Hid (r = true) := by
        have : r = true := by rw [← HR.out]; exact all_true (fun j hj => HQ.out j (by rw [E.out]; exact hj))
        exact this
      go_wp2
      go_ret
      exact ⟨by rw [HT.out]; rfl, rfl⟩

theorem Ints.take {w : World} {a : Option Addr} {xs : List Int} (h : Ints w a xs) (k : Nat) : Ints w a (xs.take k) := fun j hj => by
  rw [List.length_take] at hj
  obtain ⟨b, o, e, hc⟩ := h j (by omega)
  refine ⟨b, o, e, ?_⟩
  rw [List.getD, List.getElem?_take_of_lt (by omega)]
  exact hc

theorem follows_take (a : Option Addr) (c : Nat) (xs : List Int) (k : Nat) (hk : k ≤ xs.length) (f : Int) (r : Bool) (hr : ((xs.take k).all fun x => fits x f) = r) (hlen : xs.length ≤ 1099511627776) (w : World) (h : Ints w a xs) :
    Calls Tryz.prog 87 #[.slice a k c, .int .i64 f] w fun e w' => e = .returned (.bool r) ∧ w = w' := by
  have e : (xs.take k).length = k := by rw [List.length_take]; omega
  have := follows_any a c (xs.take k) f r hr (by omega) w (h.take k)
  rwa [e] at this

set_option maxRecDepth 100000 in
set_option maxHeartbeats 4000000 in
theorem implIsC_any (n : Int) (a : Option Addr) (c : Nat) (xs : List Int) (hcap : xs.length ≤ c) (hlen : xs.length ≤ 1099511627776) (w : World) (h : Ints w a xs) :
    Calls Tryz.prog 62 #[cx n (.slice a xs.length c)] w fun e w' => e = .returned (.bool (isC n xs)) ∧ Below w.heap.size w w' := by
  cases hn : inB 1 6 n with
  | false =>
    have HN := Lib.hid hn
    have HC : Hid (isC n xs = false) := by
      have : isC n xs = false := by unfold isC; rw [hn]; rfl
      exact this
    clear hn h
    go_enter Tryz.func62, Tryz.ntmps62
    go_wp2_with fail
    refine (pointCount_b n false HN.out _).mono ?_
    rintro e w' ⟨rfl, rfl⟩
    go_wp2
    go_ret
    exact ⟨by rw [HC.out]; rfl, (Below.refl _ _).alloc (Nat.le_refl _) _⟩
  | true =>
    have HN := Lib.hid hn
    have hb0 : Below w.heap.size w (w.alloc (Obj.cells #[Value.int IntKind.i64 n, Value.slice a xs.length c] 26)) := (Below.refl _ _).alloc (Nat.le_refl _) _
    have H := Lib.hid (h.keeps hb0)
    have HB0 := Lib.hid hb0
    clear hn h hb0
    go_enter Tryz.func62, Tryz.ntmps62
    go_wp2_with fail
    refine (pointCount_b n true HN.out _).mono ?_
    rintro e w' ⟨rfl, rfl⟩
    go_wp2
    go_loop [12] (fun i => ∃ k : Nat, k ≤ xs.length ∧ i = .int .i64 (k : Int) ∧ ∀ j, j < k → okAt n xs j = true) (fun i => xs.length - (intOf i).toNat)
    case atStart => exact ⟨0, Nat.zero_le _, rfl, fun j hj => absurd hj (Nat.not_lt_zero _)⟩
    case round =>
      obtain ⟨k, hk, rfl, hq⟩ := hrel
      have HQ := Lib.hid hq
      clear hq
      by_cases hlt : k < xs.length
      · have hkc : k ≤ c := by omega
        obtain ⟨b, o, rfl, g⟩ := H.out k hlt
        obtain ⟨x, hx⟩ : ∃ x, xs.getD k 0 = x := ⟨_, rfl⟩
        rw [hx] at g
        have HX := Lib.hid hx
        clear hx
        cases hs : setB n x with
        | false =>
          have HF := Lib.hid (isC_no hlt (okAt_no_set (n := n) (by rw [HX.out]; exact hs)))
          have HS := Lib.hid hs
          clear hs
          go_wp2_with fail
          refine (isSet_b n x false HS.out _).mono ?_
          rintro e w' ⟨rfl, rfl⟩
          go_wp2
          go_ret
          exact ⟨by rw [HF.out]; rfl, HB0.out⟩
        | true =>
          have HS := Lib.hid hs
          cases ha : (xs.take k).all (fun y => fits y x) with
          | false =>
            have HA := Lib.hid ha
            have hno : okAt n xs k = false := by unfold okAt; rw [HX.out, ha, Bool.and_false]
            have HF := Lib.hid (isC_no hlt hno)
            clear hs ha hno
            go_wp2_with fail
            refine (isSet_b n x true HS.out _).mono ?_
            rintro e w' ⟨rfl, rfl⟩
            go_wp2_with fail
            refine (follows_take _ _ xs k hk x false HA.out hlen _ H.out).mono ?_
            rintro e w' ⟨rfl, rfl⟩
            go_wp2
            go_ret
            exact ⟨by rw [HF.out]; rfl, HB0.out⟩
          | true =>
            have HA := Lib.hid ha
            have hyes : okAt n xs k = true := by unfold okAt; rw [HX.out, ha, hs]; rfl
            have HF := Lib.hid hyes
            clear hs ha hyes
            go_wp2_with fail
            refine (isSet_b n x true HS.out _).mono ?_
            rintro e w' ⟨rfl, rfl⟩
            go_wp2_with fail
            refine (follows_take _ _ xs k hk x true HA.out hlen _ H.out).mono ?_
            rintro e w' ⟨rfl, rfl⟩
            go_wp2
            go_round
            case rel =>
              refine ⟨k + 1, by omega, by go_num, fun j hj => ?_⟩
              by_cases e : j = k
              · subst e; exact HF.out
              · exact HQ.out j (by omega)
            case measure => simp [intOf]; omega
      · have E := Lib.hid (show k = xs.length by omega)
        have HT : Hid (isC n xs = true) := by
          have : isC n xs = true := (isC_iff n xs).2 ⟨(inB_iff _ _ _).1 HN.out, fun j hj => HQ.out j (by rw [E.out]; exact hj)⟩
          exact this
        go_wp2
        go_ret
        exact ⟨by rw [HT.out]; rfl, HB0.out⟩

end Go.Proofs.YtenpcjmhlnalcaaGreat

/-! WALKS: spec.IsComplex. -/

namespace Go.Proofs.YtenpcjmhlnalcaaGreat
open Go.RowKit
open Sets

theorem specIsSet_b (n s : Int) (r : Bool) (hr : setB n s = r) (w : World) : Calls Tryz.prog 57 #[.int .i64 n, .int .i64 s] w fun e w' => e = .returned (.bool r) ∧ w = w' := by
  subst hr; exact specIsSet_any n s w
theorem l2Before_b (x y : Int) (hx : okZ x = true) (hy : okZ y = true) (r : Bool) (hr : befZ x y = r) (w : World) : Calls Tryz.prog 58 #[.int .i64 x, .int .i64 y] w fun e w' => e = .returned (.bool r) ∧ w = w' := by
  obtain ⟨s, rfl, hs⟩ := okZ_cast x hx
  obtain ⟨t, rfl, ht⟩ := okZ_cast y hy
  subst hr; rw [befZ_nat s t hs ht]; exact l2Before_any s t hs ht w
theorem and_subZ (x y : Int) (hx : okZ x = true) (hy : okZ y = true) : (bits BinOp.and IntKind.i64 x y == x) = sub x.toNat y.toNat := by
  obtain ⟨s, rfl, hs⟩ := okZ_cast x hx
  obtain ⟨t, rfl, ht⟩ := okZ_cast y hy
  exact and_sub2 s t hs ht

theorem bdrew {B : Nat} {w W : World} (h : Below B w W) (n : Nat) : Below B w (W.drewN n) := ⟨h.os, h.tape, h.output, h.size, h.block⟩

theorem quietly {f : FuncId} {args : Array Value} {w : World} {m n : Nat} {v : Value}
    (h : Calls Tryz.prog f args (w.drewN (m + n)) fun e w' => e = .returned v ∧ w.drewN (m + n) = w') : Calls Tryz.prog f args (w.drewN (m + n)) fun e w'' => e = .returned v ∧ ∃ n, w'' = w.drewN (m + n) :=
  h.mono fun _ _ ⟨he, hw⟩ => ⟨he, n, hw.symm⟩

set_option maxRecDepth 100000 in
set_option maxHeartbeats 4000000 in
theorem specIsC_any (n : Int) (a : Option Addr) (c : Nat) (xs : List Int) (hlen : xs.length ≤ 1099511627776) (w : World) (h : Ints w a xs) :
    Calls Tryz.prog 40 #[cx n (.slice a xs.length c)] w fun e w' => e = .returned (.bool (isC n xs)) ∧ Below w.heap.size w w' := by
  have hb0 : Below w.heap.size w (w.alloc (Obj.cells #[Value.int IntKind.i64 n, Value.slice a xs.length c] 26)) := (Below.refl _ _).alloc (Nat.le_refl _) _
  have htwo : Two (w.alloc (Obj.cells #[Value.int IntKind.i64 n, Value.slice a xs.length c] 26)) w.heap.size (.int .i64 n) (.slice a xs.length c) := Two.new _ _ _ _
  have H := Lib.hid (h.keeps hb0)
  have HB0 := Lib.hid hb0
  have HT := Lib.hid htwo
  clear h hb0 htwo
  go_enter Tryz.func40, Tryz.ntmps40
  go_wp2
  generalize (w.alloc (Obj.cells #[Value.int IntKind.i64 n, Value.slice a xs.length c] 26)) = W at *
  go_loopw [3] (fun i wr => ∃ k m : Nat, k ≤ xs.length ∧ i = .int .i64 (k : Int) ∧ wr = W.drewN m ∧ ∀ j, j < k → okAt n xs j = true) (fun i _ => xs.length - (intOf i).toNat)
  case atStart => exact ⟨0, 0, Nat.zero_le _, rfl, rfl, fun j hj => absurd hj (Nat.not_lt_zero _)⟩
  case round =>
    obtain ⟨k, m, hk, rfl, rfl, hq⟩ := hrel
    have HQ := Lib.hid hq
    clear hq
    by_cases hlt : k < xs.length
    · obtain ⟨b, o, rfl, g⟩ := H.out k hlt
      obtain ⟨x, hx⟩ : ∃ x, xs.getD k 0 = x := ⟨_, rfl⟩
      rw [hx] at g
      have HX := Lib.hid hx
      clear hx
      obtain ⟨t1, t2, t3, _, _⟩ := HT.out
      cases hs : setB n x with
      | false =>
        have HF := Lib.hid (isC_no hlt (okAt_no_set (n := n) (by rw [HX.out]; exact hs)))
        have HS := Lib.hid hs
        clear hs
        go_wp2
        go_quiet (first | (go_at_call 57; refine quietly (specIsSet_b n x false HS.out _)))
        go_wp2
        go_ret
        exact ⟨by rw [HF.out]; rfl, bdrew (bdrew HB0.out _) _⟩
      | true =>
        have HS := Lib.hid hs
        clear hs
        by_cases hk0 : k = 0
        · subst hk0
          have hg : decide ((0 : Int) < ((0 : Nat) : Int)) = false := by simp
          rw [Nat.add_zero] at g
          have HO0 : Hid (okAt n xs 0 = true) := by
            have : okAt n xs 0 = true := okAt_next hlt (fun j hj => absurd hj (Nat.not_lt_zero _)) (by rw [HX.out]; exact HS.out) (Or.inl rfl) (fun i hi => absurd hi (Nat.not_lt_zero _))
            exact this
          go_wp2
          go_quiet (first | (go_at_call 57; refine quietly (specIsSet_b n x true HS.out _)))
          go_wp2
          go_loopw [4] (fun i wr => ∃ q : Nat, q = 0 ∧ i = .int .i64 (q : Int) ∧ wr = (W.drewN m).drewN nq) (fun i _ => 0)
          case atStart => exact ⟨0, rfl, rfl, rfl⟩
          case round =>
            obtain ⟨q, rfl, rfl, rfl⟩ := hrel
            go_wp2
            go_roundw
            case rel =>
              refine ⟨1, m + nq, by omega, by go_num, rfl, fun j hj => ?_⟩
              obtain rfl : j = 0 := by omega
              exact HO0.out
            case measure => simp [intOf]; omega
        · obtain ⟨p, rfl⟩ : ∃ p, k = p + 1 := ⟨k - 1, by omega⟩
          have hg : decide ((0 : Int) < ((p + 1 : Nat) : Int)) = true := by simp only [decide_eq_true_eq]; omega
          obtain ⟨y, hy⟩ : ∃ y, xs.getD p 0 = y := ⟨_, rfl⟩
          have HY := Lib.hid hy
          obtain ⟨_, _, e2, g2⟩ := H.out p (by omega)
          injection e2 with e2
          injection e2 with e3 e4
          subst e3 e4
          rw [hy] at g2
          have HZY : Hid (okZ y = true) := by
            have : okZ y = true := setB_ok (n := n) (by rw [← HY.out]; exact ((okAt_iff n xs p (by omega)).1 (HQ.out p (by omega))).1)
            exact this
          have HZX : Hid (okZ x = true) := by
            have : okZ x = true := setB_ok HS.out
            exact this
          clear hy hk0
          cases hb : befZ y x with
          | false =>
            have HF : Hid (isC n xs = false) := by
              have : isC n xs = false := isC_no hlt (okAt_no_fit (i := p) hlt (by omega) (by rw [HX.out, HY.out]; exact fits_no_bef hb))
              exact this
            have HB := Lib.hid hb
            clear hb
            go_wp2
            go_quiet (first | (go_at_call 57; refine quietly (specIsSet_b n x true HS.out _)) | (go_at_call 58; refine quietly (l2Before_b y x HZY.out HZX.out false HB.out _)))
            go_wp2
            go_ret
            exact ⟨by rw [HF.out]; rfl, bdrew (bdrew HB0.out _) _⟩
          | true =>
            have HB := Lib.hid hb
            clear hb
            go_wp2
            go_quiet (first | (go_at_call 57; refine quietly (specIsSet_b n x true HS.out _)) | (go_at_call 58; refine quietly (l2Before_b y x HZY.out HZX.out true HB.out _)))
            go_wp2
            go_loopw [4] (fun i wr => ∃ q r : Nat, q ≤ p + 1 ∧ i = .int .i64 (q : Int) ∧ wr = W.drewN r ∧ ∀ j, j < q → sub (xs.getD j 0).toNat x.toNat = false) (fun i _ => p + 1 - (intOf i).toNat)
            case atStart => exact ⟨0, m + nq, Nat.zero_le _, rfl, by rw [World.drewN_drewN], fun j hj => absurd hj (Nat.not_lt_zero _)⟩
            case round =>
              obtain ⟨q, r, hq, rfl, rfl, hqs⟩ := hrel
              have HQS := Lib.hid hqs
              clear hqs
              by_cases hlq : q < p + 1
              · obtain ⟨z, hz⟩ : ∃ z, xs.getD q 0 = z := ⟨_, rfl⟩
                have HZ := Lib.hid hz
                obtain ⟨_, _, e2, g3⟩ := H.out q (by omega)
                injection e2 with e2
                injection e2 with e3 e4
                subst e3 e4
                rw [hz] at g3
                have HZZ : Hid (okZ z = true) := by
                  have : okZ z = true := setB_ok (n := n) (by rw [← HZ.out]; exact ((okAt_iff n xs q (by omega)).1 (HQ.out q (by omega))).1)
                  exact this
                have ha := and_subZ z x HZZ.out HZX.out
                clear hz
                cases hsub : sub z.toNat x.toNat with
                | true =>
                  rw [hsub] at ha
                  have HF : Hid (isC n xs = false) := by
                    have : isC n xs = false := isC_no hlt (okAt_no_fit (i := q) hlt (by omega) (by rw [HX.out, HZ.out]; exact fits_no_sub hsub))
                    exact this
                  clear hsub
                  go_wp2
                  go_quiet (fail)
                  go_wp2
                  go_ret
                  exact ⟨by rw [HF.out]; rfl, bdrew (bdrew HB0.out _) _⟩
                | false =>
                  rw [hsub] at ha
                  have HS2 := Lib.hid hsub
                  clear hsub
                  go_wp2
                  go_quiet (fail)
                  go_wp2
                  go_roundw
                  case rel =>
                    refine ⟨q + 1, _, by omega, by go_num, rfl, fun j hj => ?_⟩
                    by_cases e : j = q
                    · subst e; rw [HZ.out]; exact HS2.out
                    · exact HQS.out j (by omega)
                  case measure => simp [intOf]; omega
              · have hqe : q = p + 1 := by omega
                have HO1 : Hid (okAt n xs (p + 1) = true) := by
                  have : okAt n xs (p + 1) = true := okAt_next hlt HQ.out (by rw [HX.out]; exact HS.out) (Or.inr (by rw [Nat.add_sub_cancel, HX.out, HY.out]; exact HB.out)) (fun i hi => by rw [HX.out]; exact HQS.out i (by omega))
                  exact this
                go_wp2
                go_roundw
                case rel =>
                  refine ⟨p + 2, r, by omega, by go_num, rfl, fun j hj => ?_⟩
                  by_cases e : j = p + 1
                  · subst e; exact HO1.out
                  · exact HQ.out j (by omega)
                case measure => simp [intOf]; omega
    · have E := Lib.hid (show k = xs.length by omega)
      have HTT : ∀ b, inB 1 6 n = b → isC n xs = b := fun b hb => by
        cases b with
        | false => unfold isC; rw [hb]; rfl
        | true => exact (isC_iff n xs).2 ⟨(inB_iff _ _ _).1 hb, fun j hj => HQ.out j (by rw [E.out]; exact hj)⟩
      have HT2 := Lib.hid HTT
      clear HTT
      obtain ⟨t1, t2, t3, _, _⟩ := HT.out
      cases hn : inB 1 6 n with
      | false =>
        have HN := Lib.hid hn
        clear hn
        go_wp2_with fail
        refine (in_b n 1 6 false HN.out _).mono ?_
        rintro e w' ⟨rfl, rfl⟩
        go_wp2
        go_ret
        exact ⟨by rw [HT2.out _ HN.out]; rfl, bdrew HB0.out _⟩
      | true =>
        have HN := Lib.hid hn
        clear hn
        go_wp2_with fail
        refine (in_b n 1 6 true HN.out _).mono ?_
        rintro e w' ⟨rfl, rfl⟩
        go_wp2
        go_ret
        exact ⟨by rw [HT2.out _ HN.out]; rfl, bdrew HB0.out _⟩

end Go.Proofs.YtenpcjmhlnalcaaGreat
