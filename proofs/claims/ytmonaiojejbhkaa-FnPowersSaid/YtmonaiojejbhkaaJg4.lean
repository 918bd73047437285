/-
  TEXTS of one claim, put together: WCx1, WWhere, WOrder, WSpecOrder.
-/
import Derived.Test.YtmonaiojejbhkaaJg1
import Derived.Laws.ResultCell
import Derived.WalkMore
import Derived.Shelf.Abstract
/-! WALKS: the law's own functions at complexes: sizes, copies, equality, marks, what is held. -/

namespace Go.Proofs.Ytmonaiojejbhkaa
open Go.RowKit
open Sets

/-- A block of two cells that can be written. -/
def Two (w : World) (b : Nat) (x y : Value) : Prop := b < w.heap.size ∧ w.cell? ⟨b, 0, none⟩ = some x ∧ w.cell? ⟨b, 1, none⟩ = some y ∧ w.frozen? ⟨b, 0, none⟩ = false ∧ w.frozen? ⟨b, 1, none⟩ = false
theorem Two.new (w : World) (x y : Value) (t : TypeId) : Two (w.alloc (.cells #[x, y] t)) w.heap.size x y := by
  refine ⟨by simp, ?_, ?_, World.frozen?_alloc_at _ _ _ _ rfl, World.frozen?_alloc_at _ _ _ _ rfl⟩
  · rw [World.cell?_alloc_new]; rfl
  · rw [World.cell?_alloc_new]; rfl
theorem Two.keeps {w w' : World} {b : Nat} {x y : Value} (h : Two w b x y) (hb : Below w.heap.size w w') : Two w' b x y := by
  obtain ⟨h1, h2, h3, h4, h5⟩ := h
  refine ⟨by have := hb.size; omega, ?_, ?_, ?_, ?_⟩
  · rw [hb.cell (p := ⟨b, 0, none⟩) h1]; exact h2
  · rw [hb.cell (p := ⟨b, 1, none⟩) h1]; exact h3
  · rw [hb.frozen (p := ⟨b, 0, none⟩) h1]; exact h4
  · rw [hb.frozen (p := ⟨b, 1, none⟩) h1]; exact h5
theorem Two.alloc {w : World} {b : Nat} {x y : Value} (h : Two w b x y) (o : Obj) : Two (w.alloc o) b x y := h.keeps ((Below.refl _ _).alloc (Nat.le_refl _) _)
theorem Two.set1 {w : World} {b : Nat} {x y : Value} (h : Two w b x y) (z : Value) : Two (w.setCell ⟨b, 1, none⟩ z) b x z := by
  obtain ⟨h1, h2, h3, h4, h5⟩ := h
  refine ⟨by simp [World.setCell]; exact h1, ?_, World.cell?_setCell_same _ _ _ h3, by rw [World.frozen?_setCell]; exact h4, by rw [World.frozen?_setCell]; exact h5⟩
  rw [World.cell?_setCell_other _ _ _ _ (by simp)]; exact h2

theorem IntsAt.set {w : World} {g b : Nat} {a : Option Addr} {xs : List Int} (h : IntsAt w g a xs) (hne : g ≠ b) (o : Nat) (v : Value) : IntsAt (w.setCell ⟨b, o, none⟩ v) g a xs := h.far (Mem.but_setCell _ _ _ _) hne

/-! ### a complex as a result -/

theorem results_one {fn : Func} {p : Tmp} {ty : TypeId} (h : fn.results = #[.cell p ty]) (tmps : Array Value) (P : Program) (w : World) :
    (results fn tmps).run P w = ((asAddr (tmps.getD p undef)).run P w).andThen fun a w₁ => (loadVar ty a).run P w₁ := by
  simp only [results, h]
  simp [Sem.run_bind, Result.andThen]

theorem cx_load (w : World) (b : Nat) (x y : Value) (h0 : w.cell? ⟨b, 0, none⟩ = some x) (h1 : w.cell? ⟨b, 1, none⟩ = some y) :
    (loadVar 33 ⟨b, 0, none⟩).run Try.prog w = .ok (.agg #[x, y]) w := by
  go_simp

theorem ret_cx {fn : Func} {p : Tmp} {R : Ending → World → Prop} {a : Act} {w : World} {x y : Value} (b : Nat) (h : fn.results = #[.cell p 33]) (hp : a.tmps.getD p undef = .pointer (some ⟨b, 0, none⟩))
    (h0 : w.cell? ⟨b, 0, none⟩ = some x) (h1 : w.cell? ⟨b, 1, none⟩ = some y) (hd : a.defers = []) (hR : R (.returned (.agg #[x, y])) w) : bodyPost Try.prog fn R .ret a w :=
  bodyPost_ret (by rw [results_one h, hp]; simp [asAddr, Result.andThen, cx_load w b x y h0 h1]) hd hR

theorem ret_cx2 {fn : Func} {p u : Tmp} {R : Ending → World → Prop} {a : Act} {w : World} {x y z : Value} (b : Nat) (h : fn.results = #[.cell p 33, .tmp u]) (hp : a.tmps.getD p undef = .pointer (some ⟨b, 0, none⟩)) (hu : a.tmps.getD u undef = z)
    (h0 : w.cell? ⟨b, 0, none⟩ = some x) (h1 : w.cell? ⟨b, 1, none⟩ = some y) (hd : a.defers = []) (hR : R (.returned (.tuple #[.agg #[x, y], z])) w) : bodyPost Try.prog fn R .ret a w :=
  bodyPost_ret (by rw [results_cell_tmp h, hp, hu]; simp [asAddr, Result.andThen, cx_load w b x y h0 h1]) hd hR

/-- A complex as a value. -/
abbrev cx (n : Int) (v : Value) : Value := .agg #[.int .i64 n, v]

end Go.Proofs.Ytmonaiojejbhkaa

/-! WALKS: impl.setsWhere: the sets that meet a predicate, in order. -/

namespace Go.Proofs.Ytmonaiojejbhkaa
open Go.RowKit
open Sets

/-- What is asked of the predicate: at every set, in every later world, it answers p and leaves all as it was. -/
def Pred (g : Nat) (lb : Array Value) (p : Nat → Bool) (w : World) : Prop :=
  ∀ (W : World) (s : Nat), s < 64 → Below w.heap.size w W → Calls Try.prog g (#[.int .i64 (s : Int)] ++ lb) W fun e w' => e = .returned (.bool (p s)) ∧ W = w'
theorem Pred.at {g : Nat} {lb : Array Value} {p : Nat → Bool} {w : World} (h : Pred g lb p w) (W : World) (s : Nat) (b : Bool) (hb : p s = b) (hs : s < 64) (hB : Below w.heap.size w W) :
    Calls Try.prog g (#[.int .i64 (s : Int)] ++ lb) W fun e w' => e = .returned (.bool b) ∧ W = w' := by
  subst hb; exact h W s hs hB

end Go.Proofs.Ytmonaiojejbhkaa

/-! WALKS: impl.OrderSets and impl.SubsetsOf. -/

namespace Go.Proofs.Ytmonaiojejbhkaa
open Go.RowKit
open Sets

theorem inZ_take (xs : List Int) (k : Nat) (h : k < xs.length) (s : Nat) : inZ (xs.take (k + 1)) s = (inZ (xs.take k) s || decide (xs.getD k 0 = (s : Int))) := by
  rw [Bool.eq_iff_iff, inZ_iff, List.take_succ_eq_append_getElem h, List.mem_append, Bool.or_eq_true, inZ_iff, decide_eq_true_iff, List.getD, List.getElem?_eq_getElem h, List.mem_singleton]
  exact ⟨fun h => h.imp_right Eq.symm, fun h => h.imp_right Eq.symm⟩
theorem allOk_at (xs : List Int) (h : allOk xs = true) (k : Nat) (hk : k < xs.length) : okZ (xs.getD k 0) = true := by
  unfold allOk at h
  rw [List.all_eq_true] at h
  rw [List.getD, List.getElem?_eq_getElem hk]
  exact h _ (List.getElem_mem hk)
theorem allOk_not (xs : List Int) (k : Nat) (hk : k < xs.length) (h : okZ (xs.getD k 0) = false) : order xs = [] := by
  unfold order
  rw [if_neg]
  intro e
  rw [allOk_at xs e k hk] at h
  cases h
theorem allOk_all (xs : List Int) (h : ∀ j, j < xs.length → okZ (xs.getD j 0) = true) : allOk xs = true := by
  unfold allOk
  rw [List.all_eq_true]
  intro x hx
  obtain ⟨j, hj, rfl⟩ := List.mem_iff_getElem.1 hx
  have := h j hj
  rwa [List.getD, List.getElem?_eq_getElem hj] at this

/-- Block B holds 64 marks. -/
def Marks (w : World) (B : Nat) (p : Nat → Bool) : Prop := ∀ t, t < 64 → w.cell? ⟨B, t, none⟩ = some (.bool (p t))

theorem marks_new (w : World) (A : Array Value) (ty : TypeId) (h : A = Array.replicate 64 (Value.bool false)) : Marks (w.alloc (.cells A ty)) w.heap.size (inZ []) := fun t ht => by
  rw [World.cell?_alloc_new, h, Array.getElem?_replicate, if_pos ht]; rfl
theorem free_new (w : World) (A : Array Value) (ty : TypeId) : ∀ t, (w.alloc (.cells A ty)).frozen? ⟨w.heap.size, t, none⟩ = false := fun _ => World.frozen?_alloc_at _ _ _ _ rfl
theorem marks_set {w : World} {B : Nat} (xs : List Int) (k s : Nat) (hk : k < xs.length) (hs : s < 64) (e : xs.getD k 0 = (s : Int)) (h : Marks w B (inZ (xs.take k))) : Marks (w.setCell ⟨B, s, none⟩ (.bool true)) B (inZ (xs.take (k + 1))) := fun t ht => by
  rw [inZ_take xs k hk, e]
  by_cases q : s = t
  · subst q
    rw [World.cell?_setCell_same _ _ _ (h s hs)]; simp
  · rw [World.cell?_setCell_other _ _ _ _ (fun h => q (by injection h with _ h2)), h t ht]
    have : decide ((s : Int) = (t : Int)) = false := by simp; omega
    rw [this, Bool.or_false]

theorem and_sub : ∀ a b : Nat, a < 64 → b < 64 → (bits BinOp.andNot IntKind.i64 (a : Int) (b : Int) == 0) = sub a b := by
  refine fin64b ?_
  decide +kernel

theorem subsets_nat (s : Nat) (h : s < 64) : subsets (s : Int) = ord (fun t => sub t s) := by unfold subsets; rw [if_pos ((okZ_nat s).2 h)]; rfl
theorem subsets_no (x : Int) (h : okZ x = false) : subsets x = [] := by unfold subsets; rw [if_neg (by rw [h]; simp)]

end Go.Proofs.Ytmonaiojejbhkaa

/-! WALKS: spec.OrderSets and spec.SubsetsOf. -/

namespace Go.Proofs.Ytmonaiojejbhkaa
open Go.RowKit
open Sets

theorem info_bool : (Try.prog.info? 4).map (fun i => (i.zero, i.size, i.bytes)) = some (some (.bool false), 1, 1) := by kernel_rfl
theorem marks_made {w : World} {base g cap : Nat} {e : TypeId} (h : w.ownsRow base e 1 (.slice (some ⟨g, 0, none⟩) 64 cap) 64 (madeCells (Value.bool false).cells (64 * 1)).toList) : Marks w g (inZ []) := fun t ht => by
  rw [h.cellAt t (by omega)]
  show (madeCells #[Value.bool false] 64).toList[t]? = _
  rw [toList_madeCells_one, List.getElem?_replicate, if_pos ht]; rfl

set_option maxRecDepth 100000 in
set_option maxHeartbeats 4000000 in
theorem l2Order_any (a : Option Addr) (c : Nat) (xs : List Int) (hlen : xs.length ≤ 1099511627776) (hall : allOk xs = true) (w : World) (h : Ints w a xs) :
    Calls Try.prog 86 #[.slice a xs.length c] w fun e w' => ∃ v, e = .returned v ∧ OwnInts w' w.heap.size v (ord (inZ xs)) ∧ Below w.heap.size w w' := by
  obtain ⟨i0, hi, hz0, hz1, hz2⟩ := info_parts info_int
  obtain ⟨b0, hj, hj0, hj1, hj2⟩ := info_parts info_bool
  have H := Lib.hid h
  have HALL := Lib.hid hall
  clear h hall
  go_enter Try.func86, Try.ntmps86
  go_wp2_with (at_make; refine wpList_make_full _ rfl _ _ 86 rfl w.heap.size 4 b0 (.bool false) 1 Try.underlying86 hj hj0 hj1 _ _ _ _ 64 rfl rfl rfl rfl ?c1 ?c2 ?c3 ?_)
  case c1 => rw [hj2]; omega
  case c2 => unfold maxLen; omega
  case c3 => exact Nat.le_refl _
  intro w1 hown hgrow
  have hm1 := Lib.hid (marks_made hown)
  have hf1 := Lib.hid (fun t => hown.frozenAt t)
  have hsz1 : w.heap.size < w1.heap.size := (hown.lt w.heap.size rfl).2
  have hB1 := Mem.below_of_none hgrow
  clear hown hgrow
  go_wp2
  go_loopw [4] (fun i wr => ∃ k : Nat, k ≤ xs.length ∧ i = .int .i64 (k : Int) ∧ Marks wr w.heap.size (inZ (xs.take k)) ∧ (∀ t, wr.frozen? ⟨w.heap.size, t, none⟩ = false) ∧ w.heap.size < wr.heap.size ∧ Below w.heap.size w wr) (fun i _ => xs.length - (intOf i).toNat)
  case atStart => exact ⟨0, Nat.zero_le _, rfl, hm1.out, hf1.out, hsz1, hB1⟩
  case round =>
    clear hm1 hf1 hsz1 hB1
    obtain ⟨k, hk, rfl, hM, hF, hsz, hB⟩ := hrel
    have HM := Lib.hid hM
    have HF := Lib.hid hF
    clear hM hF
    by_cases hlt : k < xs.length
    · obtain ⟨b, o, rfl, g0⟩ := H.out k hlt
      have g : wr.cell? ⟨b, o + k, none⟩ = some (.int .i64 (xs.getD k 0)) := by rw [hB.cell (p := ⟨b, o + k, none⟩) (World.block_lt_of_cell? w _ g0)]; exact g0
      clear g0
      obtain ⟨s, hs, hs64⟩ := okZ_cast _ (allOk_at xs HALL.out k hlt)
      have HS := Lib.hid hs
      rw [hs] at g
      clear hs
      have hm := HM.out s hs64
      have hf := HF.out s
      go_wp2
      go_roundw
      case rel =>
        refine ⟨k + 1, by omega, by go_num, marks_set xs k s hlt hs64 HS.out HM.out, fun t => ?_, by simp [World.setCell]; exact hsz, hB.setCell (Nat.le_refl _) _⟩
        rw [World.frozen?_setCell]; exact HF.out t
      case measure => simp [intOf]; omega
    · have E := Lib.hid (show k = xs.length by omega)
      have hm : Marks wr w.heap.size (inZ xs) := by
        have := HM.out
        rwa [E.out, List.take_length] at this
      have HMX := Lib.hid hm
      clear hm HM HF E
      obtain ⟨wo, rfl⟩ : ∃ wo : World, wo = wr := ⟨_, rfl⟩
      generalize hpp : inZ xs = p at *
      have HPP := Lib.hid hpp
      clear hpp
      go_wp2
      go_loopw [5, 6] (fun v i wr => ∃ k : Nat, k ≤ 7 ∧ i = .int .i64 (k : Int) ∧ OwnInts wr (w.heap.size + 1) v (upto p k 0) ∧ Marks wr w.heap.size p ∧ w.heap.size < wr.heap.size ∧ Below w.heap.size w wr) (fun _ i _ => 7 - (intOf i).toNat)
      case atStart => exact ⟨0, by omega, rfl, OwnInts.lit wo _ [] hsz (by simp), fun t ht => by rw [World.cell?_alloc_lt _ _ _ hsz]; exact HMX.out t ht, by simp; omega, hB.alloc (by omega) _⟩
      case round =>
        clear HMX hB hsz
        obtain ⟨k, hk, rfl, hO, hM, hsz, hB⟩ := hrel
        have HO := Lib.hid hO
        have HM := Lib.hid hM
        clear hO hM
        obtain ⟨wq, rfl⟩ : ∃ wq : World, wq = wr := ⟨_, rfl⟩
        by_cases hlt : k < 7
        · have hlt7 : decide ((k : Int) ≤ 6) = true := by simp; omega
          go_wp2
          go_loopw [5, 7] (fun v i wr => ∃ n : Nat, n ≤ 64 ∧ i = .int .i64 (n : Int) ∧ OwnInts wr (w.heap.size + 1) v (upto p k n) ∧ Marks wr w.heap.size p ∧ w.heap.size < wr.heap.size ∧ Below w.heap.size w wr) (fun _ i _ => 64 - (intOf i).toNat)
          case atStart => exact ⟨0, by omega, rfl, HO.out, HM.out, hsz, hB⟩
          case round =>
            clear hB HO HM hsz
            obtain ⟨n, hn, rfl, hO, hM, hsz, hB⟩ := hrel
            unfold OwnInts at hO
            have HO := Lib.hid hO
            have HM := Lib.hid hM
            clear hO hM
            have hl := upto_length p k n
            by_cases hln : n < 64
            · have hpn := pc_le n
              have hm := HM.out n hln
              cases hp : p n with
              | true =>
                rw [hp] at hm
                have HP := Lib.hid hp
                clear hp
                by_cases hq : pc n = k
                · have hq' : ((pc n : Int) == (k : Int)) = true := by rw [hq]; simp
                  have HQ := Lib.hid hq
                  clear hq
                  go_wp2_with fail
                  refine (l2Size_any n hln _).mono ?_
                  rintro e w' ⟨rfl, rfl⟩
                  go_wp2_with (at_builtin; refine wpList_append_own _ rfl _ _ 26 rfl (w.heap.size + 1) 3 i0 (.int .i64 0) 1 8 Try.underlying26 hi hz0 hz1 hz2 rfl (by decide) _ _ _ rfl (HO.out.alloc _) ⟨wr.heap.size, 0, none⟩ 1 1 [.int .i64 (n : Int)] rfl rfl ?d1 ?d2 ?d3 ?d4 ?d5 ?_)
                  case d1 => intro j u hj; exact Mem.cell_new wr _ _ j u hj
                  case d2 => intro u hu; simp at hu; subst hu; rfl
                  case d3 => unfold maxLen; omega
                  case d4 => omega
                  case d5 => simp; omega
                  intro v' w1 hown1 hgrow _
                  have hbs : Below (w.heap.size + 1) wr w1 := ((Below.refl _ _).alloc (by omega) _).grown hgrow (by simp; omega) (fun g hg => (HO.out.lt g hg).1)
                  have hB1 : Below w.heap.size w w1 := (hB.alloc (by omega) _).grown hgrow (by simp; omega) (fun g hg => by have := (HO.out.lt g hg).1; omega)
                  have H1 := Lib.hid hown1
                  clear hown1 hgrow
                  have HM1 : Hid (Marks w1 w.heap.size p) := Lib.hid (fun t ht => by rw [hbs.cell (p := ⟨w.heap.size, t, none⟩) (show w.heap.size < w.heap.size + 1 by omega)]; exact HM.out t ht)
                  have hsz1 : w.heap.size < w1.heap.size := by have := hbs.size; omega
                  clear hbs
                  go_wp2
                  go_roundw
                  case rel => exact ⟨n + 1, by omega, by go_num, by rw [upto_hit p k n HQ.out HP.out]; exact OwnInts.next H1.out, HM1.out, hsz1, hB1⟩
                  case measure => simp [intOf]; omega
                · have hq' : ((pc n : Int) == (k : Int)) = false := by simp; omega
                  have HQ := Lib.hid hq
                  clear hq
                  go_wp2_with fail
                  refine (l2Size_any n hln _).mono ?_
                  rintro e w' ⟨rfl, rfl⟩
                  go_wp2
                  go_roundw
                  case rel => exact ⟨n + 1, by omega, by go_num, by rw [upto_miss p k n (fun h => HQ.out h.1)]; exact HO.out, HM.out, hsz, hB⟩
                  case measure => simp [intOf]; omega
              | false =>
                rw [hp] at hm
                have HP := Lib.hid hp
                clear hp
                go_wp2
                go_roundw
                case rel => exact ⟨n + 1, by omega, by go_num, by rw [upto_miss p k n (fun h => by rw [HP.out] at h; simp at h)]; exact HO.out, HM.out, hsz, hB⟩
                case measure => simp [intOf]; omega
            · have E := Lib.hid (show n = 64 by omega)
              go_wp2
              go_roundw
              case rel =>
                have h2 := HO.out
                rw [E.out, upto_line] at h2
                exact ⟨k + 1, by omega, by go_num, h2, HM.out, hsz, hB⟩
              case measure => simp [intOf]; omega
        · have E := Lib.hid (show k = 7 by omega)
          go_wp2
          go_ret
          have h2 := HO.out
          rw [E.out, upto_end] at h2
          refine ⟨_, rfl, ?_, hB⟩
          rw [HPP.out]
          exact OwnInts.lower (base := w.heap.size + 1) h2 (by omega)

/-- The subsets of s among the first k numbers. -/
def subl (s k : Nat) : List Int := ((List.range k).filter fun t => sub t s).map Int.ofNat
theorem subl_hit (s k : Nat) (h : sub k s = true) : subl s (k + 1) = subl s k ++ [(k : Int)] := by
  unfold subl; rw [List.range_succ, List.filter_append, List.map_append]; simp [h]
theorem subl_miss (s k : Nat) (h : sub k s = false) : subl s (k + 1) = subl s k := by
  unfold subl; rw [List.range_succ, List.filter_append, List.map_append]; simp [h]
theorem subl_length (s k : Nat) : (subl s k).length ≤ k := by
  unfold subl; rw [List.length_map]; exact Nat.le_trans (List.length_filter_le _ _) (by simp)
theorem mem_subl (s k : Nat) (x : Int) : x ∈ subl s k ↔ ∃ t : Nat, x = (t : Int) ∧ t < k ∧ sub t s = true := by
  unfold subl
  rw [List.mem_map]
  constructor
  · rintro ⟨t, ht, rfl⟩
    rw [List.mem_filter, List.mem_range] at ht
    exact ⟨t, rfl, ht.1, ht.2⟩
  · rintro ⟨t, rfl, h1, h2⟩
    exact ⟨t, by rw [List.mem_filter, List.mem_range]; exact ⟨h1, h2⟩, rfl⟩
theorem subl_ok (s : Nat) : allOk (subl s 64) = true := by
  unfold allOk
  rw [List.all_eq_true]
  intro x hx
  obtain ⟨t, rfl, ht, _⟩ := (mem_subl s 64 x).1 hx
  exact (okZ_nat t).2 ht
theorem subl_ord (s : Nat) : ord (inZ (subl s 64)) = ord (fun t => sub t s) := by
  apply ord_congr
  intro t ht
  rw [Bool.eq_iff_iff, inZ_iff, mem_subl]
  constructor
  · rintro ⟨u, hu, _, h⟩
    have : t = u := by omega
    rw [this]; exact h
  · intro h; exact ⟨t, rfl, ht, h⟩
theorem and_sub2 : ∀ a b : Nat, a < 64 → b < 64 → (bits BinOp.and IntKind.i64 (a : Int) (b : Int) == (a : Int)) = sub a b := by
  refine fin64b ?_
  decide +kernel

end Go.Proofs.Ytmonaiojejbhkaa
