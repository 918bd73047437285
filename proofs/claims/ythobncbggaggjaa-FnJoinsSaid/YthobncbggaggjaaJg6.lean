/-
  TEXTS of one claim, put together: WCx1, WWhere, WOrder.
-/
import Derived.Test.YthobncbggaggjaaJg2
import Derived.Laws.ResultCell
import Derived.WalkMore
import Derived.Shelf.Abstract
/-! WALKS: the law's own functions at complexes: sizes, copies, equality, marks, what is held. -/

namespace Go.Proofs.Ythobncbggaggjaa
open Go.RowKit
open Sets

/-- A block of two cells that can be written. -/
def Two (w : World) (b : Nat) (x y : Value) : Prop := b < w.heap.size ∧ w.cell? ⟨b, 0, none⟩ = some x ∧ w.cell? ⟨b, 1, none⟩ = some y ∧ w.frozen? ⟨b, 0, none⟩ = false ∧ w.frozen? ⟨b, 1, none⟩ = false
theorem Two.new (w : World) (x y : Value) (t : TypeId) : Two (w.alloc (.cells #[x, y] t)) w.heap.size x y := by
  refine ⟨by simp, ?_, ?_, World.frozen?_alloc_at _ _ _ _ rfl, World.frozen?_alloc_at _ _ _ _ rfl⟩
  · rw [World.cell?_alloc_new]; rfl
  · rw [World.cell?_alloc_new]; rfl
theorem Two.keeps {w w' : World} {b : Nat} {x y : Value} (h : Two w b x y) (hb : Below w.heap.size w w') : Two w' b x y := by
  obtain ⟨h1, h2, h3, h4, h5⟩ := h
  refine ⟨by have := hb.size; omega, ?_, ?_, ?_, ?_⟩
  · rw [hb.cell (p := ⟨b, 0, none⟩) h1]; exact h2
  · rw [hb.cell (p := ⟨b, 1, none⟩) h1]; exact h3
  · rw [hb.frozen (p := ⟨b, 0, none⟩) h1]; exact h4
  · rw [hb.frozen (p := ⟨b, 1, none⟩) h1]; exact h5
theorem Two.alloc {w : World} {b : Nat} {x y : Value} (h : Two w b x y) (o : Obj) : Two (w.alloc o) b x y := h.keeps ((Below.refl _ _).alloc (Nat.le_refl _) _)
theorem Two.set1 {w : World} {b : Nat} {x y : Value} (h : Two w b x y) (z : Value) : Two (w.setCell ⟨b, 1, none⟩ z) b x z := by
  obtain ⟨h1, h2, h3, h4, h5⟩ := h
  refine ⟨by simp [World.setCell]; exact h1, ?_, World.cell?_setCell_same _ _ _ h3, by rw [World.frozen?_setCell]; exact h4, by rw [World.frozen?_setCell]; exact h5⟩
  rw [World.cell?_setCell_other _ _ _ _ (by simp)]; exact h2

theorem IntsAt.set {w : World} {g b : Nat} {a : Option Addr} {xs : List Int} (h : IntsAt w g a xs) (hne : g ≠ b) (o : Nat) (v : Value) : IntsAt (w.setCell ⟨b, o, none⟩ v) g a xs := h.far (Mem.but_setCell _ _ _ _) hne

/-! ### a complex as a result -/

theorem results_one {fn : Func} {p : Tmp} {ty : TypeId} (h : fn.results = #[.cell p ty]) (tmps : Array Value) (P : Program) (w : World) :
    (results fn tmps).run P w = ((asAddr (tmps.getD p undef)).run P w).andThen fun a w₁ => (loadVar ty a).run P w₁ := by
  simp only [results, h]
  simp [Sem.run_bind, Result.andThen]

theorem cx_load (w : World) (b : Nat) (x y : Value) (h0 : w.cell? ⟨b, 0, none⟩ = some x) (h1 : w.cell? ⟨b, 1, none⟩ = some y) :
    (loadVar 26 ⟨b, 0, none⟩).run Try.prog w = .ok (.agg #[x, y]) w := by
  go_simp

theorem ret_cx {fn : Func} {p : Tmp} {R : Ending → World → Prop} {a : Act} {w : World} {x y : Value} (b : Nat) (h : fn.results = #[.cell p 26]) (hp : a.tmps.getD p undef = .pointer (some ⟨b, 0, none⟩))
    (h0 : w.cell? ⟨b, 0, none⟩ = some x) (h1 : w.cell? ⟨b, 1, none⟩ = some y) (hd : a.defers = []) (hR : R (.returned (.agg #[x, y])) w) : bodyPost Try.prog fn R .ret a w :=
  bodyPost_ret (by rw [results_one h, hp]; simp [asAddr, Result.andThen, cx_load w b x y h0 h1]) hd hR

theorem ret_cx2 {fn : Func} {p u : Tmp} {R : Ending → World → Prop} {a : Act} {w : World} {x y z : Value} (b : Nat) (h : fn.results = #[.cell p 26, .tmp u]) (hp : a.tmps.getD p undef = .pointer (some ⟨b, 0, none⟩)) (hu : a.tmps.getD u undef = z)
    (h0 : w.cell? ⟨b, 0, none⟩ = some x) (h1 : w.cell? ⟨b, 1, none⟩ = some y) (hd : a.defers = []) (hR : R (.returned (.tuple #[.agg #[x, y], z])) w) : bodyPost Try.prog fn R .ret a w :=
  bodyPost_ret (by rw [results_cell_tmp h, hp, hu]; simp [asAddr, Result.andThen, cx_load w b x y h0 h1]) hd hR

/-- A complex as a value. -/
abbrev cx (n : Int) (v : Value) : Value := .agg #[.int .i64 n, v]

set_option maxRecDepth 100000 in
theorem szInt_any (a : Option Addr) (c : Nat) (xs : List Int) (left : Nat) (hl : left ≤ 1048576) (hlen : xs.length ≤ 9223372036854775807) (w : World) :
    Calls Try.prog 64 #[.slice a xs.length c, .int .i64 (left : Int)] w fun e w' => e = .returned (.int .i64 (if xs.length ≤ left then (left : Int) - xs.length else -1)) ∧ w = w' := by
  by_cases h : xs.length ≤ left
  · rw [if_pos h]
    go_enter Try.func64, Try.ntmps64
    go_wp2
    go_ret
    exact ⟨rfl, rfl⟩
  · rw [if_neg h]
    go_enter Try.func64, Try.ntmps64
    go_wp2
    go_ret
    exact ⟨rfl, rfl⟩

set_option maxRecDepth 100000 in
theorem szCx_any (n : Int) (a : Option Addr) (c : Nat) (xs : List Int) (left : Nat) (hl : left ≤ 1048576) (hlen : xs.length ≤ 9223372036854775807) (w : World) :
    Calls Try.prog 34 #[cx n (.slice a xs.length c), .int .i64 (left : Int)] w fun e w' => e = .returned (.int .i64 (if xs.length ≤ left then (left : Int) - xs.length else -1)) ∧ Below w.heap.size w w' := by
  have hc := fun w => szInt_any a c xs left hl hlen w
  by_cases h : xs.length ≤ left
  · rw [if_pos h] at hc ⊢
    have HC := Lib.hid hc
    clear hc
    go_enter Try.func34, Try.ntmps34
    go_wp2_with fail
    refine (HC.out _).mono ?_
    rintro e w' ⟨rfl, rfl⟩
    go_wp2
    go_ret
    exact ⟨rfl, (Below.refl _ _).alloc (Nat.le_refl _) _⟩
  · rw [if_neg h] at hc ⊢
    have HC := Lib.hid hc
    clear hc
    go_enter Try.func34, Try.ntmps34
    go_wp2_with fail
    refine (HC.out _).mono ?_
    rintro e w' ⟨rfl, rfl⟩
    go_wp2
    go_ret
    exact ⟨rfl, (Below.refl _ _).alloc (Nat.le_refl _) _⟩

set_option maxRecDepth 100000 in
set_option maxHeartbeats 1000000 in
/-- toComplex: the same numbers in a new row. -/
theorem toCx_any (n : Int) (a : Option Addr) (c : Nat) (xs : List Int) (hlen : xs.length ≤ 1048576) (w : World) (h : Ints w a xs) :
    Calls Try.prog 35 #[cx n (.slice a xs.length c)] w fun e w' => ∃ g, e = .returned (cx n (.slice (some ⟨g, 0, none⟩) xs.length xs.length)) ∧ w.heap.size ≤ g ∧ g < w'.heap.size ∧ IntsAt w' g (some ⟨g, 0, none⟩) xs ∧ Below w.heap.size w w' := by
  have H := Lib.hid h
  clear h
  go_enter Try.func35, Try.ntmps35
  go_wp2_with fail
  refine (toInt_any _ _ xs hlen _ (H.out.keeps ((((Below.refl _ _).alloc (Nat.le_refl _) _).alloc (by simp) _).alloc (by simp; omega) _))).mono ?_
  rintro e w1 ⟨rfl, hlt1, hr1, hb1⟩
  have hR := Two.keeps (((Two.new (w.alloc (Obj.cells #[Value.int IntKind.i64 n, Value.slice a xs.length c] 42)) (.int .i64 0) (.slice none 0 0) 26)).alloc (Obj.cells #[Value.int IntKind.i64 n, Value.slice none 0 0] 26)) hb1
  have hO := Two.keeps (Two.new ((w.alloc (Obj.cells #[Value.int IntKind.i64 n, Value.slice a xs.length c] 42)).alloc (Obj.cells #[Value.int IntKind.i64 0, Value.slice none 0 0] 26)) (.int .i64 n) (.slice none 0 0) 26) hb1
  simp at hR hO
  have hO2 := Lib.hid hO
  obtain ⟨q1, q2, q3, q4, q5⟩ := hR
  obtain ⟨o1, o2, o3, o4, o5⟩ := hO
  have hr2 := hr1
  simp at hr2
  have R1 := Lib.hid hr2
  have hb2 : Below w.heap.size w w1 := ((((Below.refl _ _).alloc (Nat.le_refl _) _).alloc (by simp) _).alloc (by simp; omega) _).trans (hb1.mono (by simp; omega))
  have B1 := Lib.hid hb2
  simp at hlt1
  clear hr1 hr2 hb1 hb2
  go_wp2
  refine ret_cx (w.heap.size + 1) rfl rfl (x := .int .i64 n) (y := .slice (some ⟨w.heap.size + 1 + 1 + 1, 0, none⟩) xs.length xs.length) (by go_simp) (by go_simp) rfl ?_
  refine ⟨w.heap.size + 1 + 1 + 1, rfl, by omega, by simp [World.setCell]; exact hlt1, ?_, ?_⟩
  · exact ((R1.out.set (by omega) _ _).set (by omega) _ _).set (by omega) _ _
  · exact ((B1.out.setCell (by dsimp only; omega) _).setCell (by dsimp only; omega) _).setCell (by dsimp only; omega) _

set_option maxRecDepth 100000 in
set_option maxHeartbeats 1000000 in
theorem eqCx_any (n : Int) (a1 a2 : Option Addr) (c1 c2 : Nat) (xs : List Int) (hlen : xs.length ≤ 1099511627776) (w : World) (h1 : Ints w a1 xs) (h2 : Ints w a2 xs) :
    Calls Try.prog 36 #[cx n (.slice a1 xs.length c1), cx n (.slice a2 xs.length c2)] w fun e w' => e = .returned (.bool true) ∧ Below w.heap.size w w' := by
  have H1 := Lib.hid h1
  have H2 := Lib.hid h2
  clear h1 h2
  go_enter Try.func36, Try.ntmps36
  go_wp2_with fail
  refine (eqInt_any _ _ _ _ xs hlen _ (H1.out.keeps (((Below.refl _ _).alloc (Nat.le_refl _) _).alloc (by simp) _)) (H2.out.keeps (((Below.refl _ _).alloc (Nat.le_refl _) _).alloc (by simp) _))).mono ?_
  rintro e w1 ⟨rfl, hb1⟩
  go_wp2
  go_ret
  exact ⟨rfl, (((Below.refl _ _).alloc (Nat.le_refl _) _).alloc (by simp) _).trans (hb1.mono (by simp; omega))⟩

set_option maxRecDepth 100000 in
theorem markCx_any (n : Int) (g : Nat) (a : Option Addr) (c : Nat) (xs : List Int) (k : Int) (m : Nat) (hkm : k = (m : Int)) (hn : xs.length ≤ 1099511627776) (hk2 : m ≤ 1099511627776) (w : World) (h : IntsAt w g a xs) :
    Calls Try.prog 37 #[cx n (.slice a xs.length c), .int .i64 k] w fun e w' =>
      e = .returned (.int .i64 ((m + xs.length : Nat) : Int)) ∧ IntsAt w' g a (imarks m xs.length) ∧ w.grownBy w' (some g) := by
  subst hkm
  have hb0 : Below w.heap.size w (w.alloc (Obj.cells #[Value.int IntKind.i64 n, Value.slice a xs.length c] 26)) := (Below.refl _ _).alloc (Nat.le_refl _) _
  have hc := markInt_any g a c xs (m : Int) m rfl hn hk2 _ (h.keeps hb0)
  have HC := Lib.hid hc
  have HB := Lib.hid hb0
  clear hc h hb0
  go_enter Try.func37, Try.ntmps37
  go_wp2_with fail
  refine HC.out.mono ?_
  rintro e w1 ⟨rfl, hr, hg⟩
  have HR := Lib.hid hr
  have HG := Lib.hid hg
  clear hr hg
  go_wp2
  go_ret
  exact ⟨rfl, HR.out, (Mem.but_of_below HB.out _).trans HG.out⟩

set_option maxRecDepth 100000 in
theorem heldCx_any (x : Int) (g : Nat) (a : Option Addr) (c n : Nat) (k : Int) (m : Nat) (hkm : k = (m : Int)) (hn : n ≤ 1099511627776) (hk2 : m ≤ 1099511627776) (w : World) (h : IntsAt w g a (imarks m n)) :
    Calls Try.prog 38 #[cx x (.slice a n c), .int .i64 k] w fun e w' =>
      e = .returned (.int .i64 ((m + n : Nat) : Int)) ∧ Below w.heap.size w w' := by
  subst hkm
  have hb0 : Below w.heap.size w (w.alloc (Obj.cells #[Value.int IntKind.i64 x, Value.slice a n c] 26)) := (Below.refl _ _).alloc (Nat.le_refl _) _
  have hc := heldInt_any g a c n (m : Int) m rfl hn hk2 _ (h.keeps hb0)
  have HC := Lib.hid hc
  have HB := Lib.hid hb0
  clear hc h hb0
  go_enter Try.func38, Try.ntmps38
  go_wp2_with fail
  refine HC.out.mono ?_
  rintro e w1 ⟨rfl, hb1⟩
  go_wp2
  go_ret
  exact ⟨rfl, HB.out.trans (hb1.mono (by simp))⟩

end Go.Proofs.Ythobncbggaggjaa

/-! WALKS: impl.setsWhere: the sets that meet a predicate, in order. -/

namespace Go.Proofs.Ythobncbggaggjaa
open Go.RowKit
open Sets

/-- What is asked of the predicate: at every set, in every later world, it answers p and leaves all as it was. -/
def Pred (g : Nat) (lb : Array Value) (p : Nat → Bool) (w : World) : Prop :=
  ∀ (W : World) (s : Nat), s < 64 → Below w.heap.size w W → Calls Try.prog g (#[.int .i64 (s : Int)] ++ lb) W fun e w' => e = .returned (.bool (p s)) ∧ W = w'
theorem Pred.at {g : Nat} {lb : Array Value} {p : Nat → Bool} {w : World} (h : Pred g lb p w) (W : World) (s : Nat) (b : Bool) (hb : p s = b) (hs : s < 64) (hB : Below w.heap.size w W) :
    Calls Try.prog g (#[.int .i64 (s : Int)] ++ lb) W fun e w' => e = .returned (.bool b) ∧ W = w' := by
  subst hb; exact h W s hs hB

set_option maxRecDepth 100000 in
set_option maxHeartbeats 4000000 in
theorem setsWhere_any (g : Nat) (lb : Array Value) (p : Nat → Bool) (w : World) (eg : ∀ args w, (callFunc g args).run Try.prog w = .ok (.enter g args) w) (hp : Pred g lb p w) :
    Calls Try.prog 110 #[.func (.func g) #[] lb] w fun e w' => ∃ v, e = .returned v ∧ OwnInts w' w.heap.size v (ord p) ∧ Below w.heap.size w w' := by
  obtain ⟨i0, hi, hz0, hz1, hz2⟩ := info_parts info_int
  have HPR := Lib.hid hp
  clear hp
  go_enter Try.func110, Try.ntmps110
  go_wp2
  go_loopw [3, 6] (fun v i wr => ∃ k : Nat, k ≤ 7 ∧ i = .int .i64 (k : Int) ∧ OwnInts wr w.heap.size v (upto p k 0) ∧ Below w.heap.size w wr) (fun _ i _ => 7 - (intOf i).toNat)
  case atStart => exact ⟨0, by omega, rfl, OwnInts.nil _ _, Below.refl _ _⟩
  case round =>
    obtain ⟨k, hk, rfl, hO, hB⟩ := hrel
    have HO := Lib.hid hO
    clear hO
    obtain ⟨wo, rfl⟩ : ∃ wo : World, wo = wr := ⟨_, rfl⟩
    by_cases hlt : k < 7
    · have hlt7 : decide ((k : Int) < 7) = true := by simp; omega
      go_wp2
      go_loopw [3, 9] (fun v i wr => ∃ n : Nat, n ≤ 64 ∧ i = .int .i64 (n : Int) ∧ OwnInts wr w.heap.size v (upto p k n) ∧ Below w.heap.size w wr) (fun _ i _ => 64 - (intOf i).toNat)
      case atStart => exact ⟨0, by omega, rfl, HO.out, hB⟩
      case round =>
        clear hB HO
        obtain ⟨n, hn, rfl, hO, hB⟩ := hrel
        unfold OwnInts at hO
        have HO := Lib.hid hO
        clear hO
        have hsz := hB.size
        have hl := upto_length p k n
        by_cases hln : n < 64
        · have hpn := pc_le n
          by_cases hq : pc n = k
          · have hq' : ((pc n : Int) == (k : Int)) = true := by rw [hq]; simp
            have HQ := Lib.hid hq
            clear hq
            cases hp : p n with
            | true =>
              have HP := Lib.hid hp
              clear hp
              go_wp2_with fail
              refine (implSizeOf_nat n hln _).mono ?_
              rintro e w' ⟨rfl, rfl⟩
              go_wp2_with (first | (at_builtin; refine wpList_append_own _ rfl _ _ 24 rfl w.heap.size 3 i0 (.int .i64 0) 1 8 Try.underlying24 hi hz0 hz1 hz2 rfl (by decide) _ _ _ rfl (HO.out.alloc _) ⟨wr.heap.size, 0, none⟩ 1 1 [.int .i64 (n : Int)] rfl rfl ?c1 ?c2 ?c3 ?c4 ?c5 ?_) | (go_at_fn g; refine (HPR.out.at _ n true HP.out hln hB).mono ?_; rintro e w' ⟨rfl, rfl⟩))
              case c1 => intro j u hj; exact Mem.cell_new wr _ _ j u hj
              case c2 => intro u hu; simp at hu; subst hu; rfl
              case c3 => unfold maxLen; omega
              case c4 => omega
              case c5 => simp; omega
              intro v' w1 hown1 hgrow _
              have hB1 : Below w.heap.size w w1 := (hB.alloc hsz _).grown hgrow (by simp; omega) (fun g hg => (HO.out.lt g hg).1)
              have H1 := Lib.hid hown1
              clear hown1 hgrow
              go_wp2
              go_roundw
              case rel => exact ⟨n + 1, by omega, by go_num, by rw [upto_hit p k n HQ.out HP.out]; exact OwnInts.next H1.out, hB1⟩
              case measure => simp [intOf]; omega
            | false =>
              have HP := Lib.hid hp
              clear hp
              go_wp2_with fail
              refine (implSizeOf_nat n hln _).mono ?_
              rintro e w' ⟨rfl, rfl⟩
              go_wp2_with (go_at_fn g; refine (HPR.out.at _ n false HP.out hln hB).mono ?_; rintro e w' ⟨rfl, rfl⟩)
              go_roundw
              case rel => exact ⟨n + 1, by omega, by go_num, by rw [upto_miss p k n (fun h => by rw [HP.out] at h; simp at h)]; exact HO.out, hB⟩
              case measure => simp [intOf]; omega
          · have hq' : ((pc n : Int) == (k : Int)) = false := by simp; omega
            have HQ := Lib.hid hq
            clear hq
            go_wp2_with fail
            refine (implSizeOf_nat n hln _).mono ?_
            rintro e w' ⟨rfl, rfl⟩
            go_wp2
            go_roundw
            case rel => exact ⟨n + 1, by omega, by go_num, by rw [upto_miss p k n (fun h => HQ.out h.1)]; exact HO.out, hB⟩
            case measure => simp [intOf]; omega
        · have E := Lib.hid (show n = 64 by omega)
          go_wp2
          go_roundw
          case rel =>
            have h2 := HO.out
            rw [E.out, upto_line] at h2
            exact ⟨k + 1, by omega, by go_num, h2, hB⟩
          case measure => simp [intOf]; omega
    · have E := Lib.hid (show k = 7 by omega)
      go_wp2
      go_ret
      have h2 := HO.out
      rw [E.out, upto_end] at h2
      exact ⟨_, rfl, h2, hB⟩

end Go.Proofs.Ythobncbggaggjaa

/-! WALKS: impl.OrderSets and impl.SubsetsOf. -/

namespace Go.Proofs.Ythobncbggaggjaa
open Go.RowKit
open Sets

theorem inZ_take (xs : List Int) (k : Nat) (h : k < xs.length) (s : Nat) : inZ (xs.take (k + 1)) s = (inZ (xs.take k) s || decide (xs.getD k 0 = (s : Int))) := by
  rw [Bool.eq_iff_iff, inZ_iff, List.take_succ_eq_append_getElem h, List.mem_append, Bool.or_eq_true, inZ_iff, decide_eq_true_iff, List.getD, List.getElem?_eq_getElem h, List.mem_singleton]
  exact ⟨fun h => h.imp_right Eq.symm, fun h => h.imp_right Eq.symm⟩
theorem allOk_at (xs : List Int) (h : allOk xs = true) (k : Nat) (hk : k < xs.length) : okZ (xs.getD k 0) = true := by
  unfold allOk at h
  rw [List.all_eq_true] at h
  rw [List.getD, List.getElem?_eq_getElem hk]
  exact h _ (List.getElem_mem hk)
theorem allOk_not (xs : List Int) (k : Nat) (hk : k < xs.length) (h : okZ (xs.getD k 0) = false) : order xs = [] := by
  unfold order
  rw [if_neg]
  intro e
  rw [allOk_at xs e k hk] at h
  cases h
theorem allOk_all (xs : List Int) (h : ∀ j, j < xs.length → okZ (xs.getD j 0) = true) : allOk xs = true := by
  unfold allOk
  rw [List.all_eq_true]
  intro x hx
  obtain ⟨j, hj, rfl⟩ := List.mem_iff_getElem.1 hx
  have := h j hj
  rwa [List.getD, List.getElem?_eq_getElem hj] at this

/-- Block B holds 64 marks. -/
def Marks (w : World) (B : Nat) (p : Nat → Bool) : Prop := ∀ t, t < 64 → w.cell? ⟨B, t, none⟩ = some (.bool (p t))

set_option maxRecDepth 100000 in
theorem order1_pred (B : Nat) (p : Nat → Bool) (w : World) (hB : B < w.heap.size) (h : Marks w B p) : Pred 111 #[.pointer (some ⟨B, 0, none⟩)] p w := by
  intro W s hs hb
  have hc : W.cell? ⟨B, s, none⟩ = some (.bool (p s)) := (hb.cell (p := ⟨B, s, none⟩) hB).trans (h s hs)
  show Calls Try.prog 111 #[.int .i64 (s : Int), .pointer (some ⟨B, 0, none⟩)] W _
  clear h hb
  generalize p s = b at *
  go_enter Try.func111, Try.ntmps111
  go_wp2
  go_ret
  exact ⟨rfl, rfl⟩

theorem marks_new (w : World) (A : Array Value) (ty : TypeId) (h : A = Array.replicate 64 (Value.bool false)) : Marks (w.alloc (.cells A ty)) w.heap.size (inZ []) := fun t ht => by
  rw [World.cell?_alloc_new, h, Array.getElem?_replicate, if_pos ht]; rfl
theorem free_new (w : World) (A : Array Value) (ty : TypeId) : ∀ t, (w.alloc (.cells A ty)).frozen? ⟨w.heap.size, t, none⟩ = false := fun _ => World.frozen?_alloc_at _ _ _ _ rfl
theorem marks_set {w : World} {B : Nat} (xs : List Int) (k s : Nat) (hk : k < xs.length) (hs : s < 64) (e : xs.getD k 0 = (s : Int)) (h : Marks w B (inZ (xs.take k))) : Marks (w.setCell ⟨B, s, none⟩ (.bool true)) B (inZ (xs.take (k + 1))) := fun t ht => by
  rw [inZ_take xs k hk, e]
  by_cases q : s = t
  · subst q
    rw [World.cell?_setCell_same _ _ _ (h s hs)]; simp
  · rw [World.cell?_setCell_other _ _ _ _ (fun h => q (by injection h with _ h2)), h t ht]
    have : decide ((s : Int) = (t : Int)) = false := by simp; omega
    rw [this, Bool.or_false]

set_option maxRecDepth 100000 in
set_option maxHeartbeats 4000000 in
theorem implOrder_any (a : Option Addr) (c : Nat) (xs : List Int) (hlen : xs.length ≤ 1099511627776) (w : World) (h : Ints w a xs) :
    Calls Try.prog 102 #[.slice a xs.length c] w fun e w' => ∃ v, e = .returned v ∧ OwnInts w' w.heap.size v (order xs) ∧ Below w.heap.size w w' := by
  have H := Lib.hid h
  clear h
  have eg : ∀ args w, (callFunc 111 args).run Try.prog w = .ok (.enter 111 args) w := enters_of Try.func111 (by kernel_rfl) rfl
  have EG := Lib.hid eg
  clear eg
  go_enter Try.func102, Try.ntmps102
  go_wp2
  go_loopw [8] (fun i wr => ∃ k : Nat, k ≤ xs.length ∧ i = .int .i64 (k : Int) ∧ (∀ j, j < k → okZ (xs.getD j 0) = true) ∧ Marks wr w.heap.size (inZ (xs.take k)) ∧ (∀ t, wr.frozen? ⟨w.heap.size, t, none⟩ = false) ∧ w.heap.size < wr.heap.size ∧ Below w.heap.size w wr) (fun i _ => xs.length - (intOf i).toNat)
  case atStart => exact ⟨0, Nat.zero_le _, rfl, fun j hj => absurd hj (Nat.not_lt_zero _), marks_new w _ _ rfl, free_new w _ _, by simp, (Below.refl _ _).alloc (Nat.le_refl _) _⟩
  case round =>
    obtain ⟨k, hk, rfl, hok, hM, hF, hsz, hB⟩ := hrel
    have HOK := Lib.hid hok
    have HM := Lib.hid hM
    have HF := Lib.hid hF
    clear hok hM hF
    by_cases hlt : k < xs.length
    · obtain ⟨b, o, rfl, g0⟩ := H.out k hlt
      have g : wr.cell? ⟨b, o + k, none⟩ = some (.int .i64 (xs.getD k 0)) := by rw [hB.cell (p := ⟨b, o + k, none⟩) (World.block_lt_of_cell? w _ g0)]; exact g0
      clear g0
      cases hz : okZ (xs.getD k 0) with
      | true =>
        have HZ := Lib.hid hz
        obtain ⟨s, hs, hs64⟩ := okZ_cast _ hz
        have HS := Lib.hid hs
        rw [hs] at g
        clear hs hz
        have hm := HM.out s hs64
        have hf := HF.out s
        go_wp2_with fail
        refine (isAny_b _ true (by rw [← HS.out]; exact HZ.out) _).mono ?_
        rintro e w' ⟨rfl, rfl⟩
        go_wp2
        go_roundw
        case rel =>
          refine ⟨k + 1, by omega, by go_num, fun j hj => ?_, marks_set xs k s hlt hs64 HS.out HM.out, fun t => ?_, by simp [World.setCell]; exact hsz, hB.setCell (Nat.le_refl _) _⟩
          · by_cases e : j = k
            · subst e; exact HZ.out
            · exact HOK.out j (by omega)
          · rw [World.frozen?_setCell]; exact HF.out t
        case measure => simp [intOf]; omega
      | false =>
        have HZ := Lib.hid hz
        have HN := Lib.hid (allOk_not xs k hlt hz)
        clear hz
        generalize xs.getD k 0 = x at *
        go_wp2_with fail
        refine (isAny_b _ false HZ.out _).mono ?_
        rintro e w' ⟨rfl, rfl⟩
        go_wp2
        go_ret
        refine ⟨_, rfl, ?_, hB⟩
        rw [HN.out]
        exact OwnInts.nil _ _
    · have E := Lib.hid (show k = xs.length by omega)
      have hall : allOk xs = true := allOk_all xs (fun j hj => HOK.out j (by rw [E.out]; exact hj))
      have hord : order xs = ord (inZ xs) := by unfold order; rw [if_pos hall]
      have hm : Marks wr w.heap.size (inZ xs) := by
        have := HM.out
        rwa [E.out, List.take_length] at this
      have HORD := Lib.hid hord
      have HP := Lib.hid (order1_pred w.heap.size _ wr hsz hm)
      clear hall hord hm
      go_wp2_with fail
      refine (setsWhere_any 111 _ _ _ EG.out HP.out).mono ?_
      rintro e w1 ⟨v, rfl, hO, hb1⟩
      have HO := Lib.hid hO
      clear hO
      go_wp2
      go_ret
      refine ⟨v, rfl, ?_, hB.trans (hb1.mono (by omega))⟩
      rw [HORD.out]
      exact HO.out.lower (by omega)

theorem and_sub : ∀ a b : Nat, a < 64 → b < 64 → (bits BinOp.andNot IntKind.i64 (a : Int) (b : Int) == 0) = sub a b := by
  refine fin64b ?_
  decide +kernel

set_option maxRecDepth 100000 in
theorem isSubset_any (s t : Nat) (hs : s < 64) (ht : t < 64) (w : World) : Calls Try.prog 91 #[.int .i64 (s : Int), .int .i64 (t : Int)] w fun e w' => e = .returned (.bool (sub s t)) ∧ w = w' := by
  go_enter Try.func91, Try.ntmps91
  go_wp2
  go_ret
  exact ⟨ret_bool (and_sub s t hs ht), rfl⟩

theorem subsets_nat (s : Nat) (h : s < 64) : subsets (s : Int) = ord (fun t => sub t s) := by unfold subsets; rw [if_pos ((okZ_nat s).2 h)]; rfl
theorem subsets_no (x : Int) (h : okZ x = false) : subsets x = [] := by unfold subsets; rw [if_neg (by rw [h]; simp)]

end Go.Proofs.Ythobncbggaggjaa
