/-
  TEXTS of one claim, put together: WSet2, Cplx, WCx1, WSz.
-/
import Derived.Test.YtenpcjmhlnalcaaGreatJg0
import Derived.Laws.ResultCell
/-! WALKS: how many points a set has, which of two comes first, its points, its subsets. -/

namespace Go.Proofs.YtenpcjmhlnalcaaGreat
open Go.RowKit
open Sets

theorem fin64 {P : Nat → Prop} (h : ∀ t : Fin 64, P t.val) : ∀ s : Nat, s < 64 → P s := fun s hs => h ⟨s, hs⟩
theorem fin64b {P : Nat → Nat → Prop} (h : ∀ t u : Fin 64, P t.val u.val) : ∀ s r : Nat, s < 64 → r < 64 → P s r := fun s r hs hr => h ⟨s, hs⟩ ⟨r, hr⟩
theorem ret_int {k : IntKind} {a b : Int} (h : a = b) : Ending.returned (.int k a) = .returned (.int k b) := by rw [h]
theorem ret_bool {a b : Bool} (h : a = b) : Ending.returned (.bool a) = .returned (.bool b) := by rw [h]

set_option maxRecDepth 100000 in
set_option maxHeartbeats 2000000 in
theorem ones64_any (s : Nat) (hs : s < 64) (w : World) : Calls Tryz.prog 111 #[.int .u64 (s : Int)] w fun e w' => e = .returned (.int .i64 (pc s : Int)) ∧ w = w' := by
  go_enter Tryz.func111, Tryz.ntmps111
  go_wp2
  go_ret
  refine ⟨ret_int ?_, rfl⟩
  revert s
  refine fin64 ?_
  decide +kernel

set_option maxRecDepth 100000 in
theorem ones_any (s : Nat) (hs : s < 64) (w : World) : Calls Tryz.prog 101 #[.int .u64 (s : Int)] w fun e w' => e = .returned (.int .i64 (pc s : Int)) ∧ w = w' := by
  go_enter Tryz.func101, Tryz.ntmps101
  go_wp2_with fail
  refine (ones64_any s hs _).mono ?_
  rintro e w' ⟨rfl, rfl⟩
  go_wp2
  go_ret
  exact ⟨rfl, rfl⟩

/-- SizeOf. -/
def sizeZ (x : Int) : Int := if okZ x = true then (pc x.toNat : Int) else -1
theorem sizeZ_nat (s : Nat) (h : s < 64) : sizeZ (s : Int) = (pc s : Int) := by unfold sizeZ; rw [if_pos ((okZ_nat s).2 h)]; rfl
theorem okZ_cast (x : Int) (h : okZ x = true) : ∃ s : Nat, x = (s : Int) ∧ s < 64 := by
  have := (okZ_iff x).1 h
  exact ⟨x.toNat, by omega, by omega⟩

set_option maxRecDepth 100000 in
theorem implSizeOf_nat (s : Nat) (hs : s < 64) (w : World) : Calls Tryz.prog 74 #[.int .i64 (s : Int)] w fun e w' => e = .returned (.int .i64 (pc s : Int)) ∧ w = w' := by
  go_enter Tryz.func74, Tryz.ntmps74
  go_wp2_with fail
  refine (isAny_b _ true ((okZ_nat s).2 hs) _).mono ?_
  rintro e w' ⟨rfl, rfl⟩
  go_wp2_with fail
  refine (ones_any s hs _).mono ?_
  rintro e w' ⟨rfl, rfl⟩
  go_wp2
  go_ret
  exact ⟨rfl, rfl⟩

set_option maxRecDepth 100000 in
theorem implSizeOf_any (x : Int) (w : World) : Calls Tryz.prog 74 #[.int .i64 x] w fun e w' => e = .returned (.int .i64 (sizeZ x)) ∧ w = w' := by
  by_cases h : okZ x = true
  · obtain ⟨s, rfl, hs⟩ := okZ_cast x h
    rw [sizeZ_nat s hs]
    exact implSizeOf_nat s hs w
  · have hb : okZ x = false := by simpa using h
    have e : sizeZ x = -1 := by unfold sizeZ; rw [if_neg h]
    rw [e]
    clear e
    have HB := Lib.hid hb
    clear hb h
    go_enter Tryz.func74, Tryz.ntmps74
    go_wp2_with fail
    refine (isAny_b _ false HB.out _).mono ?_
    rintro e w' ⟨rfl, rfl⟩
    go_wp2
    go_ret
    exact ⟨rfl, rfl⟩

theorem and_one (t : Nat) (h : t < 64) : bits BinOp.and IntKind.i64 (t : Int) 1 = ((t % 2 : Nat) : Int) := by
  revert t
  refine fin64 ?_
  decide +kernel

set_option maxRecDepth 100000 in
set_option maxHeartbeats 2000000 in
theorem l2Size_any (s : Nat) (hs : s < 64) (w : World) : Calls Tryz.prog 42 #[.int .i64 (s : Int)] w fun e w' => e = .returned (.int .i64 (pc s : Int)) ∧ w = w' := by
  go_enter Tryz.func42, Tryz.ntmps42
  go_wp2
  go_loop [0, 3] (fun x n => ∃ t m : Nat, t < 64 ∧ x = .int .i64 (t : Int) ∧ n = .int .i64 (m : Int) ∧ m ≤ 64 ∧ m + pc t = pc s) (fun x _ => (intOf x).toNat)
  case atStart => exact ⟨s, 0, hs, rfl, rfl, by omega, by omega⟩
  case round =>
    obtain ⟨t, m, ht, rfl, rfl, hm, he⟩ := hrel
    have HE := Lib.hid he
    clear he
    by_cases hpos : 0 < t
    · have ha := and_one t ht
      have hh := pc_half t ht
      have hl := pc_le s
      have HH := Lib.hid hh
      clear hh
      go_wp2
      go_round
      case rel =>
        have h1 := HH.out
        have h2 := HE.out
        exact ⟨t / 2, m + t % 2, by omega, by go_num, by first | (rw [ha]; go_num) | go_num, by omega, by omega⟩
      case measure => simp [intOf]; omega
    · have E := Lib.hid (show t = 0 by omega)
      go_wp2
      go_ret
      refine ⟨ret_int ?_, rfl⟩
      have h2 := HE.out
      rw [E.out, pc_zero] at h2
      omega

/-- Is a before b? -/
def befN (a b : Nat) : Bool := decide (pc a < pc b ∨ pc a = pc b ∧ a < b)
/-- BeforeSet. -/
def befZ (a b : Int) : Bool := okZ a && okZ b && befN a.toNat b.toNat

set_option maxRecDepth 100000 in
set_option maxHeartbeats 2000000 in
theorem implBefore_any (a b : Int) (w : World) : Calls Tryz.prog 107 #[.int .i64 a, .int .i64 b] w fun e w' => e = .returned (.bool (befZ a b)) ∧ w = w' := by
  by_cases h : okZ a = true
  · have HA := Lib.hid h
    by_cases k : okZ b = true
    · obtain ⟨s, rfl, hs⟩ := okZ_cast a h
      obtain ⟨t, rfl, ht⟩ := okZ_cast b k
      have e : befZ (s : Int) (t : Int) = befN s t := by unfold befZ; rw [h, k]; rfl
      rw [e]
      clear e
      have HB := Lib.hid k
      clear h k
      have p1 := pc_le s
      have p2 := pc_le t
      by_cases hq : pc s = pc t
      · have hq' : ((pc s : Int) != (pc t : Int)) = false := by rw [hq]; simp
        have e : befN s t = decide (s < t) := by unfold befN; simp [hq]
        have Q := Lib.hid hq'
        rw [e]
        clear e hq'
        have HQ := Lib.hid hq
        clear hq
        go_enter Tryz.func107, Tryz.ntmps107
        go_wp2_with fail
        refine (isAny_b _ true HA.out _).mono ?_
        rintro e w' ⟨rfl, rfl⟩
        go_wp2_with fail
        refine (isAny_b _ true HB.out _).mono ?_
        rintro e w' ⟨rfl, rfl⟩
        go_wp2_with fail
        refine (implSizeOf_nat s hs _).mono ?_
        rintro e w' ⟨rfl, rfl⟩
        go_wp2_with fail
        refine (implSizeOf_nat t ht _).mono ?_
        rintro e w' ⟨rfl, rfl⟩
        have hq' := Q.out
        go_wp2
        go_ret
        exact ⟨rfl, rfl⟩
      · have hq' : ((pc s : Int) != (pc t : Int)) = true := by simp; omega
        have e : befN s t = decide (pc s < pc t) := by unfold befN; simp [hq]
        have Q := Lib.hid hq'
        rw [e]
        clear e hq' hq
        go_enter Tryz.func107, Tryz.ntmps107
        go_wp2_with fail
        refine (isAny_b _ true HA.out _).mono ?_
        rintro e w' ⟨rfl, rfl⟩
        go_wp2_with fail
        refine (isAny_b _ true HB.out _).mono ?_
        rintro e w' ⟨rfl, rfl⟩
        go_wp2_with fail
        refine (implSizeOf_nat s hs _).mono ?_
        rintro e w' ⟨rfl, rfl⟩
        go_wp2_with fail
        refine (implSizeOf_nat t ht _).mono ?_
        rintro e w' ⟨rfl, rfl⟩
        have hq' := Q.out
        go_wp2_with fail
        refine (implSizeOf_nat s hs _).mono ?_
        rintro e w' ⟨rfl, rfl⟩
        go_wp2_with fail
        refine (implSizeOf_nat t ht _).mono ?_
        rintro e w' ⟨rfl, rfl⟩
        go_wp2
        go_ret
        exact ⟨rfl, rfl⟩
    · have hb : okZ b = false := by simpa using k
      have e : befZ a b = false := by unfold befZ; rw [hb]; simp
      rw [e]
      clear e
      have HB := Lib.hid hb
      clear h k hb
      go_enter Tryz.func107, Tryz.ntmps107
      go_wp2_with fail
      refine (isAny_b _ true HA.out _).mono ?_
      rintro e w' ⟨rfl, rfl⟩
      go_wp2_with fail
      refine (isAny_b _ false HB.out _).mono ?_
      rintro e w' ⟨rfl, rfl⟩
      go_wp2
      go_ret
      exact ⟨rfl, rfl⟩
  · have hb : okZ a = false := by simpa using h
    have e : befZ a b = false := by unfold befZ; rw [hb]; simp
    rw [e]
    clear e
    have HB := Lib.hid hb
    clear h hb
    go_enter Tryz.func107, Tryz.ntmps107
    go_wp2_with fail
    refine (isAny_b _ false HB.out _).mono ?_
    rintro e w' ⟨rfl, rfl⟩
    go_wp2
    go_ret
    exact ⟨rfl, rfl⟩

set_option maxRecDepth 100000 in
set_option maxHeartbeats 2000000 in
theorem l2Before_any (s t : Nat) (hs : s < 64) (ht : t < 64) (w : World) : Calls Tryz.prog 58 #[.int .i64 (s : Int), .int .i64 (t : Int)] w fun e w' => e = .returned (.bool (befN s t)) ∧ w = w' := by
  have p1 := pc_le s
  have p2 := pc_le t
  by_cases hlt : pc s < pc t
  · have e : befN s t = true := by unfold befN; simp [hlt]
    rw [e]
    clear e
    go_enter Tryz.func58, Tryz.ntmps58
    go_wp2_with fail
    refine (l2Size_any s hs _).mono ?_
    rintro e w' ⟨rfl, rfl⟩
    go_wp2_with fail
    refine (l2Size_any t ht _).mono ?_
    rintro e w' ⟨rfl, rfl⟩
    go_wp2
    go_ret
    exact ⟨rfl, rfl⟩
  · by_cases hq : pc s = pc t
    · have e : befN s t = decide (s < t) := by unfold befN; simp [hq]
      rw [e]
      clear e
      have hq' : ((pc s : Int) == (pc t : Int)) = true := by rw [hq]; simp
      have hl' : decide (pc s < pc t) = false := by simpa using hlt
      have HQ := Lib.hid hq
      clear hq hlt
      go_enter Tryz.func58, Tryz.ntmps58
      go_wp2_with fail
      refine (l2Size_any s hs _).mono ?_
      rintro e w' ⟨rfl, rfl⟩
      go_wp2_with fail
      refine (l2Size_any t ht _).mono ?_
      rintro e w' ⟨rfl, rfl⟩
      go_wp2
      go_ret
      exact ⟨rfl, rfl⟩
    · have e : befN s t = false := by unfold befN; simp [hq]; omega
      rw [e]
      clear e
      have hq' : ((pc s : Int) == (pc t : Int)) = false := by simp; omega
      have hl' : decide (pc s < pc t) = false := by simpa using hlt
      clear hq hlt
      go_enter Tryz.func58, Tryz.ntmps58
      go_wp2_with fail
      refine (l2Size_any s hs _).mono ?_
      rintro e w' ⟨rfl, rfl⟩
      go_wp2_with fail
      refine (l2Size_any t ht _).mono ?_
      rintro e w' ⟨rfl, rfl⟩
      go_wp2
      go_ret
      exact ⟨rfl, rfl⟩

end Go.Proofs.YtenpcjmhlnalcaaGreat

/-! COMPLEXES, of no program: what is one, its faces; the maximal ones of sets of n points. -/

namespace Go.Proofs.YtenpcjmhlnalcaaGreat
open Sets

/-! ### order and subsets -/

theorem sub_pc (a b : Nat) (ha : a < 64) (hb : b < 64) (h : sub a b = true) : pc a < pc b ∨ a = b := by
  have H : ∀ a b : Fin 64, sub a.val b.val = true → pc a.val < pc b.val ∨ a.val = b.val := by decide +kernel
  exact H ⟨a, ha⟩ ⟨b, hb⟩ h
theorem befN_iff (a b : Nat) : befN a b = true ↔ (pc a < pc b ∨ pc a = pc b ∧ a < b) := decide_eq_true_iff
theorem befN_irr (a : Nat) : befN a a = false := by rw [Bool.eq_false_iff]; intro h; have := (befN_iff a a).1 h; omega
theorem befN_trans {a b c : Nat} (h : befN a b = true) (k : befN b c = true) : befN a c = true := by
  rw [befN_iff] at *; omega
theorem befN_tri {a b : Nat} (h : a ≠ b) : befN a b = true ∨ befN b a = true := by
  rw [befN_iff, befN_iff]; omega
theorem befN_nsub {a b : Nat} (ha : a < 64) (hb : b < 64) (h : befN a b = true) : sub b a = false := by
  rw [Bool.eq_false_iff]; intro k
  have h1 := (befN_iff a b).1 h
  rcases sub_pc b a hb ha k with h2 | h2
  · omega
  · subst h2; omega
theorem befZ_iff (x y : Int) : befZ x y = true ↔ okZ x = true ∧ okZ y = true ∧ befN x.toNat y.toNat = true := by
  unfold befZ; rw [Bool.and_eq_true, Bool.and_eq_true, and_assoc]
theorem befZ_trans {x y z : Int} (h : befZ x y = true) (k : befZ y z = true) : befZ x z = true := by
  rw [befZ_iff] at *; exact ⟨h.1, k.2.1, befN_trans h.2.2 k.2.2⟩
theorem befZ_asym {x y : Int} (h : befZ x y = true) (k : befZ y x = true) : False := by
  have := (befZ_iff x x).1 (befZ_trans h k)
  rw [befN_irr] at this; simp at this
theorem befZ_nat (s t : Nat) (hs : s < 64) (ht : t < 64) : befZ (s : Int) (t : Int) = befN s t := by
  unfold befZ; rw [(okZ_nat s).2 hs, (okZ_nat t).2 ht]; rfl

/-! ### lists in order -/

def Rises (xs : List Int) : Prop := xs.Pairwise fun x y => befZ x y = true

theorem ord_filter (p : Nat → Bool) : ord p = (ord fun _ => true).filter fun x => p x.toNat := by
  unfold ord row
  rw [List.filter_flatMap]
  congr 1
  funext k
  rw [List.filter_map, List.filter_filter]
  congr 1
  apply List.filter_congr
  intro s _
  simp only [Function.comp, Bool.and_true]
  rw [Bool.and_comm]; rfl
theorem all_rises : Rises (ord fun _ => true) := by
  unfold Rises; decide +kernel
theorem all_len : (ord fun _ => true).length = 64 := by decide +kernel
theorem ord_rises (p : Nat → Bool) : Rises (ord p) := by rw [ord_filter]; exact List.Pairwise.filter _ all_rises
theorem ord_le (p : Nat → Bool) : (ord p).length ≤ 64 := by
  rw [ord_filter, ← all_len]; exact List.length_filter_le _ _

/-- Lists in order with the same sets are equal. -/
theorem rises_eq : ∀ (xs ys : List Int), Rises xs → Rises ys → (∀ x, x ∈ xs ↔ x ∈ ys) → xs = ys
  | [], [], _, _, _ => rfl
  | [], y :: ys, _, _, h => absurd ((h y).2 (List.mem_cons_self ..)) (by simp)
  | x :: xs, [], _, _, h => absurd ((h x).1 (List.mem_cons_self ..)) (by simp)
  | x :: xs, y :: ys, hx, hy, h => by
    have hx' := List.pairwise_cons.1 hx
    have hy' := List.pairwise_cons.1 hy
    have e : x = y := by
      rcases List.mem_cons.1 ((h x).1 (List.mem_cons_self ..)) with e | e
      · exact e
      · rcases List.mem_cons.1 ((h y).2 (List.mem_cons_self ..)) with e' | e'
        · exact e'.symm
        · exact absurd (hx'.1 y e') (fun k => befZ_asym k (hy'.1 x e))
    subst e
    congr 1
    refine rises_eq xs ys hx'.2 hy'.2 fun z => ⟨fun hz => ?_, fun hz => ?_⟩
    · rcases List.mem_cons.1 ((h z).1 (List.mem_cons_of_mem _ hz)) with e | e
      · subst e; exact absurd (hx'.1 z hz) (fun k => befZ_asym k k)
      · exact e
    · rcases List.mem_cons.1 ((h z).2 (List.mem_cons_of_mem _ hz)) with e | e
      · subst e; exact absurd (hy'.1 z hz) (fun k => befZ_asym k k)
      · exact e
theorem order_rises (xs : List Int) : Rises (order xs) := by
  unfold order; split
  · exact ord_rises _
  · exact List.Pairwise.nil
theorem order_le (xs : List Int) : (order xs).length ≤ 64 := by
  unfold order; split
  · exact ord_le _
  · simp
theorem order_iff (xs : List Int) (h : allOk xs = true) (x : Int) : x ∈ order xs ↔ x ∈ xs := by
  constructor
  · intro hx
    obtain ⟨s, rfl, _, hm⟩ := order_mem xs x hx
    exact hm
  · exact mem_order xs h x
/-- What is in order stays so. -/
theorem order_self (xs : List Int) (h : allOk xs = true) (hr : Rises xs) : order xs = xs := rises_eq _ _ (order_rises xs) hr (order_iff xs h)
theorem order_congr {xs ys : List Int} (hx : allOk xs = true) (hy : allOk ys = true) (h : ∀ x, x ∈ xs ↔ x ∈ ys) : order xs = order ys :=
  rises_eq _ _ (order_rises xs) (order_rises ys) fun x => by rw [order_iff xs hx, order_iff ys hy, h]

/-! ### complexes -/

/-- x stands before y and is no subset of it. -/
def fits (x y : Int) : Bool := befZ x y && !sub x.toNat y.toNat
theorem fits_iff (x y : Int) : fits x y = true ↔ befZ x y = true ∧ sub x.toNat y.toNat = false := by
  unfold fits; rw [Bool.and_eq_true, Bool.not_eq_true']
/-- The k-th facet is a set and fits behind all before it. -/
def okAt (n : Int) (xs : List Int) (k : Nat) : Bool := setB n (xs.getD k 0) && (xs.take k).all fun x => fits x (xs.getD k 0)
/-- IsComplex. -/
def isC (n : Int) (xs : List Int) : Bool := inB 1 6 n && (List.range xs.length).all (okAt n xs)

theorem inB_iff (lo hi x : Int) : inB lo hi x = true ↔ lo ≤ x ∧ x ≤ hi := by unfold inB; exact decide_eq_true_iff
theorem setB_ok {n s : Int} (h : setB n s = true) : okZ s = true := by
  rw [setB_iff] at h; rw [okZ_iff]
  obtain ⟨h0, h1, h2, h3⟩ := h
  rcases seven n h0 h1 with rfl | rfl | rfl | rfl | rfl | rfl | rfl <;> simp at h3 <;> omega
theorem okAt_iff (n : Int) (xs : List Int) (k : Nat) (hk : k < xs.length) : okAt n xs k = true ↔ setB n (xs.getD k 0) = true ∧ ∀ i, i < k → fits (xs.getD i 0) (xs.getD k 0) = true := by
  unfold okAt
  rw [Bool.and_eq_true, List.all_eq_true]
  refine and_congr_right fun _ => ⟨fun h i hi => ?_, fun h x hx => ?_⟩
  · refine h _ ?_
    rw [List.getD, List.getElem?_eq_getElem (by omega)]
    rw [List.mem_take_iff_getElem]
    exact ⟨i, by omega, rfl⟩
  · obtain ⟨i, hi, rfl⟩ := List.mem_take_iff_getElem.1 hx
    have := h i (by omega)
    rwa [List.getD, List.getElem?_eq_getElem (by omega)] at this
theorem isC_iff (n : Int) (xs : List Int) : isC n xs = true ↔ (1 ≤ n ∧ n ≤ 6) ∧ ∀ k, k < xs.length → okAt n xs k = true := by
  unfold isC
  rw [Bool.and_eq_true, inB_iff, List.all_eq_true]
  refine and_congr_right fun _ => ⟨fun h k hk => h k (List.mem_range.2 hk), fun h k hk => h k (List.mem_range.1 hk)⟩
theorem isC_pair (n : Int) (xs : List Int) : isC n xs = true ↔ (1 ≤ n ∧ n ≤ 6) ∧ (∀ x, x ∈ xs → setB n x = true) ∧ xs.Pairwise fun x y => fits x y = true := by
  rw [isC_iff]
  refine and_congr_right fun _ => ⟨fun h => ⟨fun x hx => ?_, ?_⟩, fun h k hk => ?_⟩
  · obtain ⟨j, hj, rfl⟩ := List.mem_iff_getElem.1 hx
    have := ((okAt_iff n xs j hj).1 (h j hj)).1
    rwa [List.getD, List.getElem?_eq_getElem hj] at this
  · rw [List.pairwise_iff_getElem]
    intro i j hi hj hij
    have := ((okAt_iff n xs j hj).1 (h j hj)).2 i hij
    rwa [List.getD, List.getD, List.getElem?_eq_getElem hj, List.getElem?_eq_getElem hi] at this
  · rw [okAt_iff n xs k hk]
    refine ⟨?_, fun i hi => ?_⟩
    · rw [List.getD, List.getElem?_eq_getElem hk]; exact h.1 _ (List.getElem_mem hk)
    · rw [List.getD, List.getD, List.getElem?_eq_getElem hk, List.getElem?_eq_getElem (by omega)]
      exact List.pairwise_iff_getElem.1 h.2 i k (by omega) hk hi
theorem isC_n {n : Int} {xs : List Int} (h : isC n xs = true) : 1 ≤ n ∧ n ≤ 6 := ((isC_iff n xs).1 h).1
theorem isC_set {n : Int} {xs : List Int} (h : isC n xs = true) : ∀ x, x ∈ xs → setB n x = true := ((isC_pair n xs).1 h).2.1
theorem isC_ok {n : Int} {xs : List Int} (h : isC n xs = true) : allOk xs = true := by
  unfold allOk; rw [List.all_eq_true]; exact fun x hx => setB_ok (isC_set h x hx)
theorem isC_rises {n : Int} {xs : List Int} (h : isC n xs = true) : Rises xs :=
  ((isC_pair n xs).1 h).2.2.imp fun h => ((fits_iff _ _).1 h).1
theorem isC_order {n : Int} {xs : List Int} (h : isC n xs = true) : order xs = xs := order_self xs (isC_ok h) (isC_rises h)
theorem isC_le {n : Int} {xs : List Int} (h : isC n xs = true) : xs.length ≤ 64 := by rw [← isC_order h]; exact order_le _
theorem isC_at {n : Int} {xs : List Int} (h : isC n xs = true) (j : Nat) (hj : j < xs.length) : ∃ s : Nat, xs.getD j 0 = (s : Int) ∧ s < 64 := by
  have hm : xs.getD j 0 ∈ xs := by rw [List.getD, List.getElem?_eq_getElem hj]; exact List.getElem_mem hj
  exact okZ_cast _ (setB_ok (isC_set h _ hm))

/-- No facet is a subset of another one. -/
theorem isC_apart {n : Int} {xs : List Int} (h : isC n xs = true) (x y : Int) (hx : x ∈ xs) (hy : y ∈ xs) (hne : y ≠ x) : sub x.toNat y.toNat = false := by
  have hp := ((isC_pair n xs).1 h).2.2
  obtain ⟨i, hi, rfl⟩ := List.mem_iff_getElem.1 hx
  obtain ⟨j, hj, rfl⟩ := List.mem_iff_getElem.1 hy
  rcases Nat.lt_trichotomy i j with hij | hij | hij
  · exact ((fits_iff _ _).1 (List.pairwise_iff_getElem.1 hp i j hi hj hij)).2
  · subst hij; exact absurd rfl hne
  · have hb := ((fits_iff _ _).1 (List.pairwise_iff_getElem.1 hp j i hj hi hij)).1
    rw [befZ_iff] at hb
    obtain ⟨s, hs, hs6⟩ := okZ_cast _ hb.1
    obtain ⟨t, ht, ht6⟩ := okZ_cast _ hb.2.1
    rw [hs, ht] at hb ⊢
    exact befN_nsub hs6 ht6 hb.2.2
/-- MaximalSets leaves facets as they are. -/
theorem maximal_self {n : Int} {xs : List Int} (h : isC n xs = true) : maximal xs = xs := by
  unfold maximal
  rw [isC_order h]
  unfold best
  rw [List.filter_eq_self]
  intro x hx
  unfold unbeaten
  rw [List.all_eq_true]
  intro y hy
  rw [Bool.not_eq_true', Bool.and_eq_false_iff]
  by_cases e : y = x
  · left; simp [e]
  · right; exact isC_apart h x y hx hy e
/-- MakeComplex makes a complex. -/
theorem isC_maximal (n : Int) (xs : List Int) (h1 : 1 ≤ n) (h2 : n ≤ 6) (h : ∀ x, x ∈ xs → setB n x = true) : isC n (maximal xs) = true := by
  have hm : ∀ x, x ∈ order xs → x ∈ xs := fun x hx => by
    obtain ⟨s, rfl, _, hm⟩ := order_mem xs x hx
    exact hm
  rw [isC_pair]
  refine ⟨⟨h1, h2⟩, fun x hx => h x (hm x (List.mem_filter.1 (show x ∈ (order xs).filter (unbeaten sub (order xs)) from hx)).1), ?_⟩
  unfold maximal best
  refine List.Pairwise.imp_of_mem ?_ ((order_rises xs).filter _)
  intro x y hx hy hb
  rw [fits_iff]
  refine ⟨hb, ?_⟩
  have hu := (List.mem_filter.1 hx).2
  unfold unbeaten at hu
  have := List.all_eq_true.1 hu y (List.mem_filter.1 hy).1
  rw [Bool.not_eq_true', Bool.and_eq_false_iff] at this
  rcases this with e | e
  · have : y = x := by simpa using e
    subst this
    exact absurd hb (fun k => befZ_asym k k)
  · exact e

/-! ### the walks' steps -/

theorem okAt_next {n : Int} {xs : List Int} {k : Nat} (hk : k < xs.length) (h : ∀ j, j < k → okAt n xs j = true) (hs : setB n (xs.getD k 0) = true)
    (hb : k = 0 ∨ befZ (xs.getD (k - 1) 0) (xs.getD k 0) = true) (hn : ∀ i, i < k → sub (xs.getD i 0).toNat (xs.getD k 0).toNat = false) : okAt n xs k = true := by
  rw [okAt_iff n xs k hk]
  refine ⟨hs, fun i hi => (fits_iff _ _).2 ⟨?_, hn i hi⟩⟩
  have hb' : befZ (xs.getD (k - 1) 0) (xs.getD k 0) = true := by
    rcases hb with e | e
    · omega
    · exact e
  by_cases e : i = k - 1
  · rw [e]; exact hb'
  · have := ((okAt_iff n xs (k - 1) (by omega)).1 (h (k - 1) (by omega))).2 i (by omega)
    exact befZ_trans ((fits_iff _ _).1 this).1 hb'
theorem isC_no {n : Int} {xs : List Int} {k : Nat} (hk : k < xs.length) (h : okAt n xs k = false) : isC n xs = false := by
  rw [Bool.eq_false_iff]; intro e
  rw [((isC_iff n xs).1 e).2 k hk] at h; cases h
theorem isC_not_n {n : Int} {xs : List Int} (h : ¬(1 ≤ n ∧ n ≤ 6)) : isC n xs = false := by
  rw [Bool.eq_false_iff]; intro e; exact h (isC_n e)
theorem okAt_no_set {n : Int} {xs : List Int} {k : Nat} (h : setB n (xs.getD k 0) = false) : okAt n xs k = false := by unfold okAt; rw [h]; rfl
theorem okAt_no_fit {n : Int} {xs : List Int} {k i : Nat} (hk : k < xs.length) (hi : i < k) (h : fits (xs.getD i 0) (xs.getD k 0) = false) : okAt n xs k = false := by
  rw [Bool.eq_false_iff]; intro e
  rw [((okAt_iff n xs k hk).1 e).2 i hi] at h; cases h
theorem fits_no_bef {x y : Int} (h : befZ x y = false) : fits x y = false := by unfold fits; rw [h]; rfl
theorem fits_no_sub {x y : Int} (h : sub x.toNat y.toNat = true) : fits x y = false := by unfold fits; rw [h]; simp

/-! ### faces -/

/-- Is the set in a facet? -/
def inF (xs : List Int) (s : Nat) : Bool := xs.any fun f => sub s f.toNat
/-- FacesOf. -/
def faces (n : Int) (xs : List Int) : List Int := if isC n xs = true then ord (inF xs) else []
theorem faces_le (n : Int) (xs : List Int) : (faces n xs).length ≤ 64 := by
  unfold faces; split
  · exact ord_le _
  · simp
/-- HasFace. -/
def hasF (n : Int) (xs : List Int) (s : Int) : Bool := isC n xs && okZ s && inF xs s.toNat

end Go.Proofs.YtenpcjmhlnalcaaGreat

/-! WALKS: the law's own functions at complexes: sizes, copies, equality, marks, what is held. -/

namespace Go.Proofs.YtenpcjmhlnalcaaGreat
open Go.RowKit
open Sets

/-- A block of two cells that can be written. -/
def Two (w : World) (b : Nat) (x y : Value) : Prop := b < w.heap.size ∧ w.cell? ⟨b, 0, none⟩ = some x ∧ w.cell? ⟨b, 1, none⟩ = some y ∧ w.frozen? ⟨b, 0, none⟩ = false ∧ w.frozen? ⟨b, 1, none⟩ = false
theorem Two.new (w : World) (x y : Value) (t : TypeId) : Two (w.alloc (.cells #[x, y] t)) w.heap.size x y := by
  refine ⟨by simp, ?_, ?_, World.frozen?_alloc_at _ _ _ _ rfl, World.frozen?_alloc_at _ _ _ _ rfl⟩
  · rw [World.cell?_alloc_new]; rfl
  · rw [World.cell?_alloc_new]; rfl
theorem Two.keeps {w w' : World} {b : Nat} {x y : Value} (h : Two w b x y) (hb : Below w.heap.size w w') : Two w' b x y := by
  obtain ⟨h1, h2, h3, h4, h5⟩ := h
  refine ⟨by have := hb.size; omega, ?_, ?_, ?_, ?_⟩
  · rw [hb.cell (p := ⟨b, 0, none⟩) h1]; exact h2
  · rw [hb.cell (p := ⟨b, 1, none⟩) h1]; exact h3
  · rw [hb.frozen (p := ⟨b, 0, none⟩) h1]; exact h4
  · rw [hb.frozen (p := ⟨b, 1, none⟩) h1]; exact h5
theorem Two.alloc {w : World} {b : Nat} {x y : Value} (h : Two w b x y) (o : Obj) : Two (w.alloc o) b x y := h.keeps ((Below.refl _ _).alloc (Nat.le_refl _) _)
theorem Two.set1 {w : World} {b : Nat} {x y : Value} (h : Two w b x y) (z : Value) : Two (w.setCell ⟨b, 1, none⟩ z) b x z := by
  obtain ⟨h1, h2, h3, h4, h5⟩ := h
  refine ⟨by simp [World.setCell]; exact h1, ?_, World.cell?_setCell_same _ _ _ h3, by rw [World.frozen?_setCell]; exact h4, by rw [World.frozen?_setCell]; exact h5⟩
  rw [World.cell?_setCell_other _ _ _ _ (by simp)]; exact h2

theorem IntsAt.set {w : World} {g b : Nat} {a : Option Addr} {xs : List Int} (h : IntsAt w g a xs) (hne : g ≠ b) (o : Nat) (v : Value) : IntsAt (w.setCell ⟨b, o, none⟩ v) g a xs := h.far (Mem.but_setCell _ _ _ _) hne

/-! ### a complex as a result -/

theorem results_one {fn : Func} {p : Tmp} {ty : TypeId} (h : fn.results = #[.cell p ty]) (tmps : Array Value) (P : Program) (w : World) :
    (results fn tmps).run P w = ((asAddr (tmps.getD p undef)).run P w).andThen fun a w₁ => (loadVar ty a).run P w₁ := by
  simp only [results, h]
  simp [Sem.run_bind, Result.andThen]

theorem cx_load (w : World) (b : Nat) (x y : Value) (h0 : w.cell? ⟨b, 0, none⟩ = some x) (h1 : w.cell? ⟨b, 1, none⟩ = some y) :
    (loadVar 26 ⟨b, 0, none⟩).run Tryz.prog w = .ok (.agg #[x, y]) w := by
  go_simp

theorem ret_cx {fn : Func} {p : Tmp} {R : Ending → World → Prop} {a : Act} {w : World} {x y : Value} (b : Nat) (h : fn.results = #[.cell p 26]) (hp : a.tmps.getD p undef = .pointer (some ⟨b, 0, none⟩))
    (h0 : w.cell? ⟨b, 0, none⟩ = some x) (h1 : w.cell? ⟨b, 1, none⟩ = some y) (hd : a.defers = []) (hR : R (.returned (.agg #[x, y])) w) : bodyPost Tryz.prog fn R .ret a w :=
  bodyPost_ret (by rw [results_one h, hp]; simp [asAddr, Result.andThen, cx_load w b x y h0 h1]) hd hR

theorem ret_cx2 {fn : Func} {p u : Tmp} {R : Ending → World → Prop} {a : Act} {w : World} {x y z : Value} (b : Nat) (h : fn.results = #[.cell p 26, .tmp u]) (hp : a.tmps.getD p undef = .pointer (some ⟨b, 0, none⟩)) (hu : a.tmps.getD u undef = z)
    (h0 : w.cell? ⟨b, 0, none⟩ = some x) (h1 : w.cell? ⟨b, 1, none⟩ = some y) (hd : a.defers = []) (hR : R (.returned (.tuple #[.agg #[x, y], z])) w) : bodyPost Tryz.prog fn R .ret a w :=
  bodyPost_ret (by rw [results_cell_tmp h, hp, hu]; simp [asAddr, Result.andThen, cx_load w b x y h0 h1]) hd hR

/-- A complex as a value. -/
abbrev cx (n : Int) (v : Value) : Value := .agg #[.int .i64 n, v]

end Go.Proofs.YtenpcjmhlnalcaaGreat

/-! WALKS: the law's own bound on the sizes of complexes. -/

namespace Go.Proofs.YtenpcjmhlnalcaaGreat
open Go.RowKit

/-- What another block's writes leave. -/
theorem Two.far {w w' : World} {b g : Nat} {x y : Value} (h : Two w b x y) (hg : w.grownBy w' (some g)) (hne : b ≠ g) : Two w' b x y := by
  obtain ⟨h1, h2, h3, h4, h5⟩ := h
  have hb := hg.block b h1 (by simpa using hne)
  have := hg.size
  exact ⟨by omega, by rw [World.cell?_of_block (w := w) (w' := w') (a := ⟨b, 0, none⟩) hb]; exact h2, by rw [World.cell?_of_block (w := w) (w' := w') (a := ⟨b, 1, none⟩) hb]; exact h3,
    by rw [World.frozen?_of_block (w := w) (w' := w') (a := ⟨b, 0, none⟩) hb]; exact h4, by rw [World.frozen?_of_block (w := w) (w' := w') (a := ⟨b, 1, none⟩) hb]; exact h5⟩

theorem bdrew1 (w : World) : Below w.heap.size w w.drew := (Below.refl _ _).drew
theorem Two.drew {w : World} {b : Nat} {x y : Value} (h : Two w b x y) : Two w.drew b x y := h
theorem Ints.drew {w : World} {a : Option Addr} {xs : List Int} (h : Ints w a xs) : Ints w.drew a xs := h
theorem below_fresh {w wA : World} (h : Below w.drew.heap.size w.drew wA) : Below w.heap.size w wA := (bdrew1 w).trans h
/-- Out of what is owned: the slice, its room, and a block that is no new one. -/
theorem OwnInts.ata {w : World} {base : Nat} {v : Value} {xs : List Int} (h : OwnInts w base v xs) (hb : base ≤ w.heap.size) :
    ∃ a c g, v = .slice a xs.length c ∧ xs.length ≤ c ∧ base ≤ g ∧ IntsAt w g a xs ∧ (g < w.heap.size ∨ w.heap.size + 5 ≤ g) := by
  unfold OwnInts at h
  rcases h.2 with ⟨hv, h0⟩ | ⟨g, cap, cur, hv, _, _, hcap, _⟩
  · exact ⟨none, 0, w.heap.size + 5, by rw [hv, h0], by omega, by omega, fun j hj => by omega, Or.inr (Nat.le_refl _)⟩
  · subst hv
    obtain ⟨h1, h2⟩ := World.ownsRow.lt h g rfl
    refine ⟨some ⟨g, 0, none⟩, cap, g, rfl, hcap, h1, fun j hj => ⟨rfl, h2, ?_, World.ownsRow.frozenAt h j⟩, Or.inl h2⟩
    rw [World.ownsRow.cellAt h j (by omega), ints_cell xs j hj]

end Go.Proofs.YtenpcjmhlnalcaaGreat
