/-
  TEXTS of one claim, put together: WSet2, Cplx, Cnt, CntLaw.
-/
import Derived.Test.YtmonaiojejbhkaaJg0
/-! WALKS: how many points a set has, which of two comes first, its points, its subsets. -/

namespace Go.Proofs.Ytmonaiojejbhkaa
open Go.RowKit
open Sets

theorem fin64 {P : Nat → Prop} (h : ∀ t : Fin 64, P t.val) : ∀ s : Nat, s < 64 → P s := fun s hs => h ⟨s, hs⟩
theorem fin64b {P : Nat → Nat → Prop} (h : ∀ t u : Fin 64, P t.val u.val) : ∀ s r : Nat, s < 64 → r < 64 → P s r := fun s r hs hr => h ⟨s, hs⟩ ⟨r, hr⟩
theorem ret_int {k : IntKind} {a b : Int} (h : a = b) : Ending.returned (.int k a) = .returned (.int k b) := by rw [h]
theorem ret_bool {a b : Bool} (h : a = b) : Ending.returned (.bool a) = .returned (.bool b) := by rw [h]

/-- SizeOf. -/
def sizeZ (x : Int) : Int := if okZ x = true then (pc x.toNat : Int) else -1
theorem sizeZ_nat (s : Nat) (h : s < 64) : sizeZ (s : Int) = (pc s : Int) := by unfold sizeZ; rw [if_pos ((okZ_nat s).2 h)]; rfl
theorem okZ_cast (x : Int) (h : okZ x = true) : ∃ s : Nat, x = (s : Int) ∧ s < 64 := by
  have := (okZ_iff x).1 h
  exact ⟨x.toNat, by omega, by omega⟩

theorem and_one (t : Nat) (h : t < 64) : bits BinOp.and IntKind.i64 (t : Int) 1 = ((t % 2 : Nat) : Int) := by
  revert t
  refine fin64 ?_
  decide +kernel

set_option maxRecDepth 100000 in
set_option maxHeartbeats 2000000 in
theorem l2Size_any (s : Nat) (hs : s < 64) (w : World) : Calls Try.prog 58 #[.int .i64 (s : Int)] w fun e w' => e = .returned (.int .i64 (pc s : Int)) ∧ w = w' := by
  go_enter Try.func58, Try.ntmps58
  go_wp2
  go_loop [0, 3] (fun x n => ∃ t m : Nat, t < 64 ∧ x = .int .i64 (t : Int) ∧ n = .int .i64 (m : Int) ∧ m ≤ 64 ∧ m + pc t = pc s) (fun x _ => (intOf x).toNat)
  case atStart => exact ⟨s, 0, hs, rfl, rfl, by omega, by omega⟩
  case round =>
    obtain ⟨t, m, ht, rfl, rfl, hm, he⟩ := hrel
    have HE := Lib.hid he
    clear he
    by_cases hpos : 0 < t
    · have ha := and_one t ht
      have hh := pc_half t ht
      have hl := pc_le s
      have HH := Lib.hid hh
      clear hh
      go_wp2
      go_round
      case rel =>
        have h1 := HH.out
        have h2 := HE.out
        exact ⟨t / 2, m + t % 2, by omega, by go_num, by first | (rw [ha]; go_num) | go_num, by omega, by omega⟩
      case measure => simp [intOf]; omega
    · have E := Lib.hid (show t = 0 by omega)
      go_wp2
      go_ret
      refine ⟨ret_int ?_, rfl⟩
      have h2 := HE.out
      rw [E.out, pc_zero] at h2
      omega

/-- Is a before b? -/
def befN (a b : Nat) : Bool := decide (pc a < pc b ∨ pc a = pc b ∧ a < b)
/-- BeforeSet. -/
def befZ (a b : Int) : Bool := okZ a && okZ b && befN a.toNat b.toNat

set_option maxRecDepth 100000 in
set_option maxHeartbeats 2000000 in
theorem l2Before_any (s t : Nat) (hs : s < 64) (ht : t < 64) (w : World) : Calls Try.prog 76 #[.int .i64 (s : Int), .int .i64 (t : Int)] w fun e w' => e = .returned (.bool (befN s t)) ∧ w = w' := by
  have p1 := pc_le s
  have p2 := pc_le t
  by_cases hlt : pc s < pc t
  · have e : befN s t = true := by unfold befN; simp [hlt]
    rw [e]
    clear e
    go_enter Try.func76, Try.ntmps76
    go_wp2_with fail
    refine (l2Size_any s hs _).mono ?_
    rintro e w' ⟨rfl, rfl⟩
    go_wp2_with fail
    refine (l2Size_any t ht _).mono ?_
    rintro e w' ⟨rfl, rfl⟩
    go_wp2
    go_ret
    exact ⟨rfl, rfl⟩
  · by_cases hq : pc s = pc t
    · have e : befN s t = decide (s < t) := by unfold befN; simp [hq]
      rw [e]
      clear e
      have hq' : ((pc s : Int) == (pc t : Int)) = true := by rw [hq]; simp
      have hl' : decide (pc s < pc t) = false := by simpa using hlt
      have HQ := Lib.hid hq
      clear hq hlt
      go_enter Try.func76, Try.ntmps76
      go_wp2_with fail
      refine (l2Size_any s hs _).mono ?_
      rintro e w' ⟨rfl, rfl⟩
      go_wp2_with fail
      refine (l2Size_any t ht _).mono ?_
      rintro e w' ⟨rfl, rfl⟩
      go_wp2
      go_ret
      exact ⟨rfl, rfl⟩
    · have e : befN s t = false := by unfold befN; simp [hq]; omega
      rw [e]
      clear e
      have hq' : ((pc s : Int) == (pc t : Int)) = false := by simp; omega
      have hl' : decide (pc s < pc t) = false := by simpa using hlt
      clear hq hlt
      go_enter Try.func76, Try.ntmps76
      go_wp2_with fail
      refine (l2Size_any s hs _).mono ?_
      rintro e w' ⟨rfl, rfl⟩
      go_wp2_with fail
      refine (l2Size_any t ht _).mono ?_
      rintro e w' ⟨rfl, rfl⟩
      go_wp2
      go_ret
      exact ⟨rfl, rfl⟩

end Go.Proofs.Ytmonaiojejbhkaa

/-! COMPLEXES, of no program: what is one, its faces; the maximal ones of sets of n points. -/

namespace Go.Proofs.Ytmonaiojejbhkaa
open Sets

/-! ### order and subsets -/

theorem sub_pc (a b : Nat) (ha : a < 64) (hb : b < 64) (h : sub a b = true) : pc a < pc b ∨ a = b := by
  have H : ∀ a b : Fin 64, sub a.val b.val = true → pc a.val < pc b.val ∨ a.val = b.val := by decide +kernel
  exact H ⟨a, ha⟩ ⟨b, hb⟩ h
theorem befN_iff (a b : Nat) : befN a b = true ↔ (pc a < pc b ∨ pc a = pc b ∧ a < b) := decide_eq_true_iff
theorem befN_irr (a : Nat) : befN a a = false := by rw [Bool.eq_false_iff]; intro h; have := (befN_iff a a).1 h; omega
theorem befN_trans {a b c : Nat} (h : befN a b = true) (k : befN b c = true) : befN a c = true := by
  rw [befN_iff] at *; omega
theorem befN_tri {a b : Nat} (h : a ≠ b) : befN a b = true ∨ befN b a = true := by
  rw [befN_iff, befN_iff]; omega
theorem befN_nsub {a b : Nat} (ha : a < 64) (hb : b < 64) (h : befN a b = true) : sub b a = false := by
  rw [Bool.eq_false_iff]; intro k
  have h1 := (befN_iff a b).1 h
  rcases sub_pc b a hb ha k with h2 | h2
  · omega
  · subst h2; omega
theorem befZ_iff (x y : Int) : befZ x y = true ↔ okZ x = true ∧ okZ y = true ∧ befN x.toNat y.toNat = true := by
  unfold befZ; rw [Bool.and_eq_true, Bool.and_eq_true, and_assoc]
theorem befZ_trans {x y z : Int} (h : befZ x y = true) (k : befZ y z = true) : befZ x z = true := by
  rw [befZ_iff] at *; exact ⟨h.1, k.2.1, befN_trans h.2.2 k.2.2⟩
theorem befZ_asym {x y : Int} (h : befZ x y = true) (k : befZ y x = true) : False := by
  have := (befZ_iff x x).1 (befZ_trans h k)
  rw [befN_irr] at this; simp at this
theorem befZ_nat (s t : Nat) (hs : s < 64) (ht : t < 64) : befZ (s : Int) (t : Int) = befN s t := by
  unfold befZ; rw [(okZ_nat s).2 hs, (okZ_nat t).2 ht]; rfl

/-! ### lists in order -/

def Rises (xs : List Int) : Prop := xs.Pairwise fun x y => befZ x y = true

theorem ord_filter (p : Nat → Bool) : ord p = (ord fun _ => true).filter fun x => p x.toNat := by
  unfold ord row
  rw [List.filter_flatMap]
  congr 1
  funext k
  rw [List.filter_map, List.filter_filter]
  congr 1
  apply List.filter_congr
  intro s _
  simp only [Function.comp, Bool.and_true]
  rw [Bool.and_comm]; rfl
theorem all_rises : Rises (ord fun _ => true) := by
  unfold Rises; decide +kernel
theorem all_len : (ord fun _ => true).length = 64 := by decide +kernel
theorem ord_rises (p : Nat → Bool) : Rises (ord p) := by rw [ord_filter]; exact List.Pairwise.filter _ all_rises
theorem ord_le (p : Nat → Bool) : (ord p).length ≤ 64 := by
  rw [ord_filter, ← all_len]; exact List.length_filter_le _ _

/-- Lists in order with the same sets are equal. -/
theorem rises_eq : ∀ (xs ys : List Int), Rises xs → Rises ys → (∀ x, x ∈ xs ↔ x ∈ ys) → xs = ys
  | [], [], _, _, _ => rfl
  | [], y :: ys, _, _, h => absurd ((h y).2 (List.mem_cons_self ..)) (by simp)
  | x :: xs, [], _, _, h => absurd ((h x).1 (List.mem_cons_self ..)) (by simp)
  | x :: xs, y :: ys, hx, hy, h => by
    have hx' := List.pairwise_cons.1 hx
    have hy' := List.pairwise_cons.1 hy
    have e : x = y := by
      rcases List.mem_cons.1 ((h x).1 (List.mem_cons_self ..)) with e | e
      · exact e
      · rcases List.mem_cons.1 ((h y).2 (List.mem_cons_self ..)) with e' | e'
        · exact e'.symm
        · exact absurd (hx'.1 y e') (fun k => befZ_asym k (hy'.1 x e))
    subst e
    congr 1
    refine rises_eq xs ys hx'.2 hy'.2 fun z => ⟨fun hz => ?_, fun hz => ?_⟩
    · rcases List.mem_cons.1 ((h z).1 (List.mem_cons_of_mem _ hz)) with e | e
      · subst e; exact absurd (hx'.1 z hz) (fun k => befZ_asym k k)
      · exact e
    · rcases List.mem_cons.1 ((h z).2 (List.mem_cons_of_mem _ hz)) with e | e
      · subst e; exact absurd (hy'.1 z hz) (fun k => befZ_asym k k)
      · exact e
theorem order_rises (xs : List Int) : Rises (order xs) := by
  unfold order; split
  · exact ord_rises _
  · exact List.Pairwise.nil
theorem order_le (xs : List Int) : (order xs).length ≤ 64 := by
  unfold order; split
  · exact ord_le _
  · simp
theorem order_iff (xs : List Int) (h : allOk xs = true) (x : Int) : x ∈ order xs ↔ x ∈ xs := by
  constructor
  · intro hx
    obtain ⟨s, rfl, _, hm⟩ := order_mem xs x hx
    exact hm
  · exact mem_order xs h x
/-- What is in order stays so. -/
theorem order_self (xs : List Int) (h : allOk xs = true) (hr : Rises xs) : order xs = xs := rises_eq _ _ (order_rises xs) hr (order_iff xs h)
theorem order_congr {xs ys : List Int} (hx : allOk xs = true) (hy : allOk ys = true) (h : ∀ x, x ∈ xs ↔ x ∈ ys) : order xs = order ys :=
  rises_eq _ _ (order_rises xs) (order_rises ys) fun x => by rw [order_iff xs hx, order_iff ys hy, h]

/-! ### complexes -/

/-- x stands before y and is no subset of it. -/
def fits (x y : Int) : Bool := befZ x y && !sub x.toNat y.toNat
theorem fits_iff (x y : Int) : fits x y = true ↔ befZ x y = true ∧ sub x.toNat y.toNat = false := by
  unfold fits; rw [Bool.and_eq_true, Bool.not_eq_true']
/-- The k-th facet is a set and fits behind all before it. -/
def okAt (n : Int) (xs : List Int) (k : Nat) : Bool := setB n (xs.getD k 0) && (xs.take k).all fun x => fits x (xs.getD k 0)
/-- IsComplex. -/
def isC (n : Int) (xs : List Int) : Bool := inB 1 6 n && (List.range xs.length).all (okAt n xs)

theorem inB_iff (lo hi x : Int) : inB lo hi x = true ↔ lo ≤ x ∧ x ≤ hi := by unfold inB; exact decide_eq_true_iff
theorem setB_ok {n s : Int} (h : setB n s = true) : okZ s = true := by
  rw [setB_iff] at h; rw [okZ_iff]
  obtain ⟨h0, h1, h2, h3⟩ := h
  rcases seven n h0 h1 with rfl | rfl | rfl | rfl | rfl | rfl | rfl <;> simp at h3 <;> omega
theorem okAt_iff (n : Int) (xs : List Int) (k : Nat) (hk : k < xs.length) : okAt n xs k = true ↔ setB n (xs.getD k 0) = true ∧ ∀ i, i < k → fits (xs.getD i 0) (xs.getD k 0) = true := by
  unfold okAt
  rw [Bool.and_eq_true, List.all_eq_true]
  refine and_congr_right fun _ => ⟨fun h i hi => ?_, fun h x hx => ?_⟩
  · refine h _ ?_
    rw [List.getD, List.getElem?_eq_getElem (by omega)]
    rw [List.mem_take_iff_getElem]
    exact ⟨i, by omega, rfl⟩
  · obtain ⟨i, hi, rfl⟩ := List.mem_take_iff_getElem.1 hx
    have := h i (by omega)
    rwa [List.getD, List.getElem?_eq_getElem (by omega)] at this
theorem isC_iff (n : Int) (xs : List Int) : isC n xs = true ↔ (1 ≤ n ∧ n ≤ 6) ∧ ∀ k, k < xs.length → okAt n xs k = true := by
  unfold isC
  rw [Bool.and_eq_true, inB_iff, List.all_eq_true]
  refine and_congr_right fun _ => ⟨fun h k hk => h k (List.mem_range.2 hk), fun h k hk => h k (List.mem_range.1 hk)⟩
theorem isC_pair (n : Int) (xs : List Int) : isC n xs = true ↔ (1 ≤ n ∧ n ≤ 6) ∧ (∀ x, x ∈ xs → setB n x = true) ∧ xs.Pairwise fun x y => fits x y = true := by
  rw [isC_iff]
  refine and_congr_right fun _ => ⟨fun h => ⟨fun x hx => ?_, ?_⟩, fun h k hk => ?_⟩
  · obtain ⟨j, hj, rfl⟩ := List.mem_iff_getElem.1 hx
    have := ((okAt_iff n xs j hj).1 (h j hj)).1
    rwa [List.getD, List.getElem?_eq_getElem hj] at this
  · rw [List.pairwise_iff_getElem]
    intro i j hi hj hij
    have := ((okAt_iff n xs j hj).1 (h j hj)).2 i hij
    rwa [List.getD, List.getD, List.getElem?_eq_getElem hj, List.getElem?_eq_getElem hi] at this
  · rw [okAt_iff n xs k hk]
    refine ⟨?_, fun i hi => ?_⟩
    · rw [List.getD, List.getElem?_eq_getElem hk]; exact h.1 _ (List.getElem_mem hk)
    · rw [List.getD, List.getD, List.getElem?_eq_getElem hk, List.getElem?_eq_getElem (by omega)]
      exact List.pairwise_iff_getElem.1 h.2 i k (by omega) hk hi
theorem isC_n {n : Int} {xs : List Int} (h : isC n xs = true) : 1 ≤ n ∧ n ≤ 6 := ((isC_iff n xs).1 h).1
theorem isC_set {n : Int} {xs : List Int} (h : isC n xs = true) : ∀ x, x ∈ xs → setB n x = true := ((isC_pair n xs).1 h).2.1
theorem isC_ok {n : Int} {xs : List Int} (h : isC n xs = true) : allOk xs = true := by
  unfold allOk; rw [List.all_eq_true]; exact fun x hx => setB_ok (isC_set h x hx)
theorem isC_rises {n : Int} {xs : List Int} (h : isC n xs = true) : Rises xs :=
  ((isC_pair n xs).1 h).2.2.imp fun h => ((fits_iff _ _).1 h).1
theorem isC_order {n : Int} {xs : List Int} (h : isC n xs = true) : order xs = xs := order_self xs (isC_ok h) (isC_rises h)
theorem isC_le {n : Int} {xs : List Int} (h : isC n xs = true) : xs.length ≤ 64 := by rw [← isC_order h]; exact order_le _
theorem isC_at {n : Int} {xs : List Int} (h : isC n xs = true) (j : Nat) (hj : j < xs.length) : ∃ s : Nat, xs.getD j 0 = (s : Int) ∧ s < 64 := by
  have hm : xs.getD j 0 ∈ xs := by rw [List.getD, List.getElem?_eq_getElem hj]; exact List.getElem_mem hj
  exact okZ_cast _ (setB_ok (isC_set h _ hm))

/-- No facet is a subset of another one. -/
theorem isC_apart {n : Int} {xs : List Int} (h : isC n xs = true) (x y : Int) (hx : x ∈ xs) (hy : y ∈ xs) (hne : y ≠ x) : sub x.toNat y.toNat = false := by
  have hp := ((isC_pair n xs).1 h).2.2
  obtain ⟨i, hi, rfl⟩ := List.mem_iff_getElem.1 hx
  obtain ⟨j, hj, rfl⟩ := List.mem_iff_getElem.1 hy
  rcases Nat.lt_trichotomy i j with hij | hij | hij
  · exact ((fits_iff _ _).1 (List.pairwise_iff_getElem.1 hp i j hi hj hij)).2
  · subst hij; exact absurd rfl hne
  · have hb := ((fits_iff _ _).1 (List.pairwise_iff_getElem.1 hp j i hj hi hij)).1
    rw [befZ_iff] at hb
    obtain ⟨s, hs, hs6⟩ := okZ_cast _ hb.1
    obtain ⟨t, ht, ht6⟩ := okZ_cast _ hb.2.1
    rw [hs, ht] at hb ⊢
    exact befN_nsub hs6 ht6 hb.2.2
/-- MaximalSets leaves facets as they are. -/
theorem maximal_self {n : Int} {xs : List Int} (h : isC n xs = true) : maximal xs = xs := by
  unfold maximal
  rw [isC_order h]
  unfold best
  rw [List.filter_eq_self]
  intro x hx
  unfold unbeaten
  rw [List.all_eq_true]
  intro y hy
  rw [Bool.not_eq_true', Bool.and_eq_false_iff]
  by_cases e : y = x
  · left; simp [e]
  · right; exact isC_apart h x y hx hy e
/-- MakeComplex makes a complex. -/
theorem isC_maximal (n : Int) (xs : List Int) (h1 : 1 ≤ n) (h2 : n ≤ 6) (h : ∀ x, x ∈ xs → setB n x = true) : isC n (maximal xs) = true := by
  have hm : ∀ x, x ∈ order xs → x ∈ xs := fun x hx => by
    obtain ⟨s, rfl, _, hm⟩ := order_mem xs x hx
    exact hm
  rw [isC_pair]
  refine ⟨⟨h1, h2⟩, fun x hx => h x (hm x (List.mem_filter.1 (show x ∈ (order xs).filter (unbeaten sub (order xs)) from hx)).1), ?_⟩
  unfold maximal best
  refine List.Pairwise.imp_of_mem ?_ ((order_rises xs).filter _)
  intro x y hx hy hb
  rw [fits_iff]
  refine ⟨hb, ?_⟩
  have hu := (List.mem_filter.1 hx).2
  unfold unbeaten at hu
  have := List.all_eq_true.1 hu y (List.mem_filter.1 hy).1
  rw [Bool.not_eq_true', Bool.and_eq_false_iff] at this
  rcases this with e | e
  · have : y = x := by simpa using e
    subst this
    exact absurd hb (fun k => befZ_asym k k)
  · exact e

/-! ### the walks' steps -/

theorem okAt_next {n : Int} {xs : List Int} {k : Nat} (hk : k < xs.length) (h : ∀ j, j < k → okAt n xs j = true) (hs : setB n (xs.getD k 0) = true)
    (hb : k = 0 ∨ befZ (xs.getD (k - 1) 0) (xs.getD k 0) = true) (hn : ∀ i, i < k → sub (xs.getD i 0).toNat (xs.getD k 0).toNat = false) : okAt n xs k = true := by
  rw [okAt_iff n xs k hk]
  refine ⟨hs, fun i hi => (fits_iff _ _).2 ⟨?_, hn i hi⟩⟩
  have hb' : befZ (xs.getD (k - 1) 0) (xs.getD k 0) = true := by
    rcases hb with e | e
    · omega
    · exact e
  by_cases e : i = k - 1
  · rw [e]; exact hb'
  · have := ((okAt_iff n xs (k - 1) (by omega)).1 (h (k - 1) (by omega))).2 i (by omega)
    exact befZ_trans ((fits_iff _ _).1 this).1 hb'
theorem isC_no {n : Int} {xs : List Int} {k : Nat} (hk : k < xs.length) (h : okAt n xs k = false) : isC n xs = false := by
  rw [Bool.eq_false_iff]; intro e
  rw [((isC_iff n xs).1 e).2 k hk] at h; cases h
theorem isC_not_n {n : Int} {xs : List Int} (h : ¬(1 ≤ n ∧ n ≤ 6)) : isC n xs = false := by
  rw [Bool.eq_false_iff]; intro e; exact h (isC_n e)
theorem okAt_no_set {n : Int} {xs : List Int} {k : Nat} (h : setB n (xs.getD k 0) = false) : okAt n xs k = false := by unfold okAt; rw [h]; rfl
theorem okAt_no_fit {n : Int} {xs : List Int} {k i : Nat} (hk : k < xs.length) (hi : i < k) (h : fits (xs.getD i 0) (xs.getD k 0) = false) : okAt n xs k = false := by
  rw [Bool.eq_false_iff]; intro e
  rw [((okAt_iff n xs k hk).1 e).2 i hi] at h; cases h
theorem fits_no_bef {x y : Int} (h : befZ x y = false) : fits x y = false := by unfold fits; rw [h]; rfl
theorem fits_no_sub {x y : Int} (h : sub x.toNat y.toNat = true) : fits x y = false := by unfold fits; rw [h]; simp

/-! ### faces -/

/-- Is the set in a facet? -/
def inF (xs : List Int) (s : Nat) : Bool := xs.any fun f => sub s f.toNat
/-- FacesOf. -/
def faces (n : Int) (xs : List Int) : List Int := if isC n xs = true then ord (inF xs) else []
theorem faces_le (n : Int) (xs : List Int) : (faces n xs).length ≤ 64 := by
  unfold faces; split
  · exact ord_le _
  · simp
/-- HasFace. -/
def hasF (n : Int) (xs : List Int) (s : Int) : Bool := isC n xs && okZ s && inF xs s.toNat

end Go.Proofs.Ytmonaiojejbhkaa

/-! COUNTS OF FACES, of no program. -/

namespace Go.Proofs.Ytmonaiojejbhkaa
open Sets

/-- How many of a list have so many points. -/
def cnt (k : Nat) (L : List Int) : Nat := L.countP fun x => pc x.toNat == k
theorem cnt_nil (k : Nat) : cnt k [] = 0 := rfl
theorem cnt_snoc (k : Nat) (L : List Int) (x : Int) : cnt k (L ++ [x]) = cnt k L + if pc x.toNat = k then 1 else 0 := by
  unfold cnt
  rw [List.countP_append]
  by_cases h : pc x.toNat = k <;> simp [h]
theorem cnt_le (k : Nat) (L : List Int) : cnt k L ≤ L.length := List.countP_le_length
theorem take_nx (L : List Int) (k : Nat) (h : k < L.length) : L.take (k + 1) = L.take k ++ [L.getD k 0] := by
  rw [List.take_add_one, List.getD, List.getElem?_eq_getElem h]; rfl
theorem cnt_take (k : Nat) (L : List Int) (j : Nat) (h : j < L.length) : cnt k (L.take (j + 1)) = cnt k (L.take j) + if pc (L.getD j 0).toNat = k then 1 else 0 := by
  rw [take_nx L j h, cnt_snoc]
/-- The counts of the sizes from 0 to 6. -/
def cnts (L : List Int) : List Int := (List.range 7).map fun k => (cnt k L : Int)
theorem cnts_length (L : List Int) : (cnts L).length = 7 := by simp [cnts]
theorem cnts_at (L : List Int) (k : Nat) (h : k < 7) : (cnts L).getD k 0 = (cnt k L : Int) := by
  simp [cnts, List.getD, h]

/-- One more than the greatest size. -/
def top (L : List Int) : Nat := L.foldl (fun m x => max m (pc x.toNat + 1)) 0
theorem top_snoc (L : List Int) (x : Int) : top (L ++ [x]) = max (top L) (pc x.toNat + 1) := by
  unfold top; rw [List.foldl_append]; rfl
theorem top_take (L : List Int) (j : Nat) (h : j < L.length) : top (L.take (j + 1)) = max (top (L.take j)) (pc (L.getD j 0).toNat + 1) := by
  rw [take_nx L j h, top_snoc]
theorem top_le (L : List Int) : top L ≤ 7 := by
  have h : ∀ (L : List Int) (m : Nat), m ≤ 7 → L.foldl (fun m x => max m (pc x.toNat + 1)) m ≤ 7 := by
    intro L
    induction L with
    | nil => intro m h; exact h
    | cons x L ih => intro m h; exact ih _ (by have := pc_le x.toNat; dsimp only; omega)
  exact h L 0 (by omega)
theorem top_ge (L : List Int) (x : Int) (hx : x ∈ L) : pc x.toNat + 1 ≤ top L := by
  have h2 : ∀ (L : List Int) (m : Nat), m ≤ L.foldl (fun m x => max m (pc x.toNat + 1)) m := by
    intro L
    induction L with
    | nil => intro m; exact Nat.le_refl _
    | cons x L ih => intro m; exact Nat.le_trans (Nat.le_max_left _ _) (ih _)
  have h : ∀ (L : List Int) (m : Nat), x ∈ L → pc x.toNat + 1 ≤ L.foldl (fun m x => max m (pc x.toNat + 1)) m := by
    intro L
    induction L with
    | nil => intro m hx; simp at hx
    | cons y L ih =>
      intro m hx
      rcases List.mem_cons.1 hx with rfl | hx
      · exact Nat.le_trans (Nat.le_max_right _ _) (h2 L _)
      · exact ih _ hx
  exact h L 0 hx
theorem top_le_of (L : List Int) (m : Nat) (h : ∀ x, x ∈ L → pc x.toNat + 1 ≤ m) : top L ≤ m := by
  have h1 : ∀ (L : List Int) (n : Nat), n ≤ m → (∀ x, x ∈ L → pc x.toNat + 1 ≤ m) → L.foldl (fun m x => max m (pc x.toNat + 1)) n ≤ m := by
    intro L
    induction L with
    | nil => intro n h _; exact h
    | cons x L ih => intro n h k; exact ih _ (by have := k x (List.mem_cons_self ..); dsimp only; omega) (fun y hy => k y (List.mem_cons_of_mem _ hy))
  exact h1 L 0 (by omega) h

/-- Counts up to the greatest size. -/
def counts (L : List Int) : List Int := (cnts L).take (top L)
theorem counts_length (L : List Int) : (counts L).length = top L := by
  unfold counts; rw [List.length_take, cnts_length]; have := top_le L; omega
theorem counts_at (L : List Int) (k : Nat) (h : k < top L) : (counts L).getD k 0 = (cnt k L : Int) := by
  have := top_le L
  rw [← cnts_at L k (by omega)]
  unfold counts
  rw [List.getD, List.getElem?_take_of_lt h, List.getD]
theorem counts_nil : counts [] = [] := rfl
theorem ge_top (L : List Int) (k : Nat) (h : top L ≤ k) : cnt k L = 0 := by
  unfold cnt
  rw [List.countP_eq_zero]
  intro x hx e
  have := top_ge L x hx
  simp at e
  omega

/-- DimOf. -/
def dimZ (n : Int) (xs : List Int) : Int := if isC n xs = true ∧ xs ≠ [] then (pc (xs.getD (xs.length - 1) 0).toNat : Int) - 1 else -2
theorem dimZ_yes {n : Int} {xs : List Int} (h : isC n xs = true) (h0 : 0 < xs.length) : dimZ n xs = (pc (xs.getD (xs.length - 1) 0).toNat : Int) - 1 := by
  unfold dimZ; rw [if_pos ⟨h, fun e => by rw [e] at h0; simp at h0⟩]
theorem dimZ_no {n : Int} {xs : List Int} (h : isC n xs = false) : dimZ n xs = -2 := by
  unfold dimZ; rw [if_neg (by rw [h]; simp)]
theorem dimZ_nil (n : Int) : dimZ n [] = -2 := by unfold dimZ; rw [if_neg (by simp)]

/-- FacesOfSize. -/
def sized (k : Int) (L : List Int) : List Int := L.filter fun x => (pc x.toNat : Int) == k
theorem sized_length (k : Int) (L : List Int) : (sized k L).length ≤ L.length := List.length_filter_le _ _
theorem sized_cnt (k : Nat) (L : List Int) : (sized (k : Int) L).length = cnt k L := by
  unfold sized cnt
  rw [List.countP_eq_length_filter]
  congr 1
  apply List.filter_congr
  intro x _
  rw [Bool.eq_iff_iff, beq_iff_eq, beq_iff_eq]; omega
theorem sized_hit (k : Int) (L : List Int) (j : Nat) (h : j < L.length) (e : (pc (L.getD j 0).toNat : Int) = k) : sized k (L.take (j + 1)) = sized k (L.take j) ++ [L.getD j 0] := by
  rw [take_nx L j h]; unfold sized; rw [List.filter_append]; generalize L.getD j 0 = x at e ⊢; simp [e]
theorem sized_miss (k : Int) (L : List Int) (j : Nat) (h : j < L.length) (e : (pc (L.getD j 0).toNat : Int) ≠ k) : sized k (L.take (j + 1)) = sized k (L.take j) := by
  rw [take_nx L j h]; unfold sized; rw [List.filter_append]; generalize L.getD j 0 = x at e ⊢; simp [e]

/-- EulerOf. -/
def eul (L : List Int) : Int := -(cnt 0 L : Int) + cnt 1 L - cnt 2 L + cnt 3 L - cnt 4 L + cnt 5 L - cnt 6 L
theorem eul_nil : eul [] = 0 := rfl
theorem eul_snoc (L : List Int) (x : Int) : eul (L ++ [x]) = eul L + (2 * ((pc x.toNat % 2 : Nat) : Int) - 1) := by
  unfold eul
  simp only [cnt_snoc]
  have h := pc_le x.toNat
  generalize pc x.toNat = p at h
  rcases (by omega : p = 0 ∨ p = 1 ∨ p = 2 ∨ p = 3 ∨ p = 4 ∨ p = 5 ∨ p = 6) with rfl | rfl | rfl | rfl | rfl | rfl | rfl <;> simp <;> omega
theorem eul_take (L : List Int) (j : Nat) (h : j < L.length) : eul (L.take (j + 1)) = eul (L.take j) + (2 * ((pc (L.getD j 0).toNat % 2 : Nat) : Int) - 1) := by
  rw [take_nx L j h, eul_snoc]
theorem eul_bound (L : List Int) : -(L.length : Int) * 7 ≤ eul L ∧ eul L ≤ (L.length : Int) * 7 := by
  unfold eul
  have h0 := cnt_le 0 L; have h1 := cnt_le 1 L; have h2 := cnt_le 2 L; have h3 := cnt_le 3 L; have h4 := cnt_le 4 L; have h5 := cnt_le 5 L; have h6 := cnt_le 6 L
  omega

/-- All facets have one size. -/
def evenB (xs : List Int) : Bool := xs.all fun x => pc x.toNat == pc (xs.getD 0 0).toNat
/-- IsPure. -/
def pureB (n : Int) (xs : List Int) : Bool := isC n xs && evenB xs
theorem even_no {xs : List Int} {k : Nat} (hk : k < xs.length) (h : pc (xs.getD k 0).toNat ≠ pc (xs.getD 0 0).toNat) : evenB xs = false := by
  rw [Bool.eq_false_iff]; intro e
  unfold evenB at e
  have := List.all_eq_true.1 e (xs.getD k 0) (by rw [List.getD, List.getElem?_eq_getElem hk]; exact List.getElem_mem hk)
  rw [beq_iff_eq] at this
  exact h this
theorem even_yes {xs : List Int} (h : ∀ j, j < xs.length → pc (xs.getD j 0).toNat = pc (xs.getD 0 0).toNat) : evenB xs = true := by
  unfold evenB; rw [List.all_eq_true]; intro x hx
  obtain ⟨j, hj, rfl⟩ := List.mem_iff_getElem.1 hx
  have := h j hj
  rw [List.getD, List.getElem?_eq_getElem hj] at this
  rw [beq_iff_eq]; exact this
theorem even_at {xs : List Int} (h : evenB xs = true) (x : Int) (hx : x ∈ xs) : pc x.toNat = pc (xs.getD 0 0).toNat := by
  unfold evenB at h
  have := List.all_eq_true.1 h x hx
  rwa [beq_iff_eq] at this

/-- What IsPure compares: as many facets as there are, at every size that there is. -/
def ones (xs : List Int) (k : Nat) : List Int := (List.range 7).map fun s => if cnt s (xs.take k) = 0 then 0 else (xs.length : Int)
theorem ones_length (xs : List Int) (k : Nat) : (ones xs k).length = 7 := by simp [ones]
theorem ones_at (xs : List Int) (k s : Nat) (h : s < 7) : (ones xs k).getD s 0 = if cnt s (xs.take k) = 0 then 0 else (xs.length : Int) := by
  simp [ones, List.getD, h]
theorem cnts_ones (xs : List Int) : (cnts xs == ones xs xs.length) = evenB xs := by
  rw [Bool.eq_iff_iff, beq_iff_eq]
  constructor
  · intro h
    apply even_yes
    intro j hj
    have h0 : 0 < xs.length := by omega
    have hm : ∀ i, i < xs.length → cnt (pc (xs.getD i 0).toNat) xs = xs.length := by
      intro i hi
      have hp := pc_le (xs.getD i 0).toNat
      have hmem : xs.getD i 0 ∈ xs := by rw [List.getD, List.getElem?_eq_getElem hi]; exact List.getElem_mem hi
      generalize xs.getD i 0 = x at hp hmem ⊢
      have e := congrArg (fun l => l.getD (pc x.toNat) 0) h
      have e : (cnts xs).getD (pc x.toNat) 0 = (ones xs xs.length).getD (pc x.toNat) 0 := e
      rw [cnts_at _ _ (by omega), ones_at _ _ _ (by omega), List.take_length] at e
      have hne : cnt (pc x.toNat) xs ≠ 0 := by
        intro e0
        unfold cnt at e0
        rw [List.countP_eq_zero] at e0
        exact e0 x hmem (by simp)
      rw [if_neg hne] at e
      omega
    have h1 := hm 0 h0
    unfold cnt at h1
    rw [List.countP_eq_length] at h1
    have := h1 (xs.getD j 0) (by rw [List.getD, List.getElem?_eq_getElem hj]; exact List.getElem_mem hj)
    rwa [beq_iff_eq] at this
  · intro h
    unfold cnts ones
    rw [List.take_length]
    apply List.map_congr_left
    intro s _
    by_cases e : cnt s xs = 0
    · rw [if_pos e, e]; rfl
    · rw [if_neg e]
      have : cnt s xs = xs.length := by
        unfold cnt at e ⊢
        rw [List.countP_eq_length]
        obtain ⟨x, hx, hs⟩ := List.countP_pos_iff.1 (Nat.pos_of_ne_zero e)
        rw [beq_iff_eq] at hs
        intro y hy
        rw [beq_iff_eq, even_at h y hy, ← even_at h x hx, hs]
      rw [this]

/-- The points of a list's sets. -/
def orN (xs : List Int) : Nat := xs.foldl (fun a x => a ||| x.toNat) 0
theorem orN_take (L : List Int) (j : Nat) (h : j < L.length) : orN (L.take (j + 1)) = orN (L.take j) ||| (L.getD j 0).toNat := by
  rw [take_nx L j h]; unfold orN; rw [List.foldl_append]; rfl
theorem orN_lt (xs : List Int) (h : allOk xs = true) : orN xs < 64 := by
  have h1 : ∀ (xs : List Int) (a : Nat), a < 64 → allOk xs = true → xs.foldl (fun a x => a ||| x.toNat) a < 64 := by
    intro xs
    induction xs with
    | nil => intro a ha _; exact ha
    | cons x xs ih =>
      intro a ha h
      unfold allOk at h ih
      rw [List.all_cons, Bool.and_eq_true] at h
      obtain ⟨s, rfl, hs⟩ : ∃ s : Nat, x = (s : Int) ∧ s < 64 := by
        have := (okZ_iff x).1 h.1
        exact ⟨x.toNat, by omega, by omega⟩
      exact ih _ (or_lt _ _ ha hs) h.2
  exact h1 xs 0 (by omega) h
theorem allOk_take (xs : List Int) (k : Nat) (h : allOk xs = true) : allOk (xs.take k) = true := by
  unfold allOk at *
  rw [List.all_eq_true] at *
  intro x hx
  exact h x (List.mem_of_mem_take hx)
/-- UsedPoints. -/
def used (n : Int) (xs : List Int) : Int := if isC n xs = true then (orN xs : Int) else 0

/-- IsSimplex. -/
def simplexB (n : Int) (xs : List Int) : Bool := isC n xs && xs.length == 1

/-- DegreeOf. -/
def degN (xs : List Int) (s : Nat) : Nat := xs.countP fun f => sub s f.toNat
def deg (n : Int) (xs : List Int) (s : Int) : Int := if (isC n xs && okZ s) = true then (degN xs s.toNat : Int) else -1
theorem degN_take (xs : List Int) (s j : Nat) (h : j < xs.length) : degN (xs.take (j + 1)) s = degN (xs.take j) s + if sub s (xs.getD j 0).toNat = true then 1 else 0 := by
  rw [take_nx xs j h]
  unfold degN
  rw [List.countP_append]
  generalize xs.getD j 0 = x
  by_cases h : sub s x.toNat = true <;> simp [h]
theorem degN_le (xs : List Int) (s : Nat) : degN xs s ≤ xs.length := List.countP_le_length

/-! ### faces of complexes -/

theorem faces_at (n : Int) (xs : List Int) (j : Nat) (h : j < (faces n xs).length) : ∃ s : Nat, (faces n xs).getD j 0 = (s : Int) ∧ s < 64 := by
  unfold faces at h ⊢
  split at h
  · rw [if_pos (by assumption)]
    obtain ⟨s, h1, h2, _⟩ := ord_at _ j h
    exact ⟨s, h1, h2⟩
  · simp at h
theorem faces_nil (n : Int) : faces n [] = [] := by
  unfold faces; split
  · exact (ord_congr fun s _ => rfl).trans ord_false
  · rfl
theorem faces_top {n : Int} {xs : List Int} (h : isC n xs = true) (h0 : 0 < xs.length) : (top (faces n xs) : Int) = dimZ n xs + 2 := by
  rw [dimZ_yes h h0]
  obtain ⟨t, ht, ht64⟩ := isC_at h (xs.length - 1) (by omega)
  have hF : faces n xs = ord (inF xs) := by unfold faces; rw [if_pos h]
  rw [ht, hF]
  have hl : ∀ x, x ∈ xs → pc x.toNat ≤ pc t := by
    intro x hx
    obtain ⟨i, hi, rfl⟩ := List.mem_iff_getElem.1 hx
    have hr := isC_rises h
    unfold Rises at hr
    have el : xs[xs.length - 1]'(by omega) = (t : Int) := by
      rw [List.getD, List.getElem?_eq_getElem (by omega)] at ht; exact ht
    by_cases e : i = xs.length - 1
    · subst e; rw [el]; exact Nat.le_refl _
    · have hb := List.pairwise_iff_getElem.1 hr i (xs.length - 1) hi (by omega) (by omega)
      rw [el, befZ_iff] at hb
      have := (befN_iff _ _).1 hb.2.2
      have e2 : (t : Int).toNat = t := rfl
      rw [e2] at this
      omega
  have h1 : top (ord (inF xs)) ≤ pc t + 1 := by
    apply top_le_of
    intro x hx
    obtain ⟨s, rfl, hs, hin⟩ := (mem_ord _ _).1 hx
    unfold inF at hin
    obtain ⟨f, hf, hsub⟩ := List.any_eq_true.1 hin
    obtain ⟨u, rfl, hu⟩ := okZ_cast f (setB_ok (isC_set h f hf))
    have h3 := hl _ hf
    have e2 : (u : Int).toNat = u := rfl
    rw [e2] at h3 hsub
    show pc s + 1 ≤ pc t + 1
    rcases sub_pc s u hs hu hsub with h4 | rfl <;> omega
  have h2 : pc t + 1 ≤ top (ord (inF xs)) := by
    apply top_ge (ord (inF xs)) (t : Int)
    refine (mem_ord _ _).2 ⟨t, rfl, ht64, ?_⟩
    unfold inF
    rw [List.any_eq_true]
    refine ⟨(t : Int), ?_, ?_⟩
    · rw [← ht, List.getD, List.getElem?_eq_getElem (by omega)]; exact List.getElem_mem _
    · show sub t t = true
      unfold sub; simp
  have e2 : (t : Int).toNat = t := rfl
  rw [e2]
  omega
theorem faces_pos {n : Int} {xs : List Int} (h : isC n xs = true) (h0 : 0 < xs.length) : 0 < (faces n xs).length := by
  have h1 := faces_top h h0
  rw [dimZ_yes h h0] at h1
  by_cases e : faces n xs = []
  · rw [e] at h1; simp [top] at h1; omega
  · exact List.length_pos_iff.2 e

end Go.Proofs.Ytmonaiojejbhkaa

/-! COUNTS OF FACES, of no program: what the law of chapter 4 says of them. -/

namespace Go.Proofs.Ytmonaiojejbhkaa
open Sets

/-- The sum of the first k. -/
def tsumK (xs : List Int) : Nat → Int
  | 0 => 0
  | k + 1 => tsumK xs k + xs.getD k 0
def sgn (k : Nat) (x : Int) : Int := if k % 2 = 1 then x else -x
theorem sgn0 (x : Int) : sgn 0 x = -x := rfl
theorem sgn1 (x : Int) : sgn 1 x = x := rfl
theorem sgn2 (x : Int) : sgn 2 x = -x := rfl
theorem sgn3 (x : Int) : sgn 3 x = x := rfl
theorem sgn4 (x : Int) : sgn 4 x = -x := rfl
theorem sgn5 (x : Int) : sgn 5 x = x := rfl
theorem sgn6 (x : Int) : sgn 6 x = -x := rfl
/-- The sum of the first k with signs, + for odd indices. -/
def ssumK (xs : List Int) : Nat → Int
  | 0 => 0
  | k + 1 => ssumK xs k + sgn k (xs.getD k 0)

theorem cnt_all (L : List Int) : cnt 0 L + cnt 1 L + cnt 2 L + cnt 3 L + cnt 4 L + cnt 5 L + cnt 6 L = L.length := by
  induction L with
  | nil => rfl
  | cons x L ih =>
    have hx : ∀ k, cnt k (x :: L) = cnt k L + if pc x.toNat = k then 1 else 0 := fun k => by
      unfold cnt; rw [List.countP_cons]
      by_cases h : pc x.toNat = k <;> simp [h]
    simp only [hx, List.length_cons]
    have h := pc_le x.toNat
    generalize pc x.toNat = p at h
    rcases (by omega : p = 0 ∨ p = 1 ∨ p = 2 ∨ p = 3 ∨ p = 4 ∨ p = 5 ∨ p = 6) with rfl | rfl | rfl | rfl | rfl | rfl | rfl <;> simp <;> omega

theorem counts_total (L : List Int) : tsumK (counts L) (counts L).length = (L.length : Int) := by
  have h := cnt_all L
  have h7 := top_le L
  have hg := ge_top L
  have hc := counts_at L
  rw [counts_length]
  generalize counts L = f at hc ⊢
  generalize top L = T at hc hg h7 ⊢
  have e : ∀ k, k < T → f.getD k 0 = (cnt k L : Int) := fun k hk => hc k hk
  rcases (by omega : T = 0 ∨ T = 1 ∨ T = 2 ∨ T = 3 ∨ T = 4 ∨ T = 5 ∨ T = 6 ∨ T = 7) with rfl | rfl | rfl | rfl | rfl | rfl | rfl | rfl
  · have g0 := hg 0 (by omega); have g1 := hg 1 (by omega); have g2 := hg 2 (by omega); have g3 := hg 3 (by omega); have g4 := hg 4 (by omega); have g5 := hg 5 (by omega); have g6 := hg 6 (by omega)
    simp only [tsumK]; omega
  · have g1 := hg 1 (by omega); have g2 := hg 2 (by omega); have g3 := hg 3 (by omega); have g4 := hg 4 (by omega); have g5 := hg 5 (by omega); have g6 := hg 6 (by omega)
    simp only [tsumK, e 0 (by omega)]; omega
  · have g2 := hg 2 (by omega); have g3 := hg 3 (by omega); have g4 := hg 4 (by omega); have g5 := hg 5 (by omega); have g6 := hg 6 (by omega)
    simp only [tsumK, e 0 (by omega), e 1 (by omega)]; omega
  · have g3 := hg 3 (by omega); have g4 := hg 4 (by omega); have g5 := hg 5 (by omega); have g6 := hg 6 (by omega)
    simp only [tsumK, e 0 (by omega), e 1 (by omega), e 2 (by omega)]; omega
  · have g4 := hg 4 (by omega); have g5 := hg 5 (by omega); have g6 := hg 6 (by omega)
    simp only [tsumK, e 0 (by omega), e 1 (by omega), e 2 (by omega), e 3 (by omega)]; omega
  · have g5 := hg 5 (by omega); have g6 := hg 6 (by omega)
    simp only [tsumK, e 0 (by omega), e 1 (by omega), e 2 (by omega), e 3 (by omega), e 4 (by omega)]; omega
  · have g6 := hg 6 (by omega)
    simp only [tsumK, e 0 (by omega), e 1 (by omega), e 2 (by omega), e 3 (by omega), e 4 (by omega), e 5 (by omega)]; omega
  · simp only [tsumK, e 0 (by omega), e 1 (by omega), e 2 (by omega), e 3 (by omega), e 4 (by omega), e 5 (by omega), e 6 (by omega)]; omega

theorem counts_signed (L : List Int) : ssumK (counts L) (counts L).length = eul L := by
  have h7 := top_le L
  have hg := ge_top L
  have hc := counts_at L
  unfold eul
  rw [counts_length]
  generalize counts L = f at hc ⊢
  generalize top L = T at hc hg h7 ⊢
  have e : ∀ k, k < T → f.getD k 0 = (cnt k L : Int) := fun k hk => hc k hk
  rcases (by omega : T = 0 ∨ T = 1 ∨ T = 2 ∨ T = 3 ∨ T = 4 ∨ T = 5 ∨ T = 6 ∨ T = 7) with rfl | rfl | rfl | rfl | rfl | rfl | rfl | rfl
  · have g0 := hg 0 (by omega); have g1 := hg 1 (by omega); have g2 := hg 2 (by omega); have g3 := hg 3 (by omega); have g4 := hg 4 (by omega); have g5 := hg 5 (by omega); have g6 := hg 6 (by omega)
    simp only [ssumK]; omega
  · have g1 := hg 1 (by omega); have g2 := hg 2 (by omega); have g3 := hg 3 (by omega); have g4 := hg 4 (by omega); have g5 := hg 5 (by omega); have g6 := hg 6 (by omega)
    simp only [ssumK, e 0 (by omega), sgn0]; omega
  · have g2 := hg 2 (by omega); have g3 := hg 3 (by omega); have g4 := hg 4 (by omega); have g5 := hg 5 (by omega); have g6 := hg 6 (by omega)
    simp only [ssumK, e 0 (by omega), e 1 (by omega), sgn0, sgn1]; omega
  · have g3 := hg 3 (by omega); have g4 := hg 4 (by omega); have g5 := hg 5 (by omega); have g6 := hg 6 (by omega)
    simp only [ssumK, e 0 (by omega), e 1 (by omega), e 2 (by omega), sgn0, sgn1, sgn2]; omega
  · have g4 := hg 4 (by omega); have g5 := hg 5 (by omega); have g6 := hg 6 (by omega)
    simp only [ssumK, e 0 (by omega), e 1 (by omega), e 2 (by omega), e 3 (by omega), sgn0, sgn1, sgn2, sgn3]; omega
  · have g5 := hg 5 (by omega); have g6 := hg 6 (by omega)
    simp only [ssumK, e 0 (by omega), e 1 (by omega), e 2 (by omega), e 3 (by omega), e 4 (by omega), sgn0, sgn1, sgn2, sgn3, sgn4]; omega
  · have g6 := hg 6 (by omega)
    simp only [ssumK, e 0 (by omega), e 1 (by omega), e 2 (by omega), e 3 (by omega), e 4 (by omega), e 5 (by omega), sgn0, sgn1, sgn2, sgn3, sgn4, sgn5]; omega
  · simp only [ssumK, e 0 (by omega), e 1 (by omega), e 2 (by omega), e 3 (by omega), e 4 (by omega), e 5 (by omega), e 6 (by omega), sgn0, sgn1, sgn2, sgn3, sgn4, sgn5, sgn6]; omega

/-! ### faces of one point are the used points -/

theorem sub_bit (t i : Nat) (ht : t < 64) (hi : i < 6) : sub (2 ^ i) t = t.testBit i := by
  have H : ∀ (t : Fin 64) (i : Fin 6), sub (2 ^ i.val) t.val = t.val.testBit i.val := by decide +kernel
  exact H ⟨t, ht⟩ ⟨i, hi⟩
theorem orN_bit (i : Nat) : ∀ (xs : List Int) (a : Nat), (xs.foldl (fun a x => a ||| x.toNat) a).testBit i = (a.testBit i || xs.any fun x => x.toNat.testBit i)
  | [], a => by simp
  | x :: xs, a => by
    rw [List.foldl_cons, orN_bit i xs, Nat.testBit_or, List.any_cons, Bool.or_assoc]
theorem inF_bit (xs : List Int) (h : allOk xs = true) (i : Nat) (hi : i < 6) : inF xs (2 ^ i) = (orN xs).testBit i := by
  unfold orN
  rw [orN_bit, Nat.zero_testBit, Bool.false_or]
  unfold inF
  rw [Bool.eq_iff_iff, List.any_eq_true, List.any_eq_true]
  unfold allOk at h
  constructor
  · rintro ⟨x, hx, e⟩
    obtain ⟨t, rfl, ht⟩ := okZ_cast x (List.all_eq_true.1 h x hx)
    exact ⟨_, hx, by show t.testBit i = true; rw [← sub_bit _ i ht hi]; exact e⟩
  · rintro ⟨x, hx, e⟩
    obtain ⟨t, rfl, ht⟩ := okZ_cast x (List.all_eq_true.1 h x hx)
    exact ⟨_, hx, by show sub (2 ^ i) t = true; rw [sub_bit _ i ht hi]; exact e⟩
theorem cnt1_ord (p : Nat → Bool) : cnt 1 (ord p) = ([1, 2, 4, 8, 16, 32] : List Int).countP fun x => p x.toNat := by
  have e : (ord fun _ => true).filter (fun x => pc x.toNat == 1) = [1, 2, 4, 8, 16, 32] := by decide +kernel
  rw [← e, List.countP_filter, ord_filter p]
  unfold cnt
  rw [List.countP_filter]
  apply List.countP_congr
  intro x _
  rw [Bool.and_comm]
theorem pc_bits (u : Nat) (h : u < 64) : pc u = ([1, 2, 4, 8, 16, 32] : List Int).countP fun x => u.testBit (pc (x.toNat - 1)) := by
  have H : ∀ u : Fin 64, pc u.val = ([1, 2, 4, 8, 16, 32] : List Int).countP fun x => u.val.testBit (pc (x.toNat - 1)) := by decide +kernel
  exact H ⟨u, h⟩
theorem cnt1_used {n : Int} {xs : List Int} (h : isC n xs = true) : cnt 1 (faces n xs) = pc (orN xs) := by
  have hok := isC_ok h
  have hF : faces n xs = ord (inF xs) := by unfold faces; rw [if_pos h]
  rw [hF, cnt1_ord, pc_bits _ (orN_lt xs hok)]
  apply List.countP_congr
  intro x hx
  have e : x.toNat = 2 ^ pc (x.toNat - 1) ∧ pc (x.toNat - 1) < 6 := by
    simp only [List.mem_cons, List.not_mem_nil, or_false] at hx
    rcases hx with rfl | rfl | rfl | rfl | rfl | rfl <;> decide
  have hb := inF_bit xs hok (pc (x.toNat - 1)) e.2
  rw [← e.1] at hb
  rw [hb]
/-- The law's last comparison. -/
theorem cnt1_size (n : Int) (xs : List Int) : (cnt 1 (faces n xs) : Int) = sizeZ (used n xs) := by
  cases h : isC n xs with
  | true =>
    have hu : used n xs = (orN xs : Int) := by unfold used; rw [if_pos h]
    rw [hu, sizeZ_nat _ (orN_lt xs (isC_ok h)), cnt1_used h]
  | false =>
    have hu : used n xs = 0 := by unfold used; rw [if_neg (by rw [h]; simp)]
    have hf : faces n xs = [] := by unfold faces; rw [if_neg (by rw [h]; simp)]
    rw [hu, hf]; rfl
/-- The law's first one. -/
theorem counts_dim (n : Int) (xs : List Int) : ((counts (faces n xs)).length : Int) = dimZ n xs + 2 := by
  rw [counts_length]
  cases h : isC n xs with
  | true =>
    by_cases h0 : 0 < xs.length
    · exact faces_top h h0
    · have : xs = [] := List.eq_nil_of_length_eq_zero (by omega)
      subst this
      rw [faces_nil, dimZ_nil]; rfl
  | false =>
    have hf : faces n xs = [] := by unfold faces; rw [if_neg (by rw [h]; simp)]
    rw [hf, dimZ_no h]; rfl
theorem dim_range (n : Int) (xs : List Int) : -2 ≤ dimZ n xs ∧ dimZ n xs ≤ 5 := by
  have h := counts_dim n xs
  rw [counts_length] at h
  have := top_le (faces n xs)
  omega

end Go.Proofs.Ytmonaiojejbhkaa
