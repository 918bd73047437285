/-
  TEXTS of one claim, put together: WCnt1, WMissS, Part2, ArrEq.
-/
import Derived.Test.YtbkkdgmiokdbmaaGreatJg10
import Derived.Test.YtbkkdgmiokdbmaaGreatJg5
import Derived.Test.YtbkkdgmiokdbmaaGreatJg11
import Derived.Test.YtbkkdgmiokdbmaaGreatJg9
import Derived.Test.YtbkkdgmiokdbmaaGreatJg3
import Derived.Laws.StructEq
/-! WALKS of chapter 4: DimOf, IsSimplex, UsedPoints, DegreeOf, by impl and by spec. -/

namespace Go.Proofs.YtbkkdgmiokdbmaaGreat
open Go.RowKit
open Sets

theorem l2Size_b (s p : Nat) (hp : pc s = p) (hs : s < 64) (w : World) : Calls Tryz.prog 59 #[.int .i64 (s : Int)] w fun e w' => e = .returned (.int .i64 (p : Int)) ∧ w = w' := by
  subst hp; exact l2Size_any s hs w

theorem implIsC_len (n : Int) (a : Option Addr) (c : Nat) (xs : List Int) (l : Nat) (hl : xs.length = l) (hcap : l ≤ c) (b : Bool) (hb : isC n xs = b) (hlen : l ≤ 1099511627776) (w : World) (h : Ints w a xs) :
    Calls Tryz.prog 35 #[cx n (.slice a l c)] w fun e w' => e = .returned (.bool b) ∧ Below w.heap.size w w' := by
  subst hl; exact implIsC_b n a c xs hcap b hb hlen w h

theorem specIsC_len (n : Int) (a : Option Addr) (c : Nat) (xs : List Int) (l : Nat) (hl : xs.length = l) (b : Bool) (hb : isC n xs = b) (hlen : l ≤ 1099511627776) (w : World) (h : Ints w a xs) :
    Calls Tryz.prog 26 #[cx n (.slice a l c)] w fun e w' => e = .returned (.bool b) ∧ Below w.heap.size w w' := by
  subst hl; exact specIsC_b n a c xs b hb hlen w h

/-! ### used points -/

theorem or_nat : ∀ a b : Nat, a < 64 → b < 64 → bits BinOp.or IntKind.i64 (a : Int) (b : Int) = ((a ||| b : Nat) : Int) := by
  refine fin64b ?_
  decide +kernel
theorem used_yes {n : Int} {xs : List Int} (h : isC n xs = true) : used n xs = (orN xs : Int) := by unfold used; rw [if_pos h]
theorem used_no {n : Int} {xs : List Int} (h : isC n xs = false) : used n xs = 0 := by unfold used; rw [if_neg (by rw [h]; simp)]

/-! ### degrees -/

theorem deg_yes {n : Int} {xs : List Int} {s : Int} (h : isC n xs = true) (k : okZ s = true) : deg n xs s = (degN xs s.toNat : Int) := by unfold deg; rw [if_pos (by rw [h, k]; rfl)]
theorem deg_no {n : Int} {xs : List Int} {s : Int} (h : isC n xs = false) : deg n xs s = -1 := by unfold deg; rw [if_neg (by rw [h]; simp)]
theorem deg_no2 {n : Int} {xs : List Int} {s : Int} (h : okZ s = false) : deg n xs s = -1 := by unfold deg; rw [if_neg (by rw [h]; simp)]

set_option maxRecDepth 100000 in
theorem l1Bit_b (b : Bool) (w : World) : Calls Tryz.prog 41 #[.bool b] w fun e w' => e = .returned (.int .i64 (if b = true then 1 else 0)) ∧ w = w' := by
  cases b <;>
  · go_enter Tryz.func41, Tryz.ntmps41
    go_wp2
    go_ret
    exact ⟨rfl, rfl⟩

end Go.Proofs.YtbkkdgmiokdbmaaGreat

/-! WALKS: spec's chapter 7: sets that are no faces. -/

namespace Go.Proofs.YtbkkdgmiokdbmaaGreat
open Go.RowKit
open Sets

end Go.Proofs.YtbkkdgmiokdbmaaGreat

/-! PARTS OF COMPLEXES, of no program: the lists out of which the model makes them. -/

namespace Go.Proofs.YtbkkdgmiokdbmaaGreat
open Sets

theorem tk_next (L : List Int) (k : Nat) (h : k < L.length) : L.take (k + 1) = L.take k ++ [L.getD k 0] := by
  rw [List.take_add_one, List.getD, List.getElem?_eq_getElem h]; rfl
/-- Those of the first k that meet p. -/
def keepL (p : Int → Bool) (L : List Int) (k : Nat) : List Int := (L.take k).filter p
theorem keepL_hit (p : Int → Bool) (L : List Int) (k : Nat) (h : k < L.length) (e : p (L.getD k 0) = true) : keepL p L (k + 1) = keepL p L k ++ [L.getD k 0] := by
  unfold keepL; rw [tk_next L k h, List.filter_append]; generalize L.getD k 0 = x at e ⊢; simp [e]
theorem keepL_miss (p : Int → Bool) (L : List Int) (k : Nat) (h : k < L.length) (e : p (L.getD k 0) = false) : keepL p L (k + 1) = keepL p L k := by
  unfold keepL; rw [tk_next L k h, List.filter_append]; generalize L.getD k 0 = x at e ⊢; simp [e]
theorem keepL_le (p : Int → Bool) (L : List Int) (k : Nat) : (keepL p L k).length ≤ k := by
  unfold keepL
  refine Nat.le_trans (List.length_filter_le _ _) ?_
  rw [List.length_take]; omega
theorem keepL_all (p : Int → Bool) (L : List Int) : keepL p L L.length = L.filter p := by unfold keepL; rw [List.take_length]
theorem filter_ok {L : List Int} (p : Int → Bool) (h : allOk L = true) : allOk (L.filter p) = true := by
  unfold allOk at *
  rw [List.all_eq_true] at *
  exact fun x hx => h x (List.mem_filter.1 hx).1

/-- The first k, each turned by f. -/
def mapL (f : Int → Int) (L : List Int) (k : Nat) : List Int := (L.take k).map f
theorem mapL_next (f : Int → Int) (L : List Int) (k : Nat) (h : k < L.length) : mapL f L (k + 1) = mapL f L k ++ [f (L.getD k 0)] := by
  unfold mapL; rw [tk_next L k h, List.map_append]; rfl
theorem mapL_le (f : Int → Int) (L : List Int) (k : Nat) : (mapL f L k).length ≤ k := by
  unfold mapL; rw [List.length_map, List.length_take]; omega
theorem mapL_all (f : Int → Int) (L : List Int) : mapL f L L.length = L.map f := by unfold mapL; rw [List.take_length]

/-! ### link -/

def linkL (s : Nat) (L : List Int) (k : Nat) : List Int := (keepL (fun f => sub s f.toNat) L k).map fun f => f - (s : Int)
theorem linkL_hit (s : Nat) (L : List Int) (k : Nat) (h : k < L.length) (e : sub s (L.getD k 0).toNat = true) : linkL s L (k + 1) = linkL s L k ++ [L.getD k 0 - (s : Int)] := by
  unfold linkL; rw [keepL_hit _ L k h e, List.map_append]; rfl
theorem linkL_miss (s : Nat) (L : List Int) (k : Nat) (h : k < L.length) (e : sub s (L.getD k 0).toNat = false) : linkL s L (k + 1) = linkL s L k := by
  unfold linkL; rw [keepL_miss _ L k h e]
theorem linkL_le (s : Nat) (L : List Int) (k : Nat) : (linkL s L k).length ≤ k := by
  unfold linkL; rw [List.length_map]; exact keepL_le _ _ _
theorem mem_linkL (s : Nat) (hs : s < 64) (L : List Int) (h : allOk L = true) (x : Int) : x ∈ linkL s L L.length ↔ ∃ f : Nat, (f : Int) ∈ L ∧ f < 64 ∧ sub s f = true ∧ x = ((f ^^^ s : Nat) : Int) := by
  unfold linkL
  rw [keepL_all, List.mem_map]
  constructor
  · rintro ⟨y, hy, rfl⟩
    rw [List.mem_filter] at hy
    obtain ⟨f, rfl, hf⟩ := ok_nat h hy.1
    have e : sub s f = true := hy.2
    have := sub_le e
    exact ⟨f, hy.1, hf, e, by rw [← take_away f s hf hs e]; omega⟩
  · rintro ⟨f, hf, hf64, e, rfl⟩
    have := sub_le e
    exact ⟨(f : Int), List.mem_filter.2 ⟨hf, e⟩, by rw [← take_away f s hf64 hs e]; omega⟩
theorem linkL_ok (s : Nat) (hs : s < 64) (L : List Int) (h : allOk L = true) : allOk (linkL s L L.length) = true := by
  unfold allOk
  rw [List.all_eq_true]
  intro x hx
  obtain ⟨f, _, hf, e, rfl⟩ := (mem_linkL s hs L h x).1 hx
  rw [← take_away f s hf hs e]
  exact (okZ_nat _).2 (by omega)
theorem linkL_inF (s : Nat) (hs : s < 64) (L : List Int) (h : allOk L = true) (t : Nat) : inF (linkL s L L.length) t = linkQ L s t := by
  unfold linkQ
  rw [Bool.eq_iff_iff, Bool.and_eq_true, inF_iff, inF_iff]
  constructor
  · rintro ⟨x, hx, e⟩
    obtain ⟨f, hf, hf64, k, rfl⟩ := (mem_linkL s hs L h x).1 hx
    have e : sub t (f ^^^ s) = true := e
    rw [sub_xor t f s k, Bool.and_eq_true] at e
    exact ⟨e.1, (f : Int), hf, by show sub (t ||| s) f = true; rw [sub_or, e.2, k]; rfl⟩
  · rintro ⟨ha, x, hx, e⟩
    obtain ⟨f, rfl, hf⟩ := ok_nat h hx
    have e : sub (t ||| s) f = true := e
    rw [sub_or, Bool.and_eq_true] at e
    exact ⟨_, (mem_linkL s hs L h _).2 ⟨f, hx, hf, e.2, rfl⟩, by show sub t (f ^^^ s) = true; rw [sub_xor t f s e.2, ha, e.1]; rfl⟩
theorem link_spec (s : Nat) (hs : s < 64) (L : List Int) (h : allOk L = true) : maximal (linkL s L L.length) = maxQ (linkQ L s) := by
  rw [maximal_maxQ _ (linkL_ok s hs L h)]
  exact maxQ_congr fun t _ => linkL_inF s hs L h t

/-! ### star -/

theorem star_spec (s : Nat) (L : List Int) (h : allOk L = true) : maximal (keepL (fun f => sub s f.toNat) L L.length) = maxQ (starQ L s) := by
  rw [keepL_all, maximal_maxQ _ (filter_ok _ h)]
  refine maxQ_congr fun t _ => ?_
  unfold starQ
  rw [Bool.eq_iff_iff, inF_iff, inF_iff]
  constructor
  · rintro ⟨x, hx, e⟩
    rw [List.mem_filter] at hx
    exact ⟨x, hx.1, by rw [sub_or, e, hx.2]; rfl⟩
  · rintro ⟨x, hx, e⟩
    rw [sub_or, Bool.and_eq_true] at e
    exact ⟨x, List.mem_filter.2 ⟨hx, e.2⟩, e.1⟩

/-! ### families of faces -/

/-- The greatest of those faces that meet a predicate. -/
theorem keep_spec (n : Int) (xs : List Int) (hc : isC n xs = true) (p : Nat → Bool) (hd : Down fun t => inF xs t && p t) :
    maximal (keepL (fun f => p f.toNat) (faces n xs) (faces n xs).length) = maxQ fun t => inF xs t && p t := by
  have hf : faces n xs = ord (inF xs) := by unfold faces; rw [if_pos hc]
  rw [keepL_all, hf]
  have e : (ord (inF xs)).filter (fun f => p f.toNat) = ord fun t => inF xs t && p t := by
    rw [ord_filter (inF xs), List.filter_filter, ord_filter fun t => inF xs t && p t]
    apply List.filter_congr
    intro x _
    rw [Bool.and_comm]
  rw [e]
  exact maximal_ord _ hd
theorem del_spec (n : Int) (xs : List Int) (hc : isC n xs = true) (s : Nat) : maximal (keepL (fun f => !sub s f.toNat) (faces n xs) (faces n xs).length) = maxQ (delQ xs s) :=
  keep_spec n xs hc (fun t => !sub s t) (delQ_down xs s)
theorem skel_spec (n : Int) (xs : List Int) (hc : isC n xs = true) (k : Int) : maximal (keepL (fun f => decide ((pc f.toNat : Int) ≤ k)) (faces n xs) (faces n xs).length) = maxQ (skelQ xs k) :=
  keep_spec n xs hc (fun t => decide ((pc t : Int) ≤ k)) (skelQ_down xs k)

/-! ### induced -/

def meetZ (s : Nat) (f : Int) : Int := ((f.toNat &&& s : Nat) : Int)
theorem map_ok {L : List Int} (s : Nat) (h : allOk L = true) : allOk (L.map (meetZ s)) = true := by
  unfold allOk
  rw [List.all_eq_true]
  intro x hx
  obtain ⟨y, hy, rfl⟩ := List.mem_map.1 hx
  obtain ⟨f, rfl, hf⟩ := ok_nat h hy
  exact (okZ_nat _).2 (Nat.lt_of_le_of_lt Nat.and_le_left hf)
theorem ind_spec (s : Nat) (L : List Int) (h : allOk L = true) : maximal (mapL (meetZ s) L L.length) = maxQ (indQ L s) := by
  rw [mapL_all, maximal_maxQ _ (map_ok s h)]
  refine maxQ_congr fun t _ => ?_
  unfold indQ
  rw [Bool.eq_iff_iff, Bool.and_eq_true, inF_iff, inF_iff]
  constructor
  · rintro ⟨x, hx, e⟩
    obtain ⟨y, hy, rfl⟩ := List.mem_map.1 hx
    have e : sub t (y.toNat &&& s) = true := e
    rw [sub_and, Bool.and_eq_true] at e
    exact ⟨⟨y, hy, e.1⟩, e.2⟩
  · rintro ⟨⟨y, hy, e⟩, k⟩
    exact ⟨_, List.mem_map.2 ⟨y, hy, rfl⟩, by show sub t (y.toNat &&& s) = true; rw [sub_and, e, k]; rfl⟩

/-! ### union and meet -/

theorem app_ok {xs ys : List Int} (hx : allOk xs = true) (hy : allOk ys = true) : allOk (xs ++ ys) = true := by
  unfold allOk at *; rw [List.all_append, hx, hy]; rfl
theorem union_spec (xs ys : List Int) (hx : allOk xs = true) (hy : allOk ys = true) : maximal (xs ++ ys) = maxQ (orQ xs ys) := by
  rw [maximal_maxQ _ (app_ok hx hy)]
  refine maxQ_congr fun t _ => ?_
  unfold orQ inF
  rw [List.any_append]
/-- The meets of the first i with all, and of the next with the first k. -/
def meetL (xs ys : List Int) (i k : Nat) : List Int := (xs.take i).flatMap (fun f => ys.map (meetZ f.toNat)) ++ mapL (meetZ (xs.getD i 0).toNat) ys k
theorem meetL_start (xs ys : List Int) : meetL xs ys 0 0 = [] := rfl
theorem meetL_next (xs ys : List Int) (i k : Nat) (h : k < ys.length) : meetL xs ys i (k + 1) = meetL xs ys i k ++ [meetZ (xs.getD i 0).toNat (ys.getD k 0)] := by
  unfold meetL; rw [mapL_next _ _ _ h, List.append_assoc]
theorem meetL_line (xs ys : List Int) (i : Nat) (h : i < xs.length) : meetL xs ys i ys.length = meetL xs ys (i + 1) 0 := by
  unfold meetL
  rw [mapL_all, tk_next xs i h, List.flatMap_append]
  simp [mapL]
theorem meetL_le (xs ys : List Int) (i k : Nat) : (meetL xs ys i k).length ≤ xs.length * ys.length + ys.length := by
  unfold meetL
  rw [List.length_append]
  have h1 : ((xs.take i).flatMap fun f => ys.map (meetZ f.toNat)).length = (xs.take i).length * ys.length := by
    generalize xs.take i = L
    induction L with
    | nil => simp
    | cons x L ih => rw [List.flatMap_cons, List.length_append, List.length_map, ih, List.length_cons, Nat.succ_mul, Nat.add_comm]
  have h2 : (mapL (meetZ (xs.getD i 0).toNat) ys k).length ≤ ys.length := by
    unfold mapL; rw [List.length_map, List.length_take]; omega
  have h3 : (xs.take i).length ≤ xs.length := by rw [List.length_take]; omega
  have := Nat.mul_le_mul_right ys.length h3
  omega
theorem mem_meetL (xs ys : List Int) (x : Int) : x ∈ meetL xs ys xs.length 0 ↔ ∃ f g : Int, f ∈ xs ∧ g ∈ ys ∧ x = meetZ f.toNat g := by
  unfold meetL
  rw [List.take_length]
  have e : mapL (meetZ (xs.getD xs.length 0).toNat) ys 0 = [] := rfl
  rw [e, List.append_nil, List.mem_flatMap]
  constructor
  · rintro ⟨f, hf, hx⟩
    obtain ⟨g, hg, rfl⟩ := List.mem_map.1 hx
    exact ⟨f, g, hf, hg, rfl⟩
  · rintro ⟨f, g, hf, hg, rfl⟩
    exact ⟨f, hf, List.mem_map.2 ⟨g, hg, rfl⟩⟩
theorem meetL_ok (xs ys : List Int) (hy : allOk ys = true) : allOk (meetL xs ys xs.length 0) = true := by
  unfold allOk
  rw [List.all_eq_true]
  intro x hx
  obtain ⟨f, g, _, hg, rfl⟩ := (mem_meetL xs ys x).1 hx
  obtain ⟨b, rfl, hb⟩ := ok_nat hy hg
  exact (okZ_nat _).2 (Nat.lt_of_le_of_lt Nat.and_le_left hb)
theorem meet_spec (xs ys : List Int) (hy : allOk ys = true) : maximal (meetL xs ys xs.length 0) = maxQ (andQ xs ys) := by
  rw [maximal_maxQ _ (meetL_ok xs ys hy)]
  refine maxQ_congr fun t _ => ?_
  unfold andQ
  rw [Bool.eq_iff_iff, Bool.and_eq_true, inF_iff, inF_iff, inF_iff]
  constructor
  · rintro ⟨x, hx, e⟩
    obtain ⟨f, g, hf, hg, rfl⟩ := (mem_meetL xs ys x).1 hx
    have e : sub t (g.toNat &&& f.toNat) = true := e
    rw [sub_and, Bool.and_eq_true] at e
    exact ⟨⟨f, hf, e.2⟩, g, hg, e.1⟩
  · rintro ⟨⟨f, hf, e1⟩, g, hg, e2⟩
    exact ⟨_, (mem_meetL xs ys _).2 ⟨f, g, hf, hg, rfl⟩, by show sub t (g.toNat &&& f.toNat) = true; rw [sub_and, e1, e2]; rfl⟩

end Go.Proofs.YtbkkdgmiokdbmaaGreat

/-! ARRAYS OF NUMBERS, compared: equal exactly if the lists are. -/

namespace Go.Proofs.YtbkkdgmiokdbmaaGreat
open Go

/-- The cells of a list of numbers. -/
def icells (xs : List Int) : List Value := xs.map fun x => Value.int .i64 x
theorem icells_length (xs : List Int) : (icells xs).length = xs.length := List.length_map _
theorem icells_at (xs : List Int) (i : Nat) (h : i < xs.length) : (icells xs)[i]? = some (.int .i64 (xs.getD i 0)) := by
  unfold icells; rw [List.getElem?_map, List.getElem?_eq_getElem h, List.getD, List.getElem?_eq_getElem h]; rfl

theorem ints_range_eq : ∀ (xs ys : List Int), xs.length = ys.length → ((List.range xs.length).all fun i => xs.getD i 0 == ys.getD i 0) = (xs == ys)
  | [], [], _ => rfl
  | x :: xs, y :: ys, h => by
    have ih := ints_range_eq xs ys (by simpa using h)
    rw [List.length_cons, List.range_succ_eq_map, List.all_cons, List.all_map]
    simp only [List.getD_cons_zero, Function.comp_def, List.getD_cons_succ, ih]
    simp [List.cons_beq_cons]
  | [], _ :: _, h => by simp at h
  | _ :: _, [], h => by simp at h

theorem equalIn_ints {P : Program} (w : World) (d : Nat) (t e : TypeId) (n : Nat) (ht : P.underlying t = some (.array n e)) (he : P.underlying e = some (.int .i64)) (hsz : ∀ w, (sizeOf e).run P w = .ok 1 w)
    (xs ys : List Int) (hx : xs.length = n) (hy : ys.length = n) :
    (Op.equalIn (d + 2) t (.agg (icells xs).toArray) (.agg (icells ys).toArray)).run P w = .ok (xs == ys) w := by
  rw [← ints_range_eq xs ys (hx.trans hy.symm), hx, List.range_eq_range', Op.equalIn]
  simp only [Sem.run_bind, run_underlying ht, Result.andThen_ok, hsz, Std.Legacy.Range.forIn_eq_forIn_range', Std.Legacy.Range.size, Nat.sub_zero, Nat.add_sub_cancel, Nat.div_one]
  have hl : ∀ i ∈ List.range' 0 n 1, i < n := fun i hi => by simpa using (List.mem_range'_1.1 hi).2
  generalize List.range' 0 n 1 = l at hl ⊢
  induction l with
  | nil => simp
  | cons i l ih =>
    have hi : i < n := hl i (by simp)
    have px : (part e (icells xs).toArray (i * 1)).run P w = .ok (.int .i64 (xs.getD i 0)) w := by
      simp [part, isAgg, run_underlying he, icells_at xs i (by omega)]
    have py : (part e (icells ys).toArray (i * 1)).run P w = .ok (.int .i64 (ys.getD i 0)) w := by
      simp [part, isAgg, run_underlying he, icells_at ys i (by omega)]
    have pe : (Op.equalIn (d + 1) e (.int .i64 (xs.getD i 0)) (.int .i64 (ys.getD i 0))).run P w = .ok (xs.getD i 0 == ys.getD i 0) w :=
      run_equalIn_int w d e .i64 .i64 _ _ he
    simp only [List.forIn_cons, Sem.run_bind, px, py, pe, Result.andThen_ok, List.all_cons]
    cases hb : (xs.getD i 0 == ys.getD i 0)
    · simp
    · simp only [Bool.not_true, Bool.false_eq_true, if_false, Sem.run_pure, Result.andThen_ok, Bool.true_and]
      exact ih fun j hj => hl j (by simp [hj])

end Go.Proofs.YtbkkdgmiokdbmaaGreat
