/-
  TEXTS of one claim, put together: Sh4, Part2, WPartS, WPartM.
-/
import Derived.Test.YtmonaiojejbhkaaSh3
import Derived.Test.YtmonaiojejbhkaaJg2
import Derived.Test.YtmonaiojejbhkaaJg8
import Derived.Laws.AppendOwnNone
import Derived.StillTactics
import Derived.Deep.RegionHeld3
import Derived.Deep.AppendLies
/-! SHELLABLE, of no program: an order of all facets that is a shelling; the facets in ascending order. -/

namespace Go.Proofs.Ytmonaiojejbhkaa.Sh
open Sets Hn Kk

/-- There is a shelling of these facets. -/
def Shell (F : List Int) : Prop := ∃ L : List Int, L.length = F.length ∧ L.Nodup ∧ (∀ x, x ∈ L → x ∈ F) ∧ shellB L = true

theorem nodup_le : ∀ (A B : List Int), A.Nodup → (∀ x, x ∈ A → x ∈ B) → A.length ≤ B.length
  | [], B, _, _ => Nat.zero_le _
  | a :: A, B, hn, h => by
    rw [List.nodup_cons] at hn
    have ha : a ∈ B := h a (by simp)
    have h2 := nodup_le A (B.erase a) hn.2 (fun x hx => (List.mem_erase_of_ne (fun e => hn.1 (by rw [← e]; exact hx))).2 (h x (List.mem_cons_of_mem _ hx)))
    rw [List.length_erase_of_mem ha] at h2
    have : 0 < B.length := List.length_pos_of_mem ha
    rw [List.length_cons]; omega
theorem shell_all {F L : List Int} (h1 : L.length = F.length) (h2 : L.Nodup) (h3 : ∀ x, x ∈ L → x ∈ F) (x : Int) (hx : x ∈ F) : x ∈ L := by
  apply Classical.byContradiction
  intro hn
  have := nodup_le (x :: L) F (List.nodup_cons.2 ⟨hn, h2⟩) (fun y hy => by
    rcases List.mem_cons.1 hy with rfl | hy
    · exact hx
    · exact h3 y hy)
  rw [List.length_cons] at this; omega

/-- The sets of a family below s, in ascending order. -/
def upTo (xs : List Int) (s : Nat) : List Int := ((List.range s).filter fun (t : Nat) => xs.contains (t : Int)).map fun (t : Nat) => (t : Int)
theorem upTo_zero (xs : List Int) : upTo xs 0 = [] := rfl
theorem upTo_hit {xs : List Int} {s : Nat} (h : xs.contains (s : Int) = true) : upTo xs (s + 1) = upTo xs s ++ [(s : Int)] := by
  unfold upTo
  rw [List.range_succ, List.filter_append, List.map_append]
  simp only [List.filter_cons, List.filter_nil, h, if_true, List.map_cons, List.map_nil]
theorem upTo_miss {xs : List Int} {s : Nat} (h : xs.contains (s : Int) = false) : upTo xs (s + 1) = upTo xs s := by
  unfold upTo
  rw [List.range_succ, List.filter_append, List.map_append]
  simp only [List.filter_cons, List.filter_nil, h]
  simp
theorem upTo_le (xs : List Int) (s : Nat) : (upTo xs s).length ≤ s := by
  unfold upTo
  rw [List.length_map]
  exact Nat.le_trans (List.length_filter_le _ _) (by rw [List.length_range]; exact Nat.le_refl _)
theorem upTo_mem {xs : List Int} {s : Nat} {x : Int} (h : x ∈ upTo xs s) : x ∈ xs ∧ ∃ t : Nat, t < s ∧ x = (t : Int) := by
  unfold upTo at h
  obtain ⟨t, ht, rfl⟩ := List.mem_map.1 h
  rw [List.mem_filter, List.mem_range, List.contains_iff_mem] at ht
  exact ⟨ht.2, t, ht.1, rfl⟩
theorem upTo_in {xs : List Int} {t : Nat} (ht : t < 64) (h : (t : Int) ∈ xs) : (t : Int) ∈ upTo xs 64 := by
  unfold upTo
  exact List.mem_map.2 ⟨t, by rw [List.mem_filter, List.mem_range, List.contains_iff_mem]; exact ⟨ht, h⟩, rfl⟩
theorem upTo_nodup (xs : List Int) (s : Nat) : (upTo xs s).Nodup := by
  unfold upTo
  rw [List.Nodup, List.pairwise_map]
  exact List.Pairwise.imp (fun h e => h (Int.ofNat.inj e)) (List.nodup_range.filter _)
theorem upTo_few {xs : List Int} (h8 : xs.length ≤ 8) : (upTo xs 64).length ≤ 8 := Nat.le_trans (nodup_le _ xs (upTo_nodup xs 64) (fun _ hx => (upTo_mem hx).1)) h8

/-- The promise: the h numbers of a shellable complex are possible counts of monomials. -/
theorem shellable_mono {n : Int} {xs : List Int} (hC : isC n xs = true) (h0 : 0 < xs.length) (hev : evenB xs = true) (h8 : xs.length ≤ 8) (hS : Shell (upTo xs 64)) : monoB (hnum n xs) = true := by
  obtain ⟨L, h1, h2, h3, h4⟩ := hS
  refine shell_mono hC h0 hev (fun x => ⟨fun h => (upTo_mem (h3 x h)).1, fun h => ?_⟩) (by rw [h1]; exact upTo_few h8) h4
  refine shell_all h1 h2 h3 x ?_
  obtain ⟨j, hj, rfl⟩ := List.getElem_of_mem h
  obtain ⟨t, e, ht⟩ := isC_at hC j hj
  rw [List.getD, List.getElem?_eq_getElem hj] at e
  have e : xs[j] = (t : Int) := e
  rw [e] at h ⊢
  exact upTo_in ht h

end Go.Proofs.Ytmonaiojejbhkaa.Sh

/-! PARTS OF COMPLEXES, of no program: the lists out of which the model makes them. -/

namespace Go.Proofs.Ytmonaiojejbhkaa
open Sets

theorem tk_next (L : List Int) (k : Nat) (h : k < L.length) : L.take (k + 1) = L.take k ++ [L.getD k 0] := by
  rw [List.take_add_one, List.getD, List.getElem?_eq_getElem h]; rfl
/-- Those of the first k that meet p. -/
def keepL (p : Int → Bool) (L : List Int) (k : Nat) : List Int := (L.take k).filter p
theorem keepL_hit (p : Int → Bool) (L : List Int) (k : Nat) (h : k < L.length) (e : p (L.getD k 0) = true) : keepL p L (k + 1) = keepL p L k ++ [L.getD k 0] := by
  unfold keepL; rw [tk_next L k h, List.filter_append]; generalize L.getD k 0 = x at e ⊢; simp [e]
theorem keepL_miss (p : Int → Bool) (L : List Int) (k : Nat) (h : k < L.length) (e : p (L.getD k 0) = false) : keepL p L (k + 1) = keepL p L k := by
  unfold keepL; rw [tk_next L k h, List.filter_append]; generalize L.getD k 0 = x at e ⊢; simp [e]
theorem keepL_le (p : Int → Bool) (L : List Int) (k : Nat) : (keepL p L k).length ≤ k := by
  unfold keepL
  refine Nat.le_trans (List.length_filter_le _ _) ?_
  rw [List.length_take]; omega
theorem keepL_all (p : Int → Bool) (L : List Int) : keepL p L L.length = L.filter p := by unfold keepL; rw [List.take_length]
theorem filter_ok {L : List Int} (p : Int → Bool) (h : allOk L = true) : allOk (L.filter p) = true := by
  unfold allOk at *
  rw [List.all_eq_true] at *
  exact fun x hx => h x (List.mem_filter.1 hx).1

/-- The first k, each turned by f. -/
def mapL (f : Int → Int) (L : List Int) (k : Nat) : List Int := (L.take k).map f
theorem mapL_next (f : Int → Int) (L : List Int) (k : Nat) (h : k < L.length) : mapL f L (k + 1) = mapL f L k ++ [f (L.getD k 0)] := by
  unfold mapL; rw [tk_next L k h, List.map_append]; rfl
theorem mapL_le (f : Int → Int) (L : List Int) (k : Nat) : (mapL f L k).length ≤ k := by
  unfold mapL; rw [List.length_map, List.length_take]; omega
theorem mapL_all (f : Int → Int) (L : List Int) : mapL f L L.length = L.map f := by unfold mapL; rw [List.take_length]

/-! ### link -/

def linkL (s : Nat) (L : List Int) (k : Nat) : List Int := (keepL (fun f => sub s f.toNat) L k).map fun f => f - (s : Int)
theorem linkL_hit (s : Nat) (L : List Int) (k : Nat) (h : k < L.length) (e : sub s (L.getD k 0).toNat = true) : linkL s L (k + 1) = linkL s L k ++ [L.getD k 0 - (s : Int)] := by
  unfold linkL; rw [keepL_hit _ L k h e, List.map_append]; rfl
theorem linkL_miss (s : Nat) (L : List Int) (k : Nat) (h : k < L.length) (e : sub s (L.getD k 0).toNat = false) : linkL s L (k + 1) = linkL s L k := by
  unfold linkL; rw [keepL_miss _ L k h e]
theorem linkL_le (s : Nat) (L : List Int) (k : Nat) : (linkL s L k).length ≤ k := by
  unfold linkL; rw [List.length_map]; exact keepL_le _ _ _
theorem mem_linkL (s : Nat) (hs : s < 64) (L : List Int) (h : allOk L = true) (x : Int) : x ∈ linkL s L L.length ↔ ∃ f : Nat, (f : Int) ∈ L ∧ f < 64 ∧ sub s f = true ∧ x = ((f ^^^ s : Nat) : Int) := by
  unfold linkL
  rw [keepL_all, List.mem_map]
  constructor
  · rintro ⟨y, hy, rfl⟩
    rw [List.mem_filter] at hy
    obtain ⟨f, rfl, hf⟩ := ok_nat h hy.1
    have e : sub s f = true := hy.2
    have := sub_le e
    exact ⟨f, hy.1, hf, e, by rw [← take_away f s hf hs e]; omega⟩
  · rintro ⟨f, hf, hf64, e, rfl⟩
    have := sub_le e
    exact ⟨(f : Int), List.mem_filter.2 ⟨hf, e⟩, by rw [← take_away f s hf64 hs e]; omega⟩
theorem linkL_ok (s : Nat) (hs : s < 64) (L : List Int) (h : allOk L = true) : allOk (linkL s L L.length) = true := by
  unfold allOk
  rw [List.all_eq_true]
  intro x hx
  obtain ⟨f, _, hf, e, rfl⟩ := (mem_linkL s hs L h x).1 hx
  rw [← take_away f s hf hs e]
  exact (okZ_nat _).2 (by omega)
theorem linkL_inF (s : Nat) (hs : s < 64) (L : List Int) (h : allOk L = true) (t : Nat) : inF (linkL s L L.length) t = linkQ L s t := by
  unfold linkQ
  rw [Bool.eq_iff_iff, Bool.and_eq_true, inF_iff, inF_iff]
  constructor
  · rintro ⟨x, hx, e⟩
    obtain ⟨f, hf, hf64, k, rfl⟩ := (mem_linkL s hs L h x).1 hx
    have e : sub t (f ^^^ s) = true := e
    rw [sub_xor t f s k, Bool.and_eq_true] at e
    exact ⟨e.1, (f : Int), hf, by show sub (t ||| s) f = true; rw [sub_or, e.2, k]; rfl⟩
  · rintro ⟨ha, x, hx, e⟩
    obtain ⟨f, rfl, hf⟩ := ok_nat h hx
    have e : sub (t ||| s) f = true := e
    rw [sub_or, Bool.and_eq_true] at e
    exact ⟨_, (mem_linkL s hs L h _).2 ⟨f, hx, hf, e.2, rfl⟩, by show sub t (f ^^^ s) = true; rw [sub_xor t f s e.2, ha, e.1]; rfl⟩
theorem link_spec (s : Nat) (hs : s < 64) (L : List Int) (h : allOk L = true) : maximal (linkL s L L.length) = maxQ (linkQ L s) := by
  rw [maximal_maxQ _ (linkL_ok s hs L h)]
  exact maxQ_congr fun t _ => linkL_inF s hs L h t

/-! ### star -/

theorem star_spec (s : Nat) (L : List Int) (h : allOk L = true) : maximal (keepL (fun f => sub s f.toNat) L L.length) = maxQ (starQ L s) := by
  rw [keepL_all, maximal_maxQ _ (filter_ok _ h)]
  refine maxQ_congr fun t _ => ?_
  unfold starQ
  rw [Bool.eq_iff_iff, inF_iff, inF_iff]
  constructor
  · rintro ⟨x, hx, e⟩
    rw [List.mem_filter] at hx
    exact ⟨x, hx.1, by rw [sub_or, e, hx.2]; rfl⟩
  · rintro ⟨x, hx, e⟩
    rw [sub_or, Bool.and_eq_true] at e
    exact ⟨x, List.mem_filter.2 ⟨hx, e.2⟩, e.1⟩

/-! ### families of faces -/

/-- The greatest of those faces that meet a predicate. -/
theorem keep_spec (n : Int) (xs : List Int) (hc : isC n xs = true) (p : Nat → Bool) (hd : Down fun t => inF xs t && p t) :
    maximal (keepL (fun f => p f.toNat) (faces n xs) (faces n xs).length) = maxQ fun t => inF xs t && p t := by
  have hf : faces n xs = ord (inF xs) := by unfold faces; rw [if_pos hc]
  rw [keepL_all, hf]
  have e : (ord (inF xs)).filter (fun f => p f.toNat) = ord fun t => inF xs t && p t := by
    rw [ord_filter (inF xs), List.filter_filter, ord_filter fun t => inF xs t && p t]
    apply List.filter_congr
    intro x _
    rw [Bool.and_comm]
  rw [e]
  exact maximal_ord _ hd
theorem del_spec (n : Int) (xs : List Int) (hc : isC n xs = true) (s : Nat) : maximal (keepL (fun f => !sub s f.toNat) (faces n xs) (faces n xs).length) = maxQ (delQ xs s) :=
  keep_spec n xs hc (fun t => !sub s t) (delQ_down xs s)
theorem skel_spec (n : Int) (xs : List Int) (hc : isC n xs = true) (k : Int) : maximal (keepL (fun f => decide ((pc f.toNat : Int) ≤ k)) (faces n xs) (faces n xs).length) = maxQ (skelQ xs k) :=
  keep_spec n xs hc (fun t => decide ((pc t : Int) ≤ k)) (skelQ_down xs k)

/-! ### induced -/

def meetZ (s : Nat) (f : Int) : Int := ((f.toNat &&& s : Nat) : Int)
theorem map_ok {L : List Int} (s : Nat) (h : allOk L = true) : allOk (L.map (meetZ s)) = true := by
  unfold allOk
  rw [List.all_eq_true]
  intro x hx
  obtain ⟨y, hy, rfl⟩ := List.mem_map.1 hx
  obtain ⟨f, rfl, hf⟩ := ok_nat h hy
  exact (okZ_nat _).2 (Nat.lt_of_le_of_lt Nat.and_le_left hf)
theorem ind_spec (s : Nat) (L : List Int) (h : allOk L = true) : maximal (mapL (meetZ s) L L.length) = maxQ (indQ L s) := by
  rw [mapL_all, maximal_maxQ _ (map_ok s h)]
  refine maxQ_congr fun t _ => ?_
  unfold indQ
  rw [Bool.eq_iff_iff, Bool.and_eq_true, inF_iff, inF_iff]
  constructor
  · rintro ⟨x, hx, e⟩
    obtain ⟨y, hy, rfl⟩ := List.mem_map.1 hx
    have e : sub t (y.toNat &&& s) = true := e
    rw [sub_and, Bool.and_eq_true] at e
    exact ⟨⟨y, hy, e.1⟩, e.2⟩
  · rintro ⟨⟨y, hy, e⟩, k⟩
    exact ⟨_, List.mem_map.2 ⟨y, hy, rfl⟩, by show sub t (y.toNat &&& s) = true; rw [sub_and, e, k]; rfl⟩

/-! ### union and meet -/

theorem app_ok {xs ys : List Int} (hx : allOk xs = true) (hy : allOk ys = true) : allOk (xs ++ ys) = true := by
  unfold allOk at *; rw [List.all_append, hx, hy]; rfl
theorem union_spec (xs ys : List Int) (hx : allOk xs = true) (hy : allOk ys = true) : maximal (xs ++ ys) = maxQ (orQ xs ys) := by
  rw [maximal_maxQ _ (app_ok hx hy)]
  refine maxQ_congr fun t _ => ?_
  unfold orQ inF
  rw [List.any_append]
/-- The meets of the first i with all, and of the next with the first k. -/
def meetL (xs ys : List Int) (i k : Nat) : List Int := (xs.take i).flatMap (fun f => ys.map (meetZ f.toNat)) ++ mapL (meetZ (xs.getD i 0).toNat) ys k
theorem meetL_start (xs ys : List Int) : meetL xs ys 0 0 = [] := rfl
theorem meetL_next (xs ys : List Int) (i k : Nat) (h : k < ys.length) : meetL xs ys i (k + 1) = meetL xs ys i k ++ [meetZ (xs.getD i 0).toNat (ys.getD k 0)] := by
  unfold meetL; rw [mapL_next _ _ _ h, List.append_assoc]
theorem meetL_line (xs ys : List Int) (i : Nat) (h : i < xs.length) : meetL xs ys i ys.length = meetL xs ys (i + 1) 0 := by
  unfold meetL
  rw [mapL_all, tk_next xs i h, List.flatMap_append]
  simp [mapL]
theorem meetL_le (xs ys : List Int) (i k : Nat) : (meetL xs ys i k).length ≤ xs.length * ys.length + ys.length := by
  unfold meetL
  rw [List.length_append]
  have h1 : ((xs.take i).flatMap fun f => ys.map (meetZ f.toNat)).length = (xs.take i).length * ys.length := by
    generalize xs.take i = L
    induction L with
    | nil => simp
    | cons x L ih => rw [List.flatMap_cons, List.length_append, List.length_map, ih, List.length_cons, Nat.succ_mul, Nat.add_comm]
  have h2 : (mapL (meetZ (xs.getD i 0).toNat) ys k).length ≤ ys.length := by
    unfold mapL; rw [List.length_map, List.length_take]; omega
  have h3 : (xs.take i).length ≤ xs.length := by rw [List.length_take]; omega
  have := Nat.mul_le_mul_right ys.length h3
  omega
theorem mem_meetL (xs ys : List Int) (x : Int) : x ∈ meetL xs ys xs.length 0 ↔ ∃ f g : Int, f ∈ xs ∧ g ∈ ys ∧ x = meetZ f.toNat g := by
  unfold meetL
  rw [List.take_length]
  have e : mapL (meetZ (xs.getD xs.length 0).toNat) ys 0 = [] := rfl
  rw [e, List.append_nil, List.mem_flatMap]
  constructor
  · rintro ⟨f, hf, hx⟩
    obtain ⟨g, hg, rfl⟩ := List.mem_map.1 hx
    exact ⟨f, g, hf, hg, rfl⟩
  · rintro ⟨f, g, hf, hg, rfl⟩
    exact ⟨f, hf, List.mem_map.2 ⟨g, hg, rfl⟩⟩
theorem meetL_ok (xs ys : List Int) (hy : allOk ys = true) : allOk (meetL xs ys xs.length 0) = true := by
  unfold allOk
  rw [List.all_eq_true]
  intro x hx
  obtain ⟨f, g, _, hg, rfl⟩ := (mem_meetL xs ys x).1 hx
  obtain ⟨b, rfl, hb⟩ := ok_nat hy hg
  exact (okZ_nat _).2 (Nat.lt_of_le_of_lt Nat.and_le_left hb)
theorem meet_spec (xs ys : List Int) (hy : allOk ys = true) : maximal (meetL xs ys xs.length 0) = maxQ (andQ xs ys) := by
  rw [maximal_maxQ _ (meetL_ok xs ys hy)]
  refine maxQ_congr fun t _ => ?_
  unfold andQ
  rw [Bool.eq_iff_iff, Bool.and_eq_true, inF_iff, inF_iff, inF_iff]
  constructor
  · rintro ⟨x, hx, e⟩
    obtain ⟨f, g, hf, hg, rfl⟩ := (mem_meetL xs ys x).1 hx
    have e : sub t (g.toNat &&& f.toNat) = true := e
    rw [sub_and, Bool.and_eq_true] at e
    exact ⟨⟨f, hf, e.2⟩, g, hg, e.1⟩
  · rintro ⟨⟨f, hf, e1⟩, g, hg, e2⟩
    exact ⟨_, (mem_meetL xs ys _).2 ⟨f, g, hf, hg, rfl⟩, by show sub t (g.toNat &&& f.toNat) = true; rw [sub_and, e1, e2]; rfl⟩

end Go.Proofs.Ytmonaiojejbhkaa

/-! WALKS: spec's chapter 5 (written by genpart.py). -/

namespace Go.Proofs.Ytmonaiojejbhkaa
open Go.RowKit
open Sets

theorem and_meet (f s : Nat) (hf : f < 64) (hs : s < 64) : bits BinOp.and IntKind.i64 (f : Int) (s : Int) = meetZ s (f : Int) := by
  have H : ∀ a b : Nat, a < 64 → b < 64 → bits BinOp.and IntKind.i64 (a : Int) (b : Int) = ((a &&& b : Nat) : Int) := by
    refine fin64b ?_
    decide +kernel
  exact H f s hf hs
theorem isC_at2 {xs : List Int} (h : allOk xs = true) (j : Nat) (hj : j < xs.length) : ∃ s : Nat, xs.getD j 0 = (s : Int) ∧ s < 64 :=
  okZ_cast _ (by unfold allOk at h; exact List.all_eq_true.1 h _ (by rw [List.getD, List.getElem?_eq_getElem hj]; exact List.getElem_mem hj))
/-- What writes into another row leave. -/
theorem IntsAt.off {w w' : World} {g : Nat} {row : Option Nat} {a : Option Addr} {xs : List Int} (h : IntsAt w g a xs) (hg : w.grownBy w' row) (hne : row ≠ some g) : IntsAt w' g a xs := fun j hj => by
  obtain ⟨e, hl, hc, hf⟩ := h j hj
  have hb := hg.block g hl (Ne.symm hne)
  have := hg.size
  exact ⟨e, by omega, by rw [World.cell?_of_block (w := w) (w' := w') (a := ⟨g, j, none⟩) hb]; exact hc, by rw [World.frozen?_of_block (w := w) (w' := w') (a := ⟨g, j, none⟩) hb]; exact hf⟩
theorem size_ok (n : Int) (xs : List Int) : allOk (faces n xs) = true := by
  unfold faces; split
  · exact ord_ok _
  · rfl
theorem l2Size_v (s p : Nat) (hp : pc s = p) (hs : s < 64) (w : World) : Calls Try.prog 58 #[.int .i64 (s : Int)] w fun e w' => e = .returned (.int .i64 (p : Int)) ∧ w = w' := by
  subst hp; exact l2Size_any s hs w

theorem partO_no {ok : Bool} {n : Int} {q : Nat → Bool} (h : ok = false) : partO ok n q = none := by unfold partO; rw [if_neg (by rw [h]; simp)]
theorem partO_yes {ok : Bool} {n : Int} {q : Nat → Bool} (h : ok = true) : partO ok n q = some (n, maxQ q) := by unfold partO; rw [if_pos h]


end Go.Proofs.Ytmonaiojejbhkaa

/-! WALKS: spec's chapter 5: meet (written by genpart.py). -/

namespace Go.Proofs.Ytmonaiojejbhkaa
open Go.RowKit
open Sets

theorem Ints.news {w : World} {ad : Addr} {xs : List Int} (h : Ints w (some ad) xs) : ∀ (j : Nat) u, (xs.map (Value.int .i64))[j]? = some u → w.cell? (ad.add j) = some u := fun j u hu => by
  have hj : j < (xs.map (Value.int .i64)).length := (List.getElem?_eq_some_iff.1 hu).1
  rw [List.length_map] at hj
  rw [ints_cell xs j hj] at hu
  cases hu
  obtain ⟨b, o, e, hc⟩ := h j hj
  cases e
  have e1 : (⟨b, o, none⟩ : Addr).add j = ⟨b, o + j, none⟩ := by unfold Addr.add; split <;> simp_all
  rw [e1]; exact hc
theorem Ints.none_nil {w : World} {xs : List Int} (h : Ints w none xs) : xs = [] := by
  rcases Nat.eq_zero_or_pos xs.length with e | e
  · exact List.eq_nil_of_length_eq_zero e
  · obtain ⟨_, _, e, _⟩ := h 0 e; cases e
theorem one_ints (xs : List Int) : ∀ u ∈ xs.map (Value.int .i64), u.oneCell' = true := by
  intro u hu; obtain ⟨x, _, rfl⟩ := List.mem_map.1 hu; rfl
theorem bothOk_le {n : Int} {xs : List Int} (h : isC n xs = true) : xs.length ≤ 64 := isC_le h
theorem and_meet2 (f g : Nat) (hf : f < 64) (hg : g < 64) : bits BinOp.and IntKind.i64 (f : Int) (g : Int) = meetZ f (g : Int) := by
  rw [and_meet f g hf hg]
  show ((f &&& g : Nat) : Int) = ((g &&& f : Nat) : Int)
  rw [Nat.and_comm]


end Go.Proofs.Ytmonaiojejbhkaa
