/-
  TEXTS of one claim, put together: Mx3, WMat1, ArrEq, WCnt2.
-/
import Derived.Test.YthobncbggaggjaaJg13
import Derived.Test.YthobncbggaggjaaJg5
import Derived.Test.YthobncbggaggjaaJg11
import Derived.Laws.StructEq
import Derived.Test.YthobncbggaggjaaJg10
import Derived.Laws.CopyOwn
import Derived.Deep.WholeRow
import Derived.Laws.Rows
/-! MEMORY: rows of a matrix exchanged; what a matrix keeps while another row grows. -/

namespace Go.Proofs.Ythobncbggaggjaa
open Go.RowKit

def swapR (R : List (Nat × Nat)) (a d : Nat) : List (Nat × Nat) := (R.set a (R.getD d (0, 0))).set d (R.getD a (0, 0))
theorem swapR_length (R : List (Nat × Nat)) (a d : Nat) : (swapR R a d).length = R.length := by simp [swapR]
theorem swapR_at (R : List (Nat × Nat)) (a d j : Nat) (ha : a < R.length) (hd : d < R.length) : (swapR R a d).getD j (0, 0) = R.getD (if j = d then a else if j = a then d else j) (0, 0) := by
  unfold swapR
  by_cases e : j = d
  · subst e; simp [List.getD, ha, hd]
  · rw [if_neg e]
    by_cases e' : j = a
    · subst e'
      rw [if_pos rfl]
      simp only [List.getD, List.getElem?_set, List.length_set]
      rw [if_neg (fun h => e h.symm)]
      simp [ha]
    · rw [if_neg e']
      simp only [List.getD, List.getElem?_set, List.length_set]
      rw [if_neg (fun h => e h.symm), if_neg (fun h => e' h.symm)]
theorem blk_of_mem {R : List (Nat × Nat)} {g : Nat} (h : g ∈ blks R) : ∃ i, i < R.length ∧ blk R i = g := by
  obtain ⟨⟨a, b⟩, hx, rfl⟩ := List.mem_map.1 h
  obtain ⟨i, hi, hx2⟩ := List.getElem_of_mem hx
  exact ⟨i, hi, by simp [blk, List.getD, List.getElem?_eq_getElem hi, hx2]⟩
def flip2 (a d j : Nat) : Nat := if j = d then a else if j = a then d else j
theorem flip2_lt {a d j m : Nat} (ha : a < m) (hd : d < m) (hj : j < m) : flip2 a d j < m := by unfold flip2; split <;> (try split) <;> assumption
theorem flip2_flip (a d j : Nat) : flip2 a d (flip2 a d j) = j := by
  unfold flip2
  by_cases h1 : j = d
  · subst h1; rw [if_pos rfl]; by_cases h2 : a = j
    · rw [if_pos h2, h2]
    · rw [if_neg h2, if_pos rfl]
  · rw [if_neg h1]
    by_cases h2 : j = a
    · subst h2; rw [if_pos rfl, if_pos rfl]
    · rw [if_neg h2, if_neg h1, if_neg h2]
theorem flip2_inj {a d i j : Nat} (h : flip2 a d i = flip2 a d j) : i = j := by rw [← flip2_flip a d i, h, flip2_flip]
theorem swapR_mem {R : List (Nat × Nat)} {a d : Nat} (ha : a < R.length) (hd : d < R.length) (g : Nat) : g ∈ blks (swapR R a d) ↔ g ∈ blks R := by
  constructor
  · intro h
    obtain ⟨i, hi, rfl⟩ := blk_of_mem h
    rw [swapR_length] at hi
    have := blk_mem (R := R) (flip2_lt ha hd hi)
    rw [show blk (swapR R a d) i = blk R (flip2 a d i) from congrArg Prod.fst (swapR_at R a d i ha hd)]; exact this
  · intro h
    obtain ⟨i, hi, rfl⟩ := blk_of_mem h
    have hlt : flip2 a d i < (swapR R a d).length := by rw [swapR_length]; exact flip2_lt ha hd hi
    have := blk_mem hlt
    rw [show blk (swapR R a d) (flip2 a d i) = blk R (flip2 a d (flip2 a d i)) from congrArg Prod.fst (swapR_at R a d _ ha hd), flip2_flip] at this
    exact this
theorem swapR_nodup {R : List (Nat × Nat)} {a d : Nat} (ha : a < R.length) (hd : d < R.length) (h : (blks R).Nodup) : (blks (swapR R a d)).Nodup := by
  have e : ∀ (Q : List (Nat × Nat)) j, (hj : j < Q.length) → (blks Q)[j]'(by simpa using hj) = blk Q j := fun Q j hj => by simp [blk, blks, List.getD, List.getElem?_eq_getElem hj]
  unfold List.Nodup
  rw [List.pairwise_iff_getElem]
  intro i j hi hj hij he
  have hi' : i < (swapR R a d).length := by simpa using hi
  have hj' : j < (swapR R a d).length := by simpa using hj
  rw [e _ i hi', e _ j hj'] at he
  rw [show blk (swapR R a d) i = blk R (flip2 a d i) from congrArg Prod.fst (swapR_at R a d i ha hd), show blk (swapR R a d) j = blk R (flip2 a d j) from congrArg Prod.fst (swapR_at R a d j ha hd)] at he
  rw [swapR_length] at hi' hj'
  have := flip2_inj (blk_inj h (flip2_lt ha hd hi') (flip2_lt ha hd hj') he)
  omega

/-- Two rows are exchanged. -/
theorem Mx.swap {w : World} {go : Nat} {ao : Option Addr} {R : List (Nat × Nat)} {M : Lin.Mat} (h : Mx w go ao R M) {a d : Nat} (ha : a < M.length) (hd : d < M.length) :
    Mx ((w.setCell ⟨go, a, none⟩ (.slice (some ⟨blk R d, 0, none⟩) (Lin.row M d).length (room R d))).setCell ⟨go, d, none⟩ (.slice (some ⟨blk R a, 0, none⟩) (Lin.row M a).length (room R a))) go ao (swapR R a d) (Lin.swap M a d) := by
  have haR : a < R.length := by rw [h.len]; exact ha
  have hdR : d < R.length := by rw [h.len]; exact hd
  have hrow : ∀ j, Lin.row (Lin.swap M a d) j = Lin.row M (flip2 a d j) := fun j => Lin.swap_row M a d j ha hd
  have hR : ∀ j, (swapR R a d).getD j (0, 0) = R.getD (flip2 a d j) (0, 0) := fun j => swapR_at R a d j haR hdR
  have hsz : ((w.setCell ⟨go, a, none⟩ (.slice (some ⟨blk R d, 0, none⟩) (Lin.row M d).length (room R d))).setCell ⟨go, d, none⟩ (.slice (some ⟨blk R a, 0, none⟩) (Lin.row M a).length (room R a))).heap.size = w.heap.size := by simp [World.setCell]
  refine ⟨by rw [swapR_length, Lin.swap_length]; exact h.len, swapR_nodup haR hdR h.nodup, fun i hi => ?_, fun i hi => ?_, fun hm => h.apart ((swapR_mem haR hdR go).1 hm)⟩
  · rw [Lin.swap_length] at hi
    obtain ⟨h1, h2, h3, h4⟩ := h.out i hi
    refine ⟨h1, by rw [hsz]; exact h2, ?_, by rw [World.frozen?_setCell, World.frozen?_setCell]; exact h4⟩
    simp only [blk, room]
    rw [hrow, hR]
    unfold flip2
    by_cases e : i = d
    · rw [if_pos e, e]
      have hne := (h.out d hd).2.2.1
      by_cases e2 : a = d
      · subst e2
        exact World.cell?_setCell_same _ _ _ (World.cell?_setCell_same _ _ _ hne)
      · exact World.cell?_setCell_same _ _ _ ((World.cell?_setCell_other _ _ _ _ (by simp)).trans hne)
    · rw [if_neg e]
      rw [World.cell?_setCell_other _ _ _ _ (by simp)]
      by_cases e2 : i = a
      · subst e2
        rw [if_pos rfl]
        exact World.cell?_setCell_same _ _ _ h3
      · rw [if_neg e2, World.cell?_setCell_other _ _ _ _ (by simp)]
        exact h3
  · rw [Lin.swap_length] at hi
    obtain ⟨h1, h2⟩ := h.rows _ (flip2_lt ha hd hi)
    simp only [blk] at h1 h2 ⊢
    rw [hrow, hR]
    refine ⟨by rw [hsz]; exact h1, ?_⟩
    refine IntsAt.only (G := [go]) h2 ((Only.set [go] w a (by simp) _).trans (Only.set [go] _ d (by simp) _)) ?_
    rw [List.mem_singleton]
    intro e
    exact h.apart (by rw [← e]; exact blk_mem (R := R) (by rw [h.len]; exact flip2_lt ha hd hi))

theorem Mx.grown {w w' : World} {go : Nat} {ao : Option Addr} {R : List (Nat × Nat)} {M : Lin.Mat} (h : Mx w go ao R M) {b : Option Nat} (hg : w.grownBy w' b) (hb : ∀ g, b = some g → g ≠ go ∧ g ∉ blks R) : Mx w' go ao R M := by
  have hk : ∀ k, k < w.heap.size → (k = go ∨ k ∈ blks R) → w'.heap[k]? = w.heap[k]? := fun k hk hor => hg.block k hk fun e => by
    obtain ⟨h1, h2⟩ := hb k e.symm
    rcases hor with e | e
    · exact h1 e
    · exact h2 e
  refine ⟨h.len, h.nodup, fun i hi => ?_, fun i hi => ?_, h.apart⟩
  · obtain ⟨h1, h2, h3, h4⟩ := h.out i hi
    have e := hk go h2 (.inl rfl)
    exact ⟨h1, Nat.lt_of_lt_of_le h2 hg.size, by rw [World.cell?_of_block (w := w) e]; exact h3, by rw [World.frozen?_of_block (w := w) e]; exact h4⟩
  · obtain ⟨h1, h2⟩ := h.rows i hi
    have e := hk _ h1 (.inr (blk_mem (by rw [h.len]; exact hi)))
    refine ⟨Nat.lt_of_lt_of_le h1 hg.size, fun j hj => ?_⟩
    obtain ⟨q1, q2, q3, q4⟩ := h2 j hj
    exact ⟨q1, Nat.lt_of_lt_of_le q2 hg.size, by rw [World.cell?_of_block (w := w) e]; exact q3, by rw [World.frozen?_of_block (w := w) e]; exact q4⟩
theorem OwnInts.only {w w' : World} {G : List Nat} {base : Nat} {v : Value} {xs : List Int} (h : OwnInts w base v xs) (k : Only G w w') (hv : ∀ g, v.ownBlock = some g → g ∉ G) : OwnInts w' base v xs := by
  unfold OwnInts at *
  refine ⟨h.1, ?_⟩
  rcases h.2 with h0 | ⟨g, cap, cur, hv', h1, hh, hr⟩
  · exact .inl h0
  · refine .inr ⟨g, cap, cur, hv', h1, ?_, hr⟩
    have hlt : g < w.heap.size := by
      rcases Nat.lt_or_ge g w.heap.size with hl | hl
      · exact hl
      · rw [Array.getElem?_eq_none hl] at hh; cases hh
    rw [k.block g hlt (hv g (by rw [hv']; rfl))]; exact hh
theorem Mx.old {w : World} {go : Nat} {ao : Option Addr} {R : List (Nat × Nat)} {M : Lin.Mat} (h : Mx w go ao R M) {g : Nat} (hg : g ∈ blks R) : g < w.heap.size := by
  obtain ⟨i, hi, rfl⟩ := blk_of_mem hg
  exact (h.rows i (by rw [← h.len]; exact hi)).1

end Go.Proofs.Ythobncbggaggjaa

/-! WALKS of chapter 13 (spec): remainders, inverses, signs. -/

namespace Go.Proofs.Ythobncbggaggjaa
open Go.RowKit
open Sets

theorem tmod_mod {a p : Int} (hp : 0 < p) : (a.tmod p + p).tmod p = a % p := by
  have h1 := Int.tmod_lt_of_pos a hp
  have h2 := Int.lt_tmod_of_pos a hp
  rw [Int.tmod_eq_emod_of_nonneg (by omega)]
  rw [Int.add_emod_right]
  have := Int.tmod_add_mul_tdiv a p
  rw [show a.tmod p = a - p * a.tdiv p by omega, Int.sub_mul_emod_self_left]

theorem tmod_mod2 {a p : Int} (hp : 0 < p) : (a.tmod p + p) % p = a % p := by
  have h2 := Int.lt_tmod_of_pos a hp
  have h := tmod_mod (a := a) hp
  rwa [Int.tmod_eq_emod_of_nonneg (by omega)] at h

set_option maxRecDepth 100000 in
set_option maxHeartbeats 2000000 in
theorem l13Mod_any (a : Int) (p : Nat) (hp : 1 < p) (hp2 : p ≤ 1000) (w : World) : Calls Try.prog 99 #[.int .i64 a, .int .i64 (p : Int)] w fun e w' => e = .returned (.int .i64 (a % (p : Int))) ∧ w = w' := by
  have hz : ((p : Int) = 0) = False := by simp; omega
  have b1 := Int.tmod_lt_of_pos a (by omega : (0 : Int) < p)
  have b2 := Int.lt_tmod_of_pos a (by omega : (0 : Int) < p)
  have E := Lib.hid (tmod_mod2 (a := a) (by omega : (0 : Int) < p))
  go_enter Try.func99, Try.ntmps99
  go_wp2
  go_ret
  exact ⟨ret_int E.out, rfl⟩

/-- The primes that the chapter knows. -/
def primeB (p : Int) : Bool := decide (p = 2 ∨ p = 3 ∨ p = 5)
set_option maxRecDepth 100000 in
theorem isPrime_any (p : Int) (w : World) : Calls Try.prog 61 #[.int .i64 p] w fun e w' => e = .returned (.bool (primeB p)) ∧ w = w' := by
  by_cases h2 : p = 2
  · subst h2
    go_enter Try.func61, Try.ntmps61
    go_wp2
    go_ret
    exact ⟨rfl, rfl⟩
  · by_cases h3 : p = 3
    · subst h3
      go_enter Try.func61, Try.ntmps61
      go_wp2
      go_ret
      exact ⟨rfl, rfl⟩
    · have e2 : (p == 2) = false := by simpa using h2
      have e3 : (p == 3) = false := by simpa using h3
      have hb : Hid (primeB p = (p == 5)) := by unfold primeB; rw [Hid]; simp [h2, h3]; rfl
      go_enter Try.func61, Try.ntmps61
      go_wp2
      go_ret
      rw [hb.out]
      exact ⟨rfl, rfl⟩

theorem inv_hit {p b : Nat} {a : Int} (hb : b < p) (h : a % (p : Int) * (b : Int) % p = 1) (hno : ∀ c : Nat, c < b → ¬a % (p : Int) * (c : Int) % p = 1) : Lin.inv p a = b := by
  unfold Lin.inv
  rw [show ((List.range p).filter fun b : Nat => decide (a % (p : Int) * (b : Int) % p = 1)).headD 0 = b from ?_]
  rw [List.headD_eq_head?_getD, List.head?_filter, List.find?_range_eq_some.2 ⟨decide_eq_true h, List.mem_range.2 hb, fun j hj => by simpa using hno j hj⟩]; rfl
theorem inv_none {p : Nat} {a : Int} (hno : ∀ c : Nat, c < p → ¬a % (p : Int) * (c : Int) % p = 1) : Lin.inv p a = 0 := by
  unfold Lin.inv
  rw [List.filter_eq_nil_iff.2 fun c hc => by simpa using hno c (List.mem_range.1 hc)]; rfl

set_option maxRecDepth 100000 in
set_option maxHeartbeats 2000000 in
theorem inverse_any (a : Int) (p : Nat) (hp : p = 2 ∨ p = 3 ∨ p = 5) (w : World) : Calls Try.prog 109 #[.int .i64 a, .int .i64 (p : Int)] w fun e w' => e = .returned (.int .i64 (Lin.inv p a)) ∧ w = w' := by
  have hz : ((p : Int) = 0) = False := by simp; omega
  have hP : Hid (primeB (p : Int) = true) := decide_eq_true (by omega)
  have hr0 := Int.emod_nonneg a (by omega : (p : Int) ≠ 0)
  have hr1 := Int.emod_lt_of_pos a (by omega : (0 : Int) < p)
  have hp5 : p ≤ 5 := by omega
  have hp1 : 1 < p := by omega
  have HR : Hid (∃ r : Int, a % (p : Int) = r) := ⟨_, rfl⟩
  obtain ⟨r, hr⟩ := HR.out
  rw [hr] at hr0 hr1
  have HRR := Lib.hid hr
  clear hr hp HR
  go_enter Try.func109, Try.ntmps109
  go_wp2_with fail
  refine (isPrime_any _ _).mono ?_
  rw [hP.out]
  rintro e w' ⟨rfl, rfl⟩
  go_wp2
  go_loop [5] (fun x => ∃ b : Nat, 1 ≤ b ∧ b ≤ p ∧ x = .int .i64 (b : Int) ∧ Hid (∀ c : Nat, c < b → ¬r * (c : Int) % p = 1)) (fun x => p - (intOf x).toNat)
  case atStart => exact ⟨1, by omega, by omega, rfl, fun c hc => by rw [show c = 0 by omega]; simp⟩
  case round =>
    obtain ⟨b, hb1, hb, rfl, hno⟩ := hrel
    by_cases hlt : b < p
    · have hm1 : 0 ≤ r * (b : Int) := Int.mul_nonneg hr0 (by omega)
      have hm2 : r * (b : Int) ≤ 25 := Int.le_trans (Int.mul_le_mul (show r ≤ 5 by omega) (show (b : Int) ≤ 5 by omega) (by omega) (by omega)) (by decide)
      go_wp2_with fail
      refine (l13Mod_any a p hp1 (by omega) _).mono ?_
      rw [HRR.out]
      rintro e w' ⟨rfl, rfl⟩
      have htm : (r * (b : Int)).tmod p = r * (b : Int) % p := Int.tmod_eq_emod_of_nonneg hm1
      by_cases hc : r * (b : Int) % p = 1
      · have HC := Lib.hid hc
        go_wp2
        go_ret
        exact ⟨ret_int (inv_hit hlt (by rw [HRR.out]; exact HC.out) (by rw [HRR.out]; exact hno.out)).symm, rfl⟩
      · have HC := Lib.hid hc
        go_wp2
        go_round
        case rel =>
          refine ⟨b + 1, by omega, by omega, by go_num, fun c hc' => ?_⟩
          by_cases e : c < b
          · exact hno.out c e
          · rw [show c = b by omega]
            exact HC.out
        case measure => simp [intOf]; omega
    · have HE : Hid (b = p) := by show b = p; omega
      go_wp2
      go_ret
      refine ⟨ret_int ?_, rfl⟩
      exact (inv_none (by rw [HRR.out]; exact fun c hc => hno.out c (by rw [HE.out]; exact hc))).symm

end Go.Proofs.Ythobncbggaggjaa

/-! ARRAYS OF NUMBERS, compared: equal exactly if the lists are. -/

namespace Go.Proofs.Ythobncbggaggjaa
open Go

/-- The cells of a list of numbers. -/
def icells (xs : List Int) : List Value := xs.map fun x => Value.int .i64 x
theorem icells_length (xs : List Int) : (icells xs).length = xs.length := List.length_map _
theorem icells_at (xs : List Int) (i : Nat) (h : i < xs.length) : (icells xs)[i]? = some (.int .i64 (xs.getD i 0)) := by
  unfold icells; rw [List.getElem?_map, List.getElem?_eq_getElem h, List.getD, List.getElem?_eq_getElem h]; rfl

theorem ints_range_eq : ∀ (xs ys : List Int), xs.length = ys.length → ((List.range xs.length).all fun i => xs.getD i 0 == ys.getD i 0) = (xs == ys)
  | [], [], _ => rfl
  | x :: xs, y :: ys, h => by
    have ih := ints_range_eq xs ys (by simpa using h)
    rw [List.length_cons, List.range_succ_eq_map, List.all_cons, List.all_map]
    simp only [List.getD_cons_zero, Function.comp_def, List.getD_cons_succ, ih]
    simp [List.cons_beq_cons]
  | [], _ :: _, h => by simp at h
  | _ :: _, [], h => by simp at h

theorem equalIn_ints {P : Program} (w : World) (d : Nat) (t e : TypeId) (n : Nat) (ht : P.underlying t = some (.array n e)) (he : P.underlying e = some (.int .i64)) (hsz : ∀ w, (sizeOf e).run P w = .ok 1 w)
    (xs ys : List Int) (hx : xs.length = n) (hy : ys.length = n) :
    (Op.equalIn (d + 2) t (.agg (icells xs).toArray) (.agg (icells ys).toArray)).run P w = .ok (xs == ys) w := by
  rw [← ints_range_eq xs ys (hx.trans hy.symm), hx, List.range_eq_range', Op.equalIn]
  simp only [Sem.run_bind, run_underlying ht, Result.andThen_ok, hsz, Std.Legacy.Range.forIn_eq_forIn_range', Std.Legacy.Range.size, Nat.sub_zero, Nat.add_sub_cancel, Nat.div_one]
  have hl : ∀ i ∈ List.range' 0 n 1, i < n := fun i hi => by simpa using (List.mem_range'_1.1 hi).2
  generalize List.range' 0 n 1 = l at hl ⊢
  induction l with
  | nil => simp
  | cons i l ih =>
    have hi : i < n := hl i (by simp)
    have px : (part e (icells xs).toArray (i * 1)).run P w = .ok (.int .i64 (xs.getD i 0)) w := by
      simp [part, isAgg, run_underlying he, icells_at xs i (by omega)]
    have py : (part e (icells ys).toArray (i * 1)).run P w = .ok (.int .i64 (ys.getD i 0)) w := by
      simp [part, isAgg, run_underlying he, icells_at ys i (by omega)]
    have pe : (Op.equalIn (d + 1) e (.int .i64 (xs.getD i 0)) (.int .i64 (ys.getD i 0))).run P w = .ok (xs.getD i 0 == ys.getD i 0) w :=
      run_equalIn_int w d e .i64 .i64 _ _ he
    simp only [List.forIn_cons, Sem.run_bind, px, py, pe, Result.andThen_ok, List.all_cons]
    cases hb : (xs.getD i 0 == ys.getD i 0)
    · simp
    · simp only [Bool.not_true, Bool.false_eq_true, if_false, Sem.run_pure, Result.andThen_ok, Bool.true_and]
      exact ih fun j hj => hl j (by simp [hj])

end Go.Proofs.Ythobncbggaggjaa

/-! WALKS of chapter 4: countSizes; impl's FaceCounts and EulerOf. -/

namespace Go.Proofs.Ythobncbggaggjaa
open Go.RowKit
open Sets

/-! ### an array of numbers in a block -/

def RowAt (w : World) (B : Nat) (t : TypeId) (L : List Int) : Prop := w.heap[B]? = some (.cells (icells L).toArray t (0, 0))
theorem RowAt.lt {w : World} {B : Nat} {t : TypeId} {L : List Int} (h : RowAt w B t L) : B < w.heap.size := (Array.getElem?_eq_some_iff.1 h).1
theorem RowAt.cell {w : World} {B : Nat} {t : TypeId} {L : List Int} (h : RowAt w B t L) (j : Nat) (hj : j < L.length) : w.cell? ⟨B, j, none⟩ = some (.int .i64 (L.getD j 0)) := by
  unfold RowAt at h
  simp only [World.cell?, h]
  simpa using icells_at L j hj
theorem RowAt.frozen {w : World} {B : Nat} {t : TypeId} {L : List Int} (h : RowAt w B t L) (j : Nat) : w.frozen? ⟨B, j, none⟩ = false := by
  unfold RowAt at h
  simp [World.frozen?, h]
theorem RowAt.keeps {w w' : World} {B : Nat} {t : TypeId} {L : List Int} (h : RowAt w B t L) (hb : Below w.heap.size w w') : RowAt w' B t L := by
  unfold RowAt; rw [hb.block B h.lt]; exact h
theorem RowAt.set {w : World} {B : Nat} {t : TypeId} {L : List Int} (h : RowAt w B t L) (j : Nat) (x : Int) : RowAt (w.setCell ⟨B, j, none⟩ (.int .i64 x)) B t (L.set j x) := by
  have hlt := h.lt
  unfold RowAt at h ⊢
  have hv := (Array.getElem?_eq_some_iff.1 h).2
  unfold World.setCell
  rw [Array.getElem?_eq_getElem (by simpa using hlt), Array.getElem_modify]
  simp only [if_pos, hv]
  simp [icells, List.map_set]
theorem RowAt.ints {w : World} {B : Nat} {t : TypeId} {L : List Int} (h : RowAt w B t L) (k : Nat) (hk : k ≤ L.length) : IntsAt w B (some ⟨B, 0, none⟩) (L.take k) := fun j hj => by
  rw [List.length_take] at hj
  refine ⟨rfl, h.lt, ?_, h.frozen j⟩
  rw [List.getD, List.getElem?_take_of_lt (by omega)]
  exact h.cell j (by omega)

theorem cnts_nil : cnts [] = List.replicate 7 0 := rfl
theorem cnts_lit (L : List Int) : cnts L = [(cnt 0 L : Int), (cnt 1 L : Int), (cnt 2 L : Int), (cnt 3 L : Int), (cnt 4 L : Int), (cnt 5 L : Int), (cnt 6 L : Int)] := rfl

theorem cnts_set (L : List Int) (k p : Nat) (h : k < L.length) (hp : pc (L.getD k 0).toNat = p) : (cnts (L.take k)).set p ((cnt p (L.take k) : Int) + 1) = cnts (L.take (k + 1)) := by
  have h7 := pc_le (L.getD k 0).toNat
  rw [hp] at h7
  rw [cnts_lit, cnts_lit]
  simp only [cnt_take _ L k h, hp]
  rcases (by omega : p = 0 ∨ p = 1 ∨ p = 2 ∨ p = 3 ∨ p = 4 ∨ p = 5 ∨ p = 6) with rfl | rfl | rfl | rfl | rfl | rfl | rfl <;> simp

end Go.Proofs.Ythobncbggaggjaa
