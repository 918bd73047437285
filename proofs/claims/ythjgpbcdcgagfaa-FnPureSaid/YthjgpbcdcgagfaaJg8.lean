/-
  TEXTS of one claim, put together: ArrEq, WCnt2, WCnt3, WCnt4.
-/
import Derived.Laws.StructEq
import Derived.Test.YthjgpbcdcgagfaaJg7
import Derived.Test.YthjgpbcdcgagfaaJg2
import Derived.Laws.CopyOwn
import Derived.Deep.WholeRow
import Derived.Laws.Rows
/-! ARRAYS OF NUMBERS, compared: equal exactly if the lists are. -/

namespace Go.Proofs.Ythjgpbcdcgagfaa
open Go

/-- The cells of a list of numbers. -/
def icells (xs : List Int) : List Value := xs.map fun x => Value.int .i64 x
theorem icells_length (xs : List Int) : (icells xs).length = xs.length := List.length_map _
theorem icells_at (xs : List Int) (i : Nat) (h : i < xs.length) : (icells xs)[i]? = some (.int .i64 (xs.getD i 0)) := by
  unfold icells; rw [List.getElem?_map, List.getElem?_eq_getElem h, List.getD, List.getElem?_eq_getElem h]; rfl

theorem ints_range_eq : ∀ (xs ys : List Int), xs.length = ys.length → ((List.range xs.length).all fun i => xs.getD i 0 == ys.getD i 0) = (xs == ys)
  | [], [], _ => rfl
  | x :: xs, y :: ys, h => by
    have ih := ints_range_eq xs ys (by simpa using h)
    rw [List.length_cons, List.range_succ_eq_map, List.all_cons, List.all_map]
    simp only [List.getD_cons_zero, Function.comp_def, List.getD_cons_succ, ih]
    simp [List.cons_beq_cons]
  | [], _ :: _, h => by simp at h
  | _ :: _, [], h => by simp at h

theorem equalIn_ints {P : Program} (w : World) (d : Nat) (t e : TypeId) (n : Nat) (ht : P.underlying t = some (.array n e)) (he : P.underlying e = some (.int .i64)) (hsz : ∀ w, (sizeOf e).run P w = .ok 1 w)
    (xs ys : List Int) (hx : xs.length = n) (hy : ys.length = n) :
    (Op.equalIn (d + 2) t (.agg (icells xs).toArray) (.agg (icells ys).toArray)).run P w = .ok (xs == ys) w := by
  rw [← ints_range_eq xs ys (hx.trans hy.symm), hx, List.range_eq_range', Op.equalIn]
  simp only [Sem.run_bind, run_underlying ht, Result.andThen_ok, hsz, Std.Legacy.Range.forIn_eq_forIn_range', Std.Legacy.Range.size, Nat.sub_zero, Nat.add_sub_cancel, Nat.div_one]
  have hl : ∀ i ∈ List.range' 0 n 1, i < n := fun i hi => by simpa using (List.mem_range'_1.1 hi).2
  generalize List.range' 0 n 1 = l at hl ⊢
  induction l with
  | nil => simp
  | cons i l ih =>
    have hi : i < n := hl i (by simp)
    have px : (part e (icells xs).toArray (i * 1)).run P w = .ok (.int .i64 (xs.getD i 0)) w := by
      simp [part, isAgg, run_underlying he, icells_at xs i (by omega)]
    have py : (part e (icells ys).toArray (i * 1)).run P w = .ok (.int .i64 (ys.getD i 0)) w := by
      simp [part, isAgg, run_underlying he, icells_at ys i (by omega)]
    have pe : (Op.equalIn (d + 1) e (.int .i64 (xs.getD i 0)) (.int .i64 (ys.getD i 0))).run P w = .ok (xs.getD i 0 == ys.getD i 0) w :=
      run_equalIn_int w d e .i64 .i64 _ _ he
    simp only [List.forIn_cons, Sem.run_bind, px, py, pe, Result.andThen_ok, List.all_cons]
    cases hb : (xs.getD i 0 == ys.getD i 0)
    · simp
    · simp only [Bool.not_true, Bool.false_eq_true, if_false, Sem.run_pure, Result.andThen_ok, Bool.true_and]
      exact ih fun j hj => hl j (by simp [hj])

end Go.Proofs.Ythjgpbcdcgagfaa

/-! WALKS of chapter 4: countSizes; impl's FaceCounts and EulerOf. -/

namespace Go.Proofs.Ythjgpbcdcgagfaa
open Go.RowKit
open Sets

/-! ### an array of numbers in a block -/

def RowAt (w : World) (B : Nat) (t : TypeId) (L : List Int) : Prop := w.heap[B]? = some (.cells (icells L).toArray t (0, 0))
theorem RowAt.lt {w : World} {B : Nat} {t : TypeId} {L : List Int} (h : RowAt w B t L) : B < w.heap.size := (Array.getElem?_eq_some_iff.1 h).1
theorem RowAt.cell {w : World} {B : Nat} {t : TypeId} {L : List Int} (h : RowAt w B t L) (j : Nat) (hj : j < L.length) : w.cell? ⟨B, j, none⟩ = some (.int .i64 (L.getD j 0)) := by
  unfold RowAt at h
  simp only [World.cell?, h]
  simpa using icells_at L j hj
theorem RowAt.frozen {w : World} {B : Nat} {t : TypeId} {L : List Int} (h : RowAt w B t L) (j : Nat) : w.frozen? ⟨B, j, none⟩ = false := by
  unfold RowAt at h
  simp [World.frozen?, h]
theorem RowAt.keeps {w w' : World} {B : Nat} {t : TypeId} {L : List Int} (h : RowAt w B t L) (hb : Below w.heap.size w w') : RowAt w' B t L := by
  unfold RowAt; rw [hb.block B h.lt]; exact h
theorem RowAt.set {w : World} {B : Nat} {t : TypeId} {L : List Int} (h : RowAt w B t L) (j : Nat) (x : Int) : RowAt (w.setCell ⟨B, j, none⟩ (.int .i64 x)) B t (L.set j x) := by
  have hlt := h.lt
  unfold RowAt at h ⊢
  have hv := (Array.getElem?_eq_some_iff.1 h).2
  unfold World.setCell
  rw [Array.getElem?_eq_getElem (by simpa using hlt), Array.getElem_modify]
  simp only [if_pos, hv]
  simp [icells, List.map_set]
theorem RowAt.ints {w : World} {B : Nat} {t : TypeId} {L : List Int} (h : RowAt w B t L) (k : Nat) (hk : k ≤ L.length) : IntsAt w B (some ⟨B, 0, none⟩) (L.take k) := fun j hj => by
  rw [List.length_take] at hj
  refine ⟨rfl, h.lt, ?_, h.frozen j⟩
  rw [List.getD, List.getElem?_take_of_lt (by omega)]
  exact h.cell j (by omega)

theorem cnts_nil : cnts [] = List.replicate 7 0 := rfl
theorem cnts_lit (L : List Int) : cnts L = [(cnt 0 L : Int), (cnt 1 L : Int), (cnt 2 L : Int), (cnt 3 L : Int), (cnt 4 L : Int), (cnt 5 L : Int), (cnt 6 L : Int)] := rfl

theorem cnts_set (L : List Int) (k p : Nat) (h : k < L.length) (hp : pc (L.getD k 0).toNat = p) : (cnts (L.take k)).set p ((cnt p (L.take k) : Int) + 1) = cnts (L.take (k + 1)) := by
  have h7 := pc_le (L.getD k 0).toNat
  rw [hp] at h7
  rw [cnts_lit, cnts_lit]
  simp only [cnt_take _ L k h, hp]
  rcases (by omega : p = 0 ∨ p = 1 ∨ p = 2 ∨ p = 3 ∨ p = 4 ∨ p = 5 ∨ p = 6) with rfl | rfl | rfl | rfl | rfl | rfl | rfl <;> simp

end Go.Proofs.Ythjgpbcdcgagfaa

/-! WALKS of chapter 4: FaceCounts and EulerOf by impl; EulerOf and FacesOfSize by spec. -/

namespace Go.Proofs.Ythjgpbcdcgagfaa
open Go.RowKit
open Sets

theorem faces_ok (n : Int) (xs : List Int) : allOk (faces n xs) = true := by
  unfold allOk
  rw [List.all_eq_true]
  intro x hx
  obtain ⟨j, hj, rfl⟩ := List.mem_iff_getElem.1 hx
  obtain ⟨s, hs, hs64⟩ := faces_at n xs j hj
  rw [List.getD, List.getElem?_eq_getElem hj] at hs
  have hs : (faces n xs)[j] = (s : Int) := hs
  rw [hs]; exact (okZ_nat s).2 hs64

theorem intSize (w : World) : (sizeOf 3).run Try.prog w = .ok 1 w := by
  have hi : (Try.prog.info? 3).map (·.size) = some 1 := by kernel_rfl
  cases hq : Try.prog.info? 3 with
  | none => rw [hq] at hi; cases hi
  | some i =>
    rw [hq] at hi
    have : i.size = 1 := by simpa using hi
    simp [sizeOf, typeInfo, hq, this]

end Go.Proofs.Ythjgpbcdcgagfaa

/-! WALKS of chapter 4: EulerOf by impl and by spec. -/

namespace Go.Proofs.Ythjgpbcdcgagfaa
open Go.RowKit
open Sets

end Go.Proofs.Ythjgpbcdcgagfaa
