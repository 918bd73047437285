/-
  TEXTS of one claim, put together: WCnt2, WCnt3, WCnt4, WCnt5.
-/
import Derived.Test.YtbkkdgmiokdbmaaJg20
import Derived.Test.YtbkkdgmiokdbmaaHas
import Derived.Laws.CopyOwn
import Derived.Deep.WholeRow
import Derived.Laws.Rows
import Derived.StillTailTactics
/-! WALKS of chapter 4: countSizes; impl's FaceCounts and EulerOf. -/

namespace Go.Proofs.Ytbkkdgmiokdbmaa
open Go.RowKit
open Sets

/-! ### an array of numbers in a block -/

def RowAt (w : World) (B : Nat) (t : TypeId) (L : List Int) : Prop := w.heap[B]? = some (.cells (icells L).toArray t (0, 0))
theorem RowAt.lt {w : World} {B : Nat} {t : TypeId} {L : List Int} (h : RowAt w B t L) : B < w.heap.size := (Array.getElem?_eq_some_iff.1 h).1
theorem RowAt.cell {w : World} {B : Nat} {t : TypeId} {L : List Int} (h : RowAt w B t L) (j : Nat) (hj : j < L.length) : w.cell? ⟨B, j, none⟩ = some (.int .i64 (L.getD j 0)) := by
  unfold RowAt at h
  simp only [World.cell?, h]
  simpa using icells_at L j hj
theorem RowAt.frozen {w : World} {B : Nat} {t : TypeId} {L : List Int} (h : RowAt w B t L) (j : Nat) : w.frozen? ⟨B, j, none⟩ = false := by
  unfold RowAt at h
  simp [World.frozen?, h]
theorem RowAt.keeps {w w' : World} {B : Nat} {t : TypeId} {L : List Int} (h : RowAt w B t L) (hb : Below w.heap.size w w') : RowAt w' B t L := by
  unfold RowAt; rw [hb.block B h.lt]; exact h
theorem RowAt.set {w : World} {B : Nat} {t : TypeId} {L : List Int} (h : RowAt w B t L) (j : Nat) (x : Int) : RowAt (w.setCell ⟨B, j, none⟩ (.int .i64 x)) B t (L.set j x) := by
  have hlt := h.lt
  unfold RowAt at h ⊢
  have hv := (Array.getElem?_eq_some_iff.1 h).2
  unfold World.setCell
  rw [Array.getElem?_eq_getElem (by simpa using hlt), Array.getElem_modify]
  simp only [if_pos, hv]
  simp [icells, List.map_set]
theorem RowAt.ints {w : World} {B : Nat} {t : TypeId} {L : List Int} (h : RowAt w B t L) (k : Nat) (hk : k ≤ L.length) : IntsAt w B (some ⟨B, 0, none⟩) (L.take k) := fun j hj => by
  rw [List.length_take] at hj
  refine ⟨rfl, h.lt, ?_, h.frozen j⟩
  rw [List.getD, List.getElem?_take_of_lt (by omega)]
  exact h.cell j (by omega)

theorem cnts_nil : cnts [] = List.replicate 7 0 := rfl
theorem cnts_lit (L : List Int) : cnts L = [(cnt 0 L : Int), (cnt 1 L : Int), (cnt 2 L : Int), (cnt 3 L : Int), (cnt 4 L : Int), (cnt 5 L : Int), (cnt 6 L : Int)] := rfl

theorem cnts_set (L : List Int) (k p : Nat) (h : k < L.length) (hp : pc (L.getD k 0).toNat = p) : (cnts (L.take k)).set p ((cnt p (L.take k) : Int) + 1) = cnts (L.take (k + 1)) := by
  have h7 := pc_le (L.getD k 0).toNat
  rw [hp] at h7
  rw [cnts_lit, cnts_lit]
  simp only [cnt_take _ L k h, hp]
  rcases (by omega : p = 0 ∨ p = 1 ∨ p = 2 ∨ p = 3 ∨ p = 4 ∨ p = 5 ∨ p = 6) with rfl | rfl | rfl | rfl | rfl | rfl | rfl <;> simp

end Go.Proofs.Ytbkkdgmiokdbmaa

/-! WALKS of chapter 4: FaceCounts and EulerOf by impl; EulerOf and FacesOfSize by spec. -/

namespace Go.Proofs.Ytbkkdgmiokdbmaa
open Go.RowKit
open Sets

theorem faces_ok (n : Int) (xs : List Int) : allOk (faces n xs) = true := by
  unfold allOk
  rw [List.all_eq_true]
  intro x hx
  obtain ⟨j, hj, rfl⟩ := List.mem_iff_getElem.1 hx
  obtain ⟨s, hs, hs64⟩ := faces_at n xs j hj
  rw [List.getD, List.getElem?_eq_getElem hj] at hs
  have hs : (faces n xs)[j] = (s : Int) := hs
  rw [hs]; exact (okZ_nat s).2 hs64

theorem intSize (w : World) : (sizeOf 3).run Try.prog w = .ok 1 w := by
  have hi : (Try.prog.info? 3).map (·.size) = some 1 := by kernel_rfl
  cases hq : Try.prog.info? 3 with
  | none => rw [hq] at hi; cases hi
  | some i =>
    rw [hq] at hi
    have : i.size = 1 := by simpa using hi
    simp [sizeOf, typeInfo, hq, this]

end Go.Proofs.Ytbkkdgmiokdbmaa

/-! WALKS of chapter 4: EulerOf by impl and by spec. -/

namespace Go.Proofs.Ytbkkdgmiokdbmaa
open Go.RowKit
open Sets

end Go.Proofs.Ytbkkdgmiokdbmaa

/-! WALKS of chapter 4: EulerOf, FacesOfSize and FaceCounts by spec. -/

namespace Go.Proofs.Ytbkkdgmiokdbmaa
open Go.RowKit
open Sets

/-- What writes into another row leave. -/
theorem IntsAt.away {w w' : World} {g : Nat} {row : Option Nat} {a : Option Addr} {xs : List Int} (h : IntsAt w g a xs) (hg : w.grownBy w' row) (hne : row ≠ some g) : IntsAt w' g a xs := fun j hj => by
  obtain ⟨e, hl, hc, hf⟩ := h j hj
  have hb := hg.block g hl (Ne.symm hne)
  have := hg.size
  exact ⟨e, by omega, by rw [World.cell?_of_block (w := w) (w' := w') (a := ⟨g, j, none⟩) hb]; exact hc, by rw [World.frozen?_of_block (w := w) (w' := w') (a := ⟨g, j, none⟩) hb]; exact hf⟩

theorem OwnInts.put {w : World} {base g c : Nat} {xs : List Int} (h : OwnInts w base (.slice (some ⟨g, 0, none⟩) xs.length c) xs) (j : Nat) (x : Int) :
    OwnInts (w.setCell ⟨g, j, none⟩ (.int .i64 x)) base (.slice (some ⟨g, 0, none⟩) (xs.set j x).length c) (xs.set j x) := by
  unfold OwnInts at *
  rw [List.length_set, List.map_set]
  exact (World.ownsRow.stored h j _).1

theorem wp_region_tail {P : Program} {id : Nat} {Q : Exit → Act → World → Prop} {a : Act} {w : World} {l : List Oper} (n : Nat) (hm : P.follows .mixedOrders = true) (hB : Region.lexTailB .any l.toArray n = true)
    (h : wpStill P l.toArray w.drew (fun a' => wpList P l.toArray Q (l.drop n) a' w.drew) (l.take n) a) : (Code.region id l.toArray true).wp P Q a w := wp_region_still_tail n hm hB h

/-- The length that a slice value bears. -/
def lenOf : Value → Nat | .slice _ n _ => n | _ => 0

/-- The counts so far, with m rows. -/
def cntsTo (m : Nat) (L : List Int) : List Int := (cnts L).take m
theorem cntsTo_length (m : Nat) (L : List Int) (h : m ≤ 7) : (cntsTo m L).length = m := by unfold cntsTo; rw [List.length_take, cnts_length]; omega
theorem cntsTo_at (m : Nat) (L : List Int) (h : m ≤ 7) (j : Nat) (hj : j < m) : (cntsTo m L).getD j 0 = (cnt j L : Int) := by
  unfold cntsTo; rw [List.getD, List.getElem?_take_of_lt hj, ← List.getD_eq_getElem?_getD, cnts_at L j (by omega)]
theorem cntsTo_zero (L : List Int) : cntsTo 0 L = [] := rfl
theorem cntsTo_next (m : Nat) (L : List Int) (h : m < 7) (h0 : cnt m L = 0) : cntsTo (m + 1) L = cntsTo m L ++ [0] := by
  unfold cntsTo
  rw [take_nx _ _ (by rw [cnts_length]; exact h), cnts_at L m h, h0]; rfl
theorem cntsTo_set (m : Nat) (L : List Int) (k p : Nat) (h : k < L.length) (hp : pc (L.getD k 0).toNat = p) : (cntsTo m (L.take k)).set p ((cnt p (L.take k) : Int) + 1) = cntsTo m (L.take (k + 1)) := by
  unfold cntsTo
  rw [← cnts_set L k p h hp, List.take_set]

end Go.Proofs.Ytbkkdgmiokdbmaa
