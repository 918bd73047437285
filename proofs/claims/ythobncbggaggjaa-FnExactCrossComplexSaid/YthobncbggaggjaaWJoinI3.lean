/-
  WALKS of chapter 6 by impl: a row of complexes; whether they fit together.
-/
import Derived.Test.YthobncbggaggjaaWJoinI2
namespace Go.Proofs.Ythobncbggaggjaa
open Go.RowKit
open Sets Lin Hom Join

/-- A part: its points, its facets' address, room and numbers. -/
abbrev Pt := Int × Option Addr × Nat × List Int
def pt0 : Pt := (0, none, 0, [])

/-- A row of complexes, from the head of block b. -/
def PartsAt (w : World) (b : Nat) (ps : List Pt) : Prop := ∀ j, j < ps.length → ∃ n a c xs, ps.getD j pt0 = (n, a, c, xs) ∧ w.cell? ⟨b, j * 2, none⟩ = some (.int .i64 n) ∧ w.cell? ⟨b, j * 2 + 1, none⟩ = some (.slice a xs.length c) ∧ Ints w a xs ∧ xs.length ≤ c ∧ xs.length ≤ 1099511627776
theorem PartsAt.keeps {w w' : World} {b : Nat} {ps : List Pt} (h : PartsAt w b ps) (hb : Below w.heap.size w w') : PartsAt w' b ps := fun j hj => by
  obtain ⟨n, a, c, xs, e, h1, h2, h3, h4, h5⟩ := h j hj
  have hl := World.block_lt_of_cell? w _ h1
  exact ⟨n, a, c, xs, e, (hb.cell (p := ⟨b, j * 2, none⟩) hl).trans h1, (hb.cell (p := ⟨b, j * 2 + 1, none⟩) hl).trans h2, h3.keeps hb, h4, h5⟩

def sumN (ps : List Pt) : Int := ps.foldl (fun a p => a + p.1) 0
theorem sumN_next (ps : List Pt) (k : Nat) (h : k < ps.length) : sumN (ps.take (k + 1)) = sumN (ps.take k) + (ps.getD k pt0).1 := by
  unfold sumN
  rw [List.take_add_one, List.foldl_append]
  simp [List.getD, List.getElem?_eq_getElem h]
def allC (ps : List Pt) : Bool := ps.all fun p => isC p.1 p.2.2.2
theorem allC_next (ps : List Pt) (k : Nat) (h : k < ps.length) : allC (ps.take (k + 1)) = (allC (ps.take k) && isC (ps.getD k pt0).1 (ps.getD k pt0).2.2.2) := by
  unfold allC
  rw [List.take_add_one, List.all_append]
  simp [List.getD, List.getElem?_eq_getElem h]
theorem allC_not (ps : List Pt) (k : Nat) (h : k < ps.length) (hk : isC (ps.getD k pt0).1 (ps.getD k pt0).2.2.2 = false) : allC ps = false := by
  unfold allC
  rw [List.all_eq_false]
  refine ⟨ps.getD k pt0, ?_, by rw [hk]; decide⟩
  simp only [List.getD, List.getElem?_eq_getElem h, Option.getD_some]; exact List.getElem_mem h
def fitB (ps : List Pt) : Bool := allC ps && decide (sumN ps ≤ 6)

set_option maxRecDepth 100000 in
set_option maxHeartbeats 4000000 in
theorem fitTogether_b (b c : Nat) (ps : List Pt) (v : Bool) (hv : fitB ps = v) (hl : ps.length ≤ 6) (w : World) (h : PartsAt w b ps) :
    Calls Try.prog 43 #[.slice (some ⟨b, 0, none⟩) ps.length c] w fun e w' => e = .returned (.bool v) ∧ Below w.heap.size w w' := by
  have HP := Lib.hid h
  have HV := Lib.hid hv
  clear h hv
  go_enter Try.func43, Try.ntmps43
  go_wp2
  go_loopw [3, 8] (fun v i wr => ∃ k : Nat, ∃ z : Int, k ≤ ps.length ∧ i = .int .i64 (k : Int) ∧ v = .int .i64 z ∧ z = sumN (ps.take k) ∧ 0 ≤ z ∧ z ≤ 6 * (k : Int) ∧ allC (ps.take k) = true ∧ Below w.heap.size w wr) (fun _ i _ => ps.length - (intOf i).toNat)
  case atStart => exact ⟨0, 0, Nat.zero_le _, rfl, rfl, rfl, by omega, by omega, rfl, Below.refl _ _⟩
  case round =>
    obtain ⟨k, z, hk, rfl, rfl, hz, hz0, hz6, hA, hB⟩ := hrel
    have HZ := Lib.hid hz
    have HA := Lib.hid hA
    have HB := Lib.hid hB
    have hsz := hB.size
    obtain ⟨wo, rfl⟩ : ∃ wo : World, wo = wr := ⟨_, rfl⟩
    clear hz hA
    by_cases hlt : k < ps.length
    · obtain ⟨n, a, pc, xs, e, h1, h2, h3, h4, h5⟩ := HP.out.keeps hB k hlt
      clear hB
      have HE := Lib.hid e
      have HI := Lib.hid h3
      have hbi : Below wo.heap.size wo (wo.alloc (.cells #[.int .i64 n, .slice a xs.length pc] 26)) := (Below.refl _ _).alloc (Nat.le_refl _) _
      have H3 := Lib.hid (h3.keeps hbi)
      have TW := Lib.hid (Two.new wo (.int .i64 n) (.slice a xs.length pc) 26)
      have HB2 : Hid (Below w.heap.size w (wo.alloc (.cells #[.int .i64 n, .slice a xs.length pc] 26))) := HB.out.trans (hbi.mono hsz)
      clear e h3 hbi
      cases hC : isC n xs with
      | false =>
        have HC := Lib.hid hC
        have HF : Hid (v = false) := Lib.hid (by rw [← HV.out]; unfold fitB; rw [allC_not ps k hlt (by rw [HE.out]; exact hC)]; rfl)
        clear hC
        go_wp2_with fail
        refine (implIsC_b n _ _ xs h4 false HC.out h5 _ H3.out).mono ?_
        rintro e w1 ⟨rfl, hb1⟩
        have HB3 : Hid (Below w.heap.size w w1) := HB2.out.trans (hb1.mono HB2.out.size)
        clear hb1
        go_wp2
        go_ret
        exact ⟨by rw [HF.out]; rfl, HB3.out⟩
      | true =>
        have HC := Lib.hid hC
        have hn := isC_n hC
        have hzw : wrap64 (z + n) = z + n := IntWalk.wrap64_in _ (by omega)
        have HS : Hid (sumN (ps.take (k + 1)) = z + n) := Lib.hid (by rw [sumN_next ps k hlt, HE.out, HZ.out])
        have HA2 : Hid (allC (ps.take (k + 1)) = true) := Lib.hid (by rw [allC_next ps k hlt, HA.out, HE.out, Bool.true_and]; exact hC)
        clear hC
        go_wp2_with fail
        refine (implIsC_b n _ _ xs h4 true HC.out h5 _ H3.out).mono ?_
        rintro e w1 ⟨rfl, hb1⟩
        have HB3 : Hid (Below w.heap.size w w1) := HB2.out.trans (hb1.mono HB2.out.size)
        obtain ⟨t0, t1, t2, _, _⟩ := TW.out.keeps hb1
        clear hb1
        go_wp2
        go_roundw
        case rel => exact ⟨k + 1, z + n, by omega, by go_num, rfl, HS.out.symm, by omega, by omega, HA2.out, HB3.out⟩
        case measure => simp [intOf]; omega
    · have E := Lib.hid (show k = ps.length by omega)
      have HF : Hid (decide (z ≤ 6) = v) := Lib.hid (by rw [← HV.out]; unfold fitB; rw [HZ.out, E.out, List.take_length]; have h2 := HA.out; rw [E.out, List.take_length] at h2; rw [h2]; rfl)
      go_wp2
      go_ret
      exact ⟨by rw [← HF.out]; rfl, HB.out⟩

end Go.Proofs.Ythobncbggaggjaa
