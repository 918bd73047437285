/-
  WALKS of chapter 6 by impl: the library's Concat of a row of slices.
-/
import Derived.Test.YthobncbggaggjaaWJoinI6
namespace Go.Proofs.Ythobncbggaggjaa
open Go.RowKit
open Sets Lin Hom Join

/-- A row of slices of numbers from the head of block b. -/
def SlAt (w : World) (b : Nat) (rs : List (Option Addr × Nat × List Int)) : Prop := ∀ j, j < rs.length → ∃ a c xs, rs.getD j (none, 0, []) = (a, c, xs) ∧ w.cell? ⟨b, j, none⟩ = some (.slice a xs.length c) ∧ Ints w a xs ∧ xs.length ≤ 64
theorem SlAt.keeps {w w' : World} {b : Nat} {rs : List (Option Addr × Nat × List Int)} (h : SlAt w b rs) (hb : Below w.heap.size w w') : SlAt w' b rs := fun j hj => by
  obtain ⟨a, c, xs, e, h1, h2, h3⟩ := h j hj
  exact ⟨a, c, xs, e, (hb.cell (p := ⟨b, j, none⟩) (World.block_lt_of_cell? w _ h1)).trans h1, h2.keeps hb, h3⟩
def catL (rs : List (Option Addr × Nat × List Int)) : List Int := rs.flatMap fun r => r.2.2
theorem catL_next (rs : List (Option Addr × Nat × List Int)) (k : Nat) (h : k < rs.length) : catL (rs.take (k + 1)) = catL (rs.take k) ++ (rs.getD k (none, 0, [])).2.2 := by
  unfold catL
  rw [List.take_add_one, List.flatMap_append]
  simp [List.getD, List.getElem?_eq_getElem h]

set_option maxRecDepth 100000 in
set_option maxHeartbeats 4000000 in
theorem concat_any (b c : Nat) (rs : List (Option Addr × Nat × List Int)) (hl : rs.length ≤ 64) (w : World) (h : SlAt w b rs) :
    Calls Try.prog 45 #[.slice (some ⟨b, 0, none⟩) rs.length c] w fun e w' => ∃ v, e = .returned v ∧ OwnInts w' w.heap.size v (catL rs) ∧ Below w.heap.size w w' := by
  obtain ⟨i0, hi, hz0, hz1, hz2⟩ := info_parts info_int
  have HP := Lib.hid h
  clear h
  go_enter Try.func45, Try.ntmps45
  go_wp2
  go_loop [3, 11] (fun s i => ∃ k z : Nat, k ≤ rs.length ∧ i = .int .i64 (k : Int) ∧ s = .int .i64 (z : Int) ∧ z = (catL (rs.take k)).length ∧ z ≤ 64 * k) (fun _ i => rs.length - (intOf i).toNat)
  case atStart => exact ⟨0, 0, Nat.zero_le _, rfl, rfl, rfl, by omega⟩
  case round =>
    obtain ⟨k, z, hk, rfl, rfl, hz, hz64⟩ := hrel
    have HZ := Lib.hid hz
    clear hz
    by_cases hlt : k < rs.length
    · obtain ⟨a, pc, xs, e, h1, h2, h3⟩ := HP.out k hlt
      have hnx := catL_next rs k hlt
      rw [e] at hnx
      dsimp only at hnx
      have HS : Hid (z + xs.length = (catL (rs.take (k + 1))).length) := Lib.hid (by rw [hnx, List.length_append, HZ.out])
      have hw : wrap64 ((z : Int) + (xs.length : Int)) = (z : Int) + (xs.length : Int) := IntWalk.wrap64_in _ (by omega)
      have hng : ¬ ((z : Int) + (xs.length : Int) < 0) := by omega
      clear e hnx h2
      go_wp2
      go_round
      case rel => exact ⟨k + 1, z + xs.length, by omega, by go_num, by first | rfl | (congr 1; omega), HS.out, by omega⟩
      case measure => simp [intOf]; omega
    · have E := Lib.hid (show k = rs.length by omega)
      go_wp2_with fail
      refine (growNil_any z (by omega) _).mono ?_
      rintro e w1 ⟨v, rfl, hO, hb1⟩
      have HO0 := Lib.hid hO
      have HB0 := Lib.hid hb1
      clear hO hb1
      go_wp2
      go_loopw [6, 8, 27] (fun v u i wr => ∃ k : Nat, k ≤ rs.length ∧ i = .int .i64 (k : Int) ∧ OwnInts wr w.heap.size v (catL (rs.take k)) ∧ (catL (rs.take k)).length ≤ 64 * k ∧ Below w.heap.size w wr) (fun _ _ i _ => rs.length - (intOf i).toNat)
      case atStart => exact ⟨0, Nat.zero_le _, rfl, HO0.out, Nat.zero_le _, HB0.out⟩
      case round =>
        clear HZ hz64 hlt E HO0 hk
        obtain ⟨k, hk, rfl, hO, hkl, hB⟩ := hrel
        have HO := Lib.hid hO
        unfold OwnInts at HO
        have HB := Lib.hid hB
        have hsz := hB.size
        obtain ⟨wo, rfl⟩ : ∃ wo : World, wo = wr := ⟨_, rfl⟩
        clear hO
        by_cases hlt : k < rs.length
        · obtain ⟨a, pc, xs, e, h1, h2, h3⟩ := HP.out.keeps hB k hlt
          have hnx := catL_next rs k hlt
          rw [e] at hnx
          have HNX := Lib.hid (show catL (rs.take (k + 1)) = catL (rs.take k) ++ xs from hnx)
          have HI := Lib.hid h2
          clear e hnx h2 hB
          go_wp2_with (at_builtin; refine wpList_append_src rfl _ _ 24 rfl w.heap.size 3 i0 (.int .i64 0) Try.underlying24 hi hz0 hz1 hz2 rfl _ _ _ rfl HO.out a pc xs rfl HI.out ?c1 ?c2 ?c3 ?_)
          case c1 => unfold maxLen; omega
          case c2 => omega
          case c3 => omega
          intro v' w3 hown1 hgrow
          have hB3 := HB.out.grown hgrow (by omega) (fun g hg => (HO.out.lt g hg).1)
          have hO5 : OwnInts w3 w.heap.size v' (catL (rs.take (k + 1))) := by
            rw [HNX.out]
            unfold OwnInts
            rw [List.length_append, List.map_append]
            exact hown1
          have hl5 : (catL (rs.take (k + 1))).length ≤ 64 * (k + 1) := by rw [HNX.out, List.length_append]; omega
          have HO5 := Lib.hid hO5
          have HB5 := Lib.hid hB3
          have HL5 := Lib.hid hl5
          clear hown1 hgrow hO5 hB3 hl5
          go_wp2
          go_roundw
          case rel => exact ⟨k + 1, by omega, by go_num, HO5.out, HL5.out, HB5.out⟩
          case measure => simp [intOf]; omega
        · have E := Lib.hid (show k = rs.length by omega)
          clear hB
          go_wp2
          go_ret
          exact ⟨_, rfl, by have h2 : OwnInts wo w.heap.size _ (catL (rs.take k)) := HO.out; rw [E.out, List.take_length] at h2; exact h2, HB.out⟩

/-- Concat of two slices that lie side by side in a new row. -/
theorem concat2_any (pa pb : Option Addr) (ca cb : Nat) (xs ys : List Int) (hlx : xs.length ≤ 64) (hly : ys.length ≤ 64) (V : World) (hx : Ints V pa xs) (hy : Ints V pb ys) :
    Calls Try.prog 45 #[.slice (some ⟨V.heap.size, 0, none⟩) 2 2] (V.alloc (.cells #[.slice pa xs.length ca, .slice pb ys.length cb] 24)) fun e w' => ∃ a c, e = .returned (.slice a (xs ++ ys).length c) ∧ Ints w' a (xs ++ ys) ∧ Below V.heap.size V w' := by
  obtain ⟨U, hU⟩ : ∃ U, V.alloc (.cells #[.slice pa xs.length ca, .slice pb ys.length cb] 24) = U := ⟨_, rfl⟩
  have hbu : Below V.heap.size V U := by rw [← hU]; exact (Below.refl _ _).alloc (Nat.le_refl _) _
  have hcell : ∀ j u, (#[.slice pa xs.length ca, .slice pb ys.length cb] : Array Value)[j]? = some u → U.cell? ⟨V.heap.size, j, none⟩ = some u := fun j u hu => by
    rw [← hU, World.cell?_alloc_new]; exact hu
  have hps : SlAt U V.heap.size [(pa, ca, xs), (pb, cb, ys)] := fun j hj => by
    have hj : j < 2 := hj
    rcases (by omega : j = 0 ∨ j = 1) with rfl | rfl
    · exact ⟨pa, ca, xs, rfl, hcell 0 _ rfl, hx.keeps hbu, hlx⟩
    · exact ⟨pb, cb, ys, rfl, hcell 1 _ rfl, hy.keeps hbu, hly⟩
  have hQ := concat_any V.heap.size 2 [(pa, ca, xs), (pb, cb, ys)] (by show 2 ≤ 64; decide) U hps
  rw [show catL [(pa, ca, xs), (pb, cb, ys)] = xs ++ ys by unfold catL; simp] at hQ
  rw [hU]
  refine hQ.mono ?_
  rintro e w' ⟨v, rfl, hO, hb⟩
  obtain ⟨a2, c2, g2, rfl, _, _, hr, _⟩ := OwnInts.ata hO hb.size
  exact ⟨a2, c2, rfl, hr.ints, hbu.trans (hb.mono hbu.size)⟩

end Go.Proofs.Ythobncbggaggjaa
