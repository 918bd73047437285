/-
  THE WALK of the law on FirstMonomials: the law's own text; spec's and impl's answers are premises (written by genmxl.py).
-/
import Derived.Test.YtmonaiojejbhkaaWMx4
namespace Go.Proofs.Ytmonaiojejbhkaa
open Go.RowKit

set_option maxRecDepth 100000 in
set_option maxHeartbeats 4000000 in
theorem exactFirstMonomials_walk (aN : Int) (aD : Int) (aM : Int) (w : World) (M : Lin.Mat) (hlen : M.length ≤ 1099511627776) (hoff : 1 + offM M M.length ≤ 1099511627776)
    (hs : ∀ (w : World), Calls Try.prog 24 #[.int .i64 aN, .int .i64 aD, .int .i64 aM] w fun e w' => ∃ v, e = .returned v ∧ HasMx w' w.heap.size v M ∧ Below w.heap.size w w')
    (hi : ∀ (w : World), Calls Try.prog 23 #[.int .i64 aN, .int .i64 aD, .int .i64 aM] w fun e w' => ∃ v, e = .returned v ∧ HasMx w' w.heap.size v M ∧ Below w.heap.size w w') :
    Calls Try.prog 8 #[.int .i64 aN, .int .i64 aD, .int .i64 aM] w fun e w' => e = .returned (.bool true) ∧ Below w.heap.size w w' := by
  have HS := Lib.hid hs
  have HI := Lib.hid hi
  have HOF := Lib.hid hoff
  have HLN := Lib.hid hlen
  clear hs hi hoff
  go_enter Try.func8, Try.ntmps8
  go_wp2_with fail
  refine (HS.out _).mono ?_
  rintro e w1 ⟨v1, rfl, ⟨a1, c1, g1, R1, rfl, ho1, hr1, hM1⟩, hb1⟩
  have X1 := Lib.hid hM1
  have O1 := Lib.hid ho1
  have S1 := Lib.hid hr1
  have B1 := Lib.hid hb1
  have hz1 := hb1.size
  clear hM1 ho1 hr1 hb1
  go_wp2_with fail
  refine (HI.out _).mono ?_
  rintro e w2 ⟨v2, rfl, ⟨a2, c2, g2, R2, rfl, ho2, hr2, hM2⟩, hb2⟩
  have X2 := Lib.hid hM2
  have O2 := Lib.hid ho2
  have S2 := Lib.hid hr2
  have B2 := Lib.hid (B1.out.trans (hb2.mono hz1))
  have X1b := Lib.hid (X1.out.keeps hb2)
  have hz2 := hb2.size
  clear hM2 ho2 hr2 hb2
  go_wp2_with fail
  refine (eqMx_any _ _ _ _ _ _ _ _ M HLN.out (by have := HOF.out; omega) _ X2.out X1b.out).mono ?_
  rintro e w3 ⟨rfl, hb3⟩
  have X2c := Lib.hid (X2.out.keeps hb3)
  have X1c := Lib.hid (X1b.out.keeps hb3)
  have B3 := Lib.hid (B2.out.trans (hb3.mono (by omega)))
  have hz3 := hb3.size
  clear hb3
  go_wp2_with fail
  refine (markMx_any _ _ _ _ M 1 _ rfl HLN.out HOF.out _ X2c.out).mono ?_
  rintro e w4 ⟨rfl, hM4, hO4⟩
  have X2d := Lib.hid hM4
  have X1d := Lib.hid (X1c.out.only hO4 (fun h hm => by have := (S2.out _ hm).1; have := O1.out h; omega) (fun g hg hm => by have := (S2.out _ hm).1; have := S1.out _ hg; omega))
  have B4 := Lib.hid (B3.out.trans (hO4.below (B := w.heap.size) (fun g hg => by have := (S2.out _ hg).1; omega) (by omega)))
  have hz4 := hO4.size
  clear hM4 hO4
  obtain ⟨t, ht⟩ : ∃ t, 1 + offM M M.length = t := ⟨_, rfl⟩
  have HT := Lib.hid ht
  rw [ht]
  clear ht
  go_wp2_with fail
  refine (heldMx_any _ _ _ _ M 1 _ rfl HLN.out HOF.out _ X2d.out).mono ?_
  rintro e w5 ⟨rfl, hb5⟩
  have X2e := Lib.hid (X2d.out.keeps hb5)
  have X1e := Lib.hid (X1d.out.keeps hb5)
  have B5 := Lib.hid (B4.out.trans (hb5.mono (by omega)))
  have hz5 := hb5.size
  clear hb5
  rw [HT.out]
  have hneg : decide ((t : Int) < 0) = false := by simp
  go_wp2_with fail
  refine (HI.out _).mono ?_
  rintro e w6 ⟨v6, rfl, ⟨a6, c6, g6, R6, rfl, ho6, hr6, hM6⟩, hb6⟩
  have X6 := Lib.hid hM6
  have X2f := Lib.hid (X2e.out.keeps hb6)
  have X1f := Lib.hid (X1e.out.keeps hb6)
  have B6 := Lib.hid (B5.out.trans (hb6.mono (by omega)))
  have hz6 := hb6.size
  clear hM6 ho6 hr6 hb6
  go_wp2_with fail
  refine (eqMx_any _ _ _ _ _ _ _ _ M HLN.out (by have := HOF.out; omega) _ X6.out X1f.out).mono ?_
  rintro e w7 ⟨rfl, hb7⟩
  have X2g := Lib.hid (X2f.out.keeps hb7)
  have B7 := Lib.hid (B6.out.trans (hb7.mono (by omega)))
  have hz7 := hb7.size
  clear hb7
  go_wp2_with fail
  refine (heldMx_any _ _ _ _ M 1 _ rfl HLN.out HOF.out _ X2g.out).mono ?_
  rintro e w8 ⟨rfl, hb8⟩
  have B8 := Lib.hid (B7.out.trans (hb8.mono (by omega)))
  clear hb8
  rw [HT.out]
  go_wp2
  go_ret
  exact ⟨rfl, B8.out⟩

end Go.Proofs.Ytmonaiojejbhkaa
