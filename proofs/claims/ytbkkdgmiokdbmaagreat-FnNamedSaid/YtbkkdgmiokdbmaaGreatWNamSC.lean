/-
  WALKS: spec's chapter 9: CountSymmetries.
-/
import Derived.Test.YtbkkdgmiokdbmaaGreatJg22
namespace Go.Proofs.YtbkkdgmiokdbmaaGreat
open Go.RowKit
open Sets Nam

/-- CountSymmetries. -/
def symCount (n : Int) (xs : List Int) : Nat := if isC n xs = true then (symL n.toNat xs).length else 0
theorem symCount_no {n : Int} {xs : List Int} (h : isC n xs = false) : symCount n xs = 0 := by unfold symCount; rw [if_neg (by rw [h]; simp)]
theorem symCount_yes {n : Int} {xs : List Int} (h : isC n xs = true) : symCount n xs = (symL n.toNat xs).length := by unfold symCount; rw [if_pos h]

set_option maxRecDepth 100000 in
set_option maxHeartbeats 1000000 in
theorem specCountSym_any (n : Int) (a : Option Addr) (c : Nat) (xs : List Int) (hlen : xs.length ≤ 1099511627776) (w : World) (h : Ints w a xs) :
    Calls Tryz.prog 23 #[cx n (.slice a xs.length c)] w fun e w' => e = .returned (.int .i64 (symCount n xs : Nat)) ∧ Below w.heap.size w w' := by
  have hb0 : Below w.heap.size w (w.alloc (Obj.cells #[Value.int IntKind.i64 n, Value.slice a xs.length c] 26)) := (Below.refl _ _).alloc (Nat.le_refl _) _
  have htwo : Two (w.alloc (Obj.cells #[Value.int IntKind.i64 n, Value.slice a xs.length c] 26)) w.heap.size (.int .i64 n) (.slice a xs.length c) := Two.new _ _ _ _
  have H := Lib.hid (h.keeps hb0)
  have HB0 := Lib.hid hb0
  have HT := Lib.hid htwo
  clear h hb0 htwo
  cases hC : isC n xs with
  | false =>
    have HC := Lib.hid hC
    rw [symCount_no hC]
    clear hC
    go_enter Tryz.func23, Tryz.ntmps23
    go_wp2_with fail
    refine (specIsC_b n _ _ xs false HC.out hlen _ H.out).mono ?_
    rintro e w1 ⟨rfl, hb1⟩
    go_wp2
    go_ret
    exact ⟨rfl, HB0.out.trans (hb1.mono (by simp))⟩
  | true =>
    have HC := Lib.hid hC
    rw [symCount_yes hC]
    obtain ⟨m, rfl, hm1, hm6⟩ := isC_cast hC
    rw [Int.toNat_natCast]
    clear hC
    go_enter Tryz.func23, Tryz.ntmps23
    go_wp2_with fail
    refine (specIsC_b (m : Int) _ _ xs true HC.out hlen _ H.out).mono ?_
    rintro e w1 ⟨rfl, hb1⟩
    have HB1 : Hid (Below w.heap.size w w1) := HB0.out.trans (hb1.mono (by simp))
    have HI1 := Lib.hid (H.out.keeps hb1)
    obtain ⟨t0, t1, t2, _, _⟩ := HT.out.keeps hb1
    have hs1 := HB1.out.size
    clear hb1
    go_wp2_with fail
    refine (l9Sym_any m hm1 hm6 a c xs HC.out _ HI1.out).mono ?_
    rintro e w2 ⟨v, R, rfl, hO, hb2⟩
    have HB2 : Hid (Below w.heap.size w w2) := HB1.out.trans (hb2.mono hs1)
    obtain ⟨go, ao, co, hv, _, _⟩ := hO.mx
    have hl : ((symL m xs).map Zs).length = (symL m xs).length := List.length_map ..
    rw [hl] at hv
    subst hv
    obtain ⟨q, hq⟩ : ∃ q, (symL m xs).length = q := ⟨_, rfl⟩
    rw [hq]
    have HQ := Lib.hid hq
    clear hO hb2 hl hq t0 t1 t2
    go_wp2
    go_ret
    exact ⟨by rw [HQ.out]; rfl, HB2.out⟩

end Go.Proofs.YtbkkdgmiokdbmaaGreat
