/-
  THE LAW ON BORDERS: its helpers: the contracts of chapter 13 for a matrix that a value stands for.
-/
import Derived.Test.YthjgpbcdcgagfaaJg23
import Derived.Test.YthjgpbcdcgagfaaJg25
import Derived.Test.YthjgpbcdcgagfaaWDrawMat2
namespace Go.Proofs.Ythjgpbcdcgagfaa
open Go.RowKit
open Sets

def LimM (M : Lin.Mat) : Prop := M.length ≤ 1099511627776 ∧ ∀ i, i < M.length → (Lin.row M i).length ≤ 1099511627776
def FitM (M : Lin.Mat) : Prop := M.length ≤ 1099511627776 ∧ 1 + offM M M.length ≤ 1099511627776
theorem FitM.lim {M : Lin.Mat} (h : FitM M) : LimM M := ⟨h.1, fun i hi => by have := offM_row M i hi; have := h.2; omega⟩
theorem DrawnMx.few {k : Nat} {w : World} {base : Nat} {v : Value} {M : Lin.Mat} (h : DrawnMx k w base v M) (hk : k ≤ 1000) : M.length + offM M M.length ≤ 1048576 := by
  have h1 := h.2.1
  have h2 := offM_same (k := 6) M h.2.2
  omega
theorem few_lim {M : Lin.Mat} (h : M.length + offM M M.length ≤ 1048576) : LimM M := rows_le h

theorem rankI_h {base : Nat} {v : Value} {M : Lin.Mat} {p z : Int} (hz : rankZ M p = z) (hl : LimM M) (w : World) (h : HasMx w base v M) :
    Calls Try.prog 24 #[v, .int .i64 p] w fun e w' => e = .returned (.int .i64 z) ∧ Below w.heap.size w w' := by
  subst hz; obtain ⟨ao, co, go, R, rfl, -, -, h4⟩ := h; exact implRank_any p go ao co R M hl.1 hl.2 w h4
theorem rankS_h {base : Nat} {v : Value} {M : Lin.Mat} {p z : Int} (hz : rankZ M p = z) (hl : LimM M) (w : World) (h : HasMx w base v M) :
    Calls Try.prog 25 #[v, .int .i64 p] w fun e w' => e = .returned (.int .i64 z) ∧ Below w.heap.size w w' := by
  subst hz; obtain ⟨ao, co, go, R, rfl, -, -, h4⟩ := h; exact specRank_any p go ao co R M hl.1 w h4
theorem turnI_h {base : Nat} {v : Value} {M T : Lin.Mat} (hT : turnZ M = T) (hl : LimM M) (w : World) (h : HasMx w base v M) :
    Calls Try.prog 16 #[v] w fun e w' => ∃ v', e = .returned v' ∧ HasMx w' w.heap.size v' T ∧ Below w.heap.size w w' := by
  subst hT; obtain ⟨ao, co, go, R, rfl, -, -, h4⟩ := h; exact implTurn_any go ao co R M hl.1 hl.2 w h4
theorem turnS_h {base : Nat} {v : Value} {M T : Lin.Mat} (hT : turnZ M = T) (hl : LimM M) (w : World) (h : HasMx w base v M) :
    Calls Try.prog 26 #[v] w fun e w' => ∃ v', e = .returned v' ∧ HasMx w' w.heap.size v' T ∧ Below w.heap.size w w' := by
  subst hT; obtain ⟨ao, co, go, R, rfl, -, -, h4⟩ := h; exact mx_has (specTurn_any go ao co R M hl.1 hl.2 w h4)
theorem timesI_h {b1 b2 : Nat} {v1 v2 : Value} {A B T : Lin.Mat} {f : Bool} (hT : timesZ A B = T) (hf : timesOk A B = f) (hA : LimM A) (hB : LimM B) (w : World) (h1 : HasMx w b1 v1 A) (h2 : HasMx w b2 v2 B) :
    Calls Try.prog 18 #[v1, v2] w fun e w' => ∃ v', e = .returned (.tuple #[v', .bool f]) ∧ HasMx w' w.heap.size v' T ∧ Below w.heap.size w w' := by
  subst hT hf; obtain ⟨a1, c1, g1, R1, rfl, -, -, q1⟩ := h1; obtain ⟨a2, c2, g2, R2, rfl, -, -, q2⟩ := h2
  exact implTimes_any g1 g2 a1 a2 c1 c2 R1 R2 A B hA.1 hB.1 hA.2 hB.2 w q1 q2
theorem timesS_h {b1 b2 : Nat} {v1 v2 : Value} {A B T : Lin.Mat} {f : Bool} (hT : timesZ A B = T) (hf : timesOk A B = f) (hA : LimM A) (hB : LimM B) (w : World) (h1 : HasMx w b1 v1 A) (h2 : HasMx w b2 v2 B) :
    Calls Try.prog 19 #[v1, v2] w fun e w' => ∃ v', e = .returned (.tuple #[v', .bool f]) ∧ HasMx w' w.heap.size v' T ∧ Below w.heap.size w w' := by
  subst hT hf; obtain ⟨a1, c1, g1, R1, rfl, -, -, q1⟩ := h1; obtain ⟨a2, c2, g2, R2, rfl, -, -, q2⟩ := h2
  exact mb_has (specTimes_any g1 g2 a1 a2 c1 c2 R1 R2 A B hA.1 hB.1 w q1 q2)
theorem bordI_h (n : Int) (a : Option Addr) (c l : Nat) (xs : List Int) (hl : xs.length = l) (hcap : l ≤ c) (hlen : l ≤ 1099511627776) (k : Int) (B : Lin.Mat) (hB : bordZ n xs k = B) (w : World) (h : Ints w a xs) :
    Calls Try.prog 13 #[cx n (.slice a l c), .int .i64 k] w fun e w' => ∃ v, e = .returned v ∧ HasMx w' w.heap.size v B ∧ Below w.heap.size w w' := by
  subst hl hB; exact implBordMx_any n a c xs hcap hlen k w h
theorem bordS_h (n : Int) (a : Option Addr) (c l : Nat) (xs : List Int) (hl : xs.length = l) (hlen : l ≤ 1099511627776) (k : Int) (B : Lin.Mat) (hB : bordZ n xs k = B) (w : World) (h : Ints w a xs) :
    Calls Try.prog 23 #[cx n (.slice a l c), .int .i64 k] w fun e w' => ∃ v, e = .returned v ∧ HasMx w' w.heap.size v B ∧ Below w.heap.size w w' := by
  subst hl hB; exact mx_has (specBordMx_any n a c xs hlen k w h)
theorem same_h {b1 b2 : Nat} {v1 v2 : Value} {M : Lin.Mat} (ho : FitM M) (w : World) (h1 : HasMx w b1 v1 M) (h2 : HasMx w b2 v2 M) :
    Calls Try.prog 22 #[v1, v2] w fun e w' => e = .returned (.bool true) ∧ Below w.heap.size w w' := by
  obtain ⟨a1, c1, g1, R1, rfl, -, -, q1⟩ := h1; obtain ⟨a2, c2, g2, R2, rfl, -, -, q2⟩ := h2
  exact sameMx_any g1 g2 a1 a2 c1 c2 R1 R2 M ho.1 (by have := ho.2; omega) w q1 q2
theorem invI_h {a p z : Int} (hz : invZ a p = z) (w : World) : Calls Try.prog 27 #[.int .i64 a, .int .i64 p] w fun e w' => e = .returned (.int .i64 z) ∧ Below w.heap.size w w' := by
  subst hz; exact same_below (implInverse_all a p w)
theorem invS_h {a p z : Int} (hz : invZ a p = z) (w : World) : Calls Try.prog 28 #[.int .i64 a, .int .i64 p] w fun e w' => e = .returned (.int .i64 z) ∧ Below w.heap.size w w' := by
  subst hz; exact same_below (specInverse_all a p w)
theorem primeI_h {p : Int} {z : Bool} (hz : primeB p = z) (w : World) : Calls Try.prog 29 #[.int .i64 p] w fun e w' => e = .returned (.bool z) ∧ Below w.heap.size w w' := by
  subst hz; exact same_below (implPrime_any p w)
theorem primeS_h {p : Int} {z : Bool} (hz : primeB p = z) (w : World) : Calls Try.prog 30 #[.int .i64 p] w fun e w' => e = .returned (.bool z) ∧ Below w.heap.size w w' := by
  subst hz; exact same_below (isPrime_any p w)
/-- The test of an inverse, as the law makes it. -/
theorem inv_law {n q i : Int} (h : invZ n q = i) (hi : 0 < i) (h1 : -6 ≤ n) (h2 : n ≤ 13) :
    IntKind.i64.wrap (n * i) = n * i ∧ IntKind.i64.wrap (n * i - 1) = n * i - 1 ∧ (n * i - 1).tmod q = 0 ∧ i < q ∧ q ≤ 5 ∧ 0 < q := by
  subst h
  obtain ⟨q1, q2, q3, q4⟩ := invZ_pos hi
  generalize invZ n q = i at *
  have e : -1000 ≤ n * i ∧ n * i ≤ 1000 := by
    have : i = 1 ∨ i = 2 ∨ i = 3 ∨ i = 4 := by omega
    rcases this with rfl | rfl | rfl | rfl <;> omega
  exact ⟨IntWalk.i64_in _ (by omega), IntWalk.i64_in _ (by omega), q4, q1, q2, q3⟩
theorem times_none {A B T : Lin.Mat} (hT : timesZ A B = T) (h : timesOk A B = false) : T.length = 0 := by
  rw [← hT, timesZ_no h]; rfl
theorem bord_law {n : Int} {xs : List Int} {k : Int} {A B T : Lin.Mat} (hA : bordZ n xs k = A) (hB : bordZ n xs (k + 1) = B) (hT : timesZ A B = T) (i j : Nat) (hi : i < T.length) : Lin.ent T i j = 0 := by
  subst hA hB hT; exact bord_bord n xs k i j hi

end Go.Proofs.Ythjgpbcdcgagfaa
