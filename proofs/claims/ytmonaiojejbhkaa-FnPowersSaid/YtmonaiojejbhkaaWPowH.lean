/-
  THE LAW ON COUNTS OF MONOMIALS: its helpers.
-/
import Derived.Test.YtmonaiojejbhkaaWShS3
import Derived.Test.YtmonaiojejbhkaaWDrawMon
import Derived.Test.YtmonaiojejbhkaaWMonI2
import Derived.Test.YtmonaiojejbhkaaJg35
import Derived.Test.YtmonaiojejbhkaaJg42
import Derived.Test.YtmonaiojejbhkaaJg40
import Derived.Test.YtmonaiojejbhkaaJg43
namespace Go.Proofs.Ytmonaiojejbhkaa
open Go.RowKit
open Sets Hn Kk Sh Mon

theorem sumI_t : ∀ (F : List Int) (x : Int) (k : Nat), tsumK (x :: F) (k + 1) = x + tsumK F k
  | F, x, 0 => by simp [tsumK]
  | F, x, k + 1 => by
    have e : (x :: F).getD (k + 1) 0 = F.getD k 0 := rfl
    rw [tsumK, sumI_t F x k, e, tsumK]; omega
theorem sumI_tsum : ∀ F : List Int, tsumK F F.length = sumI F
  | [] => rfl
  | x :: F => by rw [List.length_cons, sumI_t, sumI_tsum F]; rfl
theorem total_l (a : Option Addr) (c l : Nat) (F : List Int) (hl : F.length = l) (s : Int) (hs : sumI F = s) (h7 : l ≤ 7) (hx : ∀ x, x ∈ F → 0 ≤ x ∧ x ≤ 5) (w : World) (h : Ints w a F) :
    Calls Try.prog 27 #[.slice a l c] w fun e w' => e = .returned (.int .i64 s) ∧ Below w.heap.size w w' := by
  subst hl
  refine total_b a c F s (by rw [sumI_tsum]; exact hs) h7 (fun j hj => ?_) w h
  have hm : F.getD j 0 ∈ F := by rw [List.getD, List.getElem?_eq_getElem hj]; exact List.getElem_mem hj
  have := hx _ hm
  omega
theorem row_mem (M : Lin.Mat) (i : Nat) (h : i < M.length) : Lin.row M i ∈ M := by
  unfold Lin.row; rw [List.getD, List.getElem?_eq_getElem h]; exact List.getElem_mem h
theorem pwS (m k z : Int) (hz : boundZ 1 m k = z) (w : World) : Calls Try.prog 18 #[.int .i64 m, .int .i64 k] w fun e w' => e = .returned (.int .i64 z) ∧ Below w.heap.size w w' := by
  subst hz; exact specPower_any m k w
theorem amcI_b (a : Option Addr) (c : Nat) (L : List Int) (b : Bool) (hb : monoB L = b) (hlen : L.length ≤ 1099511627776) (w : World) (h : Ints w a L) :
    Calls Try.prog 19 #[.slice a L.length c] w fun e w' => e = .returned (.bool b) ∧ Below w.heap.size w w' := by
  subst hb; exact implAMC_any a c L hlen w h
theorem amcS_b (a : Option Addr) (c : Nat) (L : List Int) (b : Bool) (hb : monoB L = b) (hlen : L.length ≤ 1099511627776) (w : World) (h : Ints w a L) :
    Calls Try.prog 20 #[.slice a L.length c] w fun e w' => e = .returned (.bool b) ∧ Below w.heap.size w w' := by
  subst hb; exact specAMC_any a c L hlen w h
theorem cntI_b (n d z : Int) (hz : countZ n d = z) (w : World) : Calls Try.prog 25 #[.int .i64 n, .int .i64 d] w fun e w' => e = .returned (.int .i64 z) ∧ Below w.heap.size w w' := by
  subst hz; exact implCountM_any n d w
theorem cntS_b (n d z : Int) (hz : countZ n d = z) (w : World) : Calls Try.prog 26 #[.int .i64 n, .int .i64 d] w fun e w' => e = .returned (.int .i64 z) ∧ Below w.heap.size w w' := by
  subst hz; exact specCountM_b n d w
theorem monsI_b (n d : Int) (M : Lin.Mat) (hM : monsZ n d = M) (w : World) : Calls Try.prog 13 #[.int .i64 n, .int .i64 d] w fun e w' => ∃ v, e = .returned v ∧ HasMx w' w.heap.size v M ∧ Below w.heap.size w w' := by
  subst hM; exact mx_has (implMons_any n d w)
theorem monsS_b (n d : Int) (M : Lin.Mat) (hM : monsZ n d = M) (w : World) : Calls Try.prog 22 #[.int .i64 n, .int .i64 d] w fun e w' => ∃ v, e = .returned v ∧ HasMx w' w.heap.size v M ∧ Below w.heap.size w w' := by
  subst hM; exact mx_has (specMons_any n d w)
theorem firstI_b (n d m : Int) (M : Lin.Mat) (hM : firstM n d m = M) (w : World) : Calls Try.prog 23 #[.int .i64 n, .int .i64 d, .int .i64 m] w fun e w' => ∃ v, e = .returned v ∧ HasMx w' w.heap.size v M ∧ Below w.heap.size w w' := by
  subst hM; exact implFirstM_any n d m w
theorem firstS_b (n d m : Int) (M : Lin.Mat) (hM : firstM n d m = M) (w : World) : Calls Try.prog 24 #[.int .i64 n, .int .i64 d, .int .i64 m] w fun e w' => ∃ v, e = .returned v ∧ HasMx w' w.heap.size v M ∧ Below w.heap.size w w' := by
  subst hM; exact mx_has (specFirstM_any n d m w)
theorem hnS_l (N : Int) (a : Option Addr) (c : Nat) (xs : List Int) (l : Nat) (hl : xs.length = l) (L : List Int) (hL : hnum N xs = L) (hlen : l ≤ 1099511627776) (w : World) (h : Ints w a xs) :
    Calls Try.prog 30 #[cx N (.slice a l c)] w fun e w' => ∃ v, e = .returned v ∧ OwnInts w' w.heap.size v L ∧ Below w.heap.size w w' := by
  subst hl hL; exact specH_any N a c xs hlen w h
theorem pureS_l (N : Int) (a : Option Addr) (c : Nat) (xs : List Int) (l : Nat) (hl : xs.length = l) (b : Bool) (hb : pureB N xs = b) (hlen : l ≤ 1099511627776) (w : World) (h : Ints w a xs) :
    Calls Try.prog 28 #[cx N (.slice a l c)] w fun e w' => e = .returned (.bool b) ∧ Below w.heap.size w w' := by
  subst hl hb; exact specPure_any N a c xs hlen w h
theorem shS_l (N : Int) (a : Option Addr) (c : Nat) (xs : List Int) (l : Nat) (hl : xs.length = l) (hlen : l ≤ 1099511627776) (w : World) (h : Ints w a xs) :
    Calls Try.prog 29 #[cx N (.slice a l c)] w fun e w' => ∃ b : Bool, e = .returned (.bool b) ∧ ShPost N xs b ∧ Below w.heap.size w w' := by
  subst hl; exact specShellable_any N a c xs hlen w h
theorem sameMx_l (g1 g2 : Nat) (a1 a2 : Option Addr) (c1 c2 l : Nat) (R1 R2 : List (Nat × Nat)) (M : Lin.Mat) (hl : M.length = l) (hlen : l ≤ 1099511627776) (hoff : offM M l ≤ 1099511627776) (w : World) (h1 : Mx w g1 a1 R1 M) (h2 : Mx w g2 a2 R2 M) :
    Calls Try.prog 21 #[.slice a1 l c1, .slice a2 l c2] w fun e w' => e = .returned (.bool true) ∧ Below w.heap.size w w' := by
  subst hl; exact sameMx_any g1 g2 a1 a2 c1 c2 R1 R2 M hlen hoff w h1 h2
/-- The promise, as the law asks it. -/
theorem promise12 {N : Int} {xs : List Int} (hp : pureB N xs = true) (hs : ShPost N xs true) (h0 : 0 < xs.length) : monoB (hnum N xs) = true := by
  unfold pureB at hp
  rw [Bool.and_eq_true] at hp
  obtain ⟨h1, h2, h3⟩ := hs rfl
  exact shellable_mono h1 h0 hp.2 h2 h3

end Go.Proofs.Ytmonaiojejbhkaa
