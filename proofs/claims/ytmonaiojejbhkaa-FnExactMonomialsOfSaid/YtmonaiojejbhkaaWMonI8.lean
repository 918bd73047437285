/-
  How much stands in the lists of monomials; the contracts in the laws' form.
-/
import Derived.Test.YtmonaiojejbhkaaJg33
import Derived.Test.YtmonaiojejbhkaaJg26
namespace Go.Proofs.Ytmonaiojejbhkaa
open Go.RowKit
open Sets Hn Kk Mon

theorem mons_six (n d : Int) (r : List Int) (h : r ∈ monsZ n d) : r.length ≤ 6 := by
  have h1 := (monsZ_row n d r h).1
  have h2 : monB n d = true := by
    cases hb : monB n d with
    | true => rfl
    | false => rw [monsZ_no hb] at h; cases h
  have h3 := (monB_iff n d).1 h2
  omega
theorem monsZ_off (n d : Int) : 1 + offM (monsZ n d) (monsZ n d).length ≤ 1099511627776 := by
  have h1 := offM_same (monsZ n d) (mons_six n d)
  have h2 := monsZ_le n d
  omega
theorem firstM_off (n d m : Int) : 1 + offM (firstM n d m) (firstM n d m).length ≤ 1099511627776 := by
  have h1 := offM_same (firstM n d m) (fun r hr => mons_six n d r (firstM_row n d m r hr))
  have h2 := firstM_le n d m
  omega
theorem specCountM_b (n d : Int) (w : World) : Calls Try.prog 26 #[.int .i64 n, .int .i64 d] w fun e w' => e = .returned (.int .i64 (countZ n d)) ∧ Below w.heap.size w w' :=
  (specCountM_any n d w).mono fun e w' ⟨h1, h2⟩ => ⟨h1, by subst h2; exact Below.refl _ _⟩

end Go.Proofs.Ytmonaiojejbhkaa
