/-
  TEXTS of one claim, put together: WMat1, WMatI5.
-/
import Derived.Test.YthjgpbcdcgagfaaJg5
import Derived.Test.YthjgpbcdcgagfaaJg9
import Derived.Test.YthjgpbcdcgagfaaJg12
import Derived.Test.YthjgpbcdcgagfaaJg13
/-! WALKS of chapter 13 (spec): remainders, inverses, signs. -/

namespace Go.Proofs.Ythjgpbcdcgagfaa
open Go.RowKit
open Sets

theorem tmod_mod {a p : Int} (hp : 0 < p) : (a.tmod p + p).tmod p = a % p := by
  have h1 := Int.tmod_lt_of_pos a hp
  have h2 := Int.lt_tmod_of_pos a hp
  rw [Int.tmod_eq_emod_of_nonneg (by omega)]
  rw [Int.add_emod_right]
  have := Int.tmod_add_mul_tdiv a p
  rw [show a.tmod p = a - p * a.tdiv p by omega, Int.sub_mul_emod_self_left]

theorem tmod_mod2 {a p : Int} (hp : 0 < p) : (a.tmod p + p) % p = a % p := by
  have h2 := Int.lt_tmod_of_pos a hp
  have h := tmod_mod (a := a) hp
  rwa [Int.tmod_eq_emod_of_nonneg (by omega)] at h

set_option maxRecDepth 100000 in
set_option maxHeartbeats 2000000 in
theorem l13Mod_any (a : Int) (p : Nat) (hp : 1 < p) (hp2 : p ≤ 1000) (w : World) : Calls Try.prog 72 #[.int .i64 a, .int .i64 (p : Int)] w fun e w' => e = .returned (.int .i64 (a % (p : Int))) ∧ w = w' := by
  have hz : ((p : Int) = 0) = False := by simp; omega
  have b1 := Int.tmod_lt_of_pos a (by omega : (0 : Int) < p)
  have b2 := Int.lt_tmod_of_pos a (by omega : (0 : Int) < p)
  have E := Lib.hid (tmod_mod2 (a := a) (by omega : (0 : Int) < p))
  go_enter Try.func72, Try.ntmps72
  go_wp2
  go_ret
  exact ⟨ret_int E.out, rfl⟩

/-- The primes that the chapter knows. -/
def primeB (p : Int) : Bool := decide (p = 2 ∨ p = 3 ∨ p = 5)
set_option maxRecDepth 100000 in
theorem isPrime_any (p : Int) (w : World) : Calls Try.prog 30 #[.int .i64 p] w fun e w' => e = .returned (.bool (primeB p)) ∧ w = w' := by
  by_cases h2 : p = 2
  · subst h2
    go_enter Try.func30, Try.ntmps30
    go_wp2
    go_ret
    exact ⟨rfl, rfl⟩
  · by_cases h3 : p = 3
    · subst h3
      go_enter Try.func30, Try.ntmps30
      go_wp2
      go_ret
      exact ⟨rfl, rfl⟩
    · have e2 : (p == 2) = false := by simpa using h2
      have e3 : (p == 3) = false := by simpa using h3
      have hb : Hid (primeB p = (p == 5)) := by unfold primeB; rw [Hid]; simp [h2, h3]; rfl
      go_enter Try.func30, Try.ntmps30
      go_wp2
      go_ret
      rw [hb.out]
      exact ⟨rfl, rfl⟩

theorem inv_hit {p b : Nat} {a : Int} (hb : b < p) (h : a % (p : Int) * (b : Int) % p = 1) (hno : ∀ c : Nat, c < b → ¬a % (p : Int) * (c : Int) % p = 1) : Lin.inv p a = b := by
  unfold Lin.inv
  rw [show ((List.range p).filter fun b : Nat => decide (a % (p : Int) * (b : Int) % p = 1)).headD 0 = b from ?_]
  rw [List.headD_eq_head?_getD, List.head?_filter, List.find?_range_eq_some.2 ⟨decide_eq_true h, List.mem_range.2 hb, fun j hj => by simpa using hno j hj⟩]; rfl
theorem inv_none {p : Nat} {a : Int} (hno : ∀ c : Nat, c < p → ¬a % (p : Int) * (c : Int) % p = 1) : Lin.inv p a = 0 := by
  unfold Lin.inv
  rw [List.filter_eq_nil_iff.2 fun c hc => by simpa using hno c (List.mem_range.1 hc)]; rfl

set_option maxRecDepth 100000 in
set_option maxHeartbeats 2000000 in
theorem inverse_any (a : Int) (p : Nat) (hp : p = 2 ∨ p = 3 ∨ p = 5) (w : World) : Calls Try.prog 28 #[.int .i64 a, .int .i64 (p : Int)] w fun e w' => e = .returned (.int .i64 (Lin.inv p a)) ∧ w = w' := by
  have hz : ((p : Int) = 0) = False := by simp; omega
  have hP : Hid (primeB (p : Int) = true) := decide_eq_true (by omega)
  have hr0 := Int.emod_nonneg a (by omega : (p : Int) ≠ 0)
  have hr1 := Int.emod_lt_of_pos a (by omega : (0 : Int) < p)
  have hp5 : p ≤ 5 := by omega
  have hp1 : 1 < p := by omega
  have HR : Hid (∃ r : Int, a % (p : Int) = r) := ⟨_, rfl⟩
  obtain ⟨r, hr⟩ := HR.out
  rw [hr] at hr0 hr1
  have HRR := Lib.hid hr
  clear hr hp HR
  go_enter Try.func28, Try.ntmps28
  go_wp2_with fail
  refine (isPrime_any _ _).mono ?_
  rw [hP.out]
  rintro e w' ⟨rfl, rfl⟩
  go_wp2
  go_loop [5] (fun x => ∃ b : Nat, 1 ≤ b ∧ b ≤ p ∧ x = .int .i64 (b : Int) ∧ Hid (∀ c : Nat, c < b → ¬r * (c : Int) % p = 1)) (fun x => p - (intOf x).toNat)
  case atStart => exact ⟨1, by omega, by omega, rfl, fun c hc => by rw [show c = 0 by omega]; simp⟩
  case round =>
    obtain ⟨b, hb1, hb, rfl, hno⟩ := hrel
    by_cases hlt : b < p
    · have hm1 : 0 ≤ r * (b : Int) := Int.mul_nonneg hr0 (by omega)
      have hm2 : r * (b : Int) ≤ 25 := Int.le_trans (Int.mul_le_mul (show r ≤ 5 by omega) (show (b : Int) ≤ 5 by omega) (by omega) (by omega)) (by decide)
      go_wp2_with fail
      refine (l13Mod_any a p hp1 (by omega) _).mono ?_
      rw [HRR.out]
      rintro e w' ⟨rfl, rfl⟩
      have htm : (r * (b : Int)).tmod p = r * (b : Int) % p := Int.tmod_eq_emod_of_nonneg hm1
      by_cases hc : r * (b : Int) % p = 1
      · have HC := Lib.hid hc
        go_wp2
        go_ret
        exact ⟨ret_int (inv_hit hlt (by rw [HRR.out]; exact HC.out) (by rw [HRR.out]; exact hno.out)).symm, rfl⟩
      · have HC := Lib.hid hc
        go_wp2
        go_round
        case rel =>
          refine ⟨b + 1, by omega, by omega, by go_num, fun c hc' => ?_⟩
          by_cases e : c < b
          · exact hno.out c e
          · rw [show c = b by omega]
            exact HC.out
        case measure => simp [intOf]; omega
    · have HE : Hid (b = p) := by show b = p; omega
      go_wp2
      go_ret
      refine ⟨ret_int ?_, rfl⟩
      exact (inv_none (by rw [HRR.out]; exact fun c hc => hno.out c (by rw [HE.out]; exact hc))).symm

end Go.Proofs.Ythjgpbcdcgagfaa

/-! WALKS of chapter 13 (impl): TurnMatrix; remainders, primes, inverses. -/

namespace Go.Proofs.Ythjgpbcdcgagfaa
open Go.RowKit

theorem HasMx.empty (w : World) (base : Nat) : HasMx w base (.slice none 0 0) [] :=
  ⟨none, 0, 0, [], rfl, fun h => absurd h (Nat.not_lt_zero _), fun g hg => absurd hg (by simp), ⟨rfl, by simp, fun i hi => absurd hi (Nat.not_lt_zero _), fun i hi => absurd hi (Nat.not_lt_zero _), by simp⟩⟩
/-- The columns as rows; none where the rows differ in length. -/
def turnZ (M : Lin.Mat) : Lin.Mat := if rectB M = true then Lin.turnM (Lin.wid M) M else []

set_option maxRecDepth 100000 in
set_option maxHeartbeats 4000000 in
theorem implTurn_any (go : Nat) (ao : Option Addr) (co : Nat) (R0 : List (Nat × Nat)) (M : Lin.Mat) (hlen : M.length ≤ 1099511627776) (hrow : ∀ i, i < M.length → (Lin.row M i).length ≤ 1099511627776) (w : World) (h : Mx w go ao R0 M) :
    Calls Try.prog 16 #[.slice ao M.length co] w fun e w' => ∃ v, e = .returned v ∧ HasMx w' w.heap.size v (turnZ M) ∧ Below w.heap.size w w' := by
  have HC := Lib.hid (readMatrix_any go ao co R0 M hlen hrow w h)
  have hwid : Lin.wid M ≤ 1099511627776 := by
    by_cases h0 : 0 < M.length
    · exact hrow 0 h0
    · have e : M = [] := List.eq_nil_of_length_eq_zero (by omega)
      rw [e]; decide
  have HWD := Lib.hid hwid
  have HLN := Lib.hid hlen
  clear h hrow hwid
  go_enter Try.func16, Try.ntmps16
  go_wp2_with fail
  refine HC.out.mono ?_
  rintro e w1 ⟨⟨hr, P, v, R, rfl, hM⟩ | ⟨hr, rfl⟩, hb1⟩
  · have HM := Lib.hid hM
    have HB1 := Lib.hid hb1
    have HT := Lib.hid (turned_any hr HLN.out HWD.out w1 hM)
    have HE : Hid (turnZ M = Lin.turnM (Lin.wid M) M) := by
      have : turnZ M = Lin.turnM (Lin.wid M) M := if_pos hr
      exact this
    have hsz := hb1.size
    clear hM hb1 hr
    go_wp2_with fail
    refine HT.out.mono ?_
    rintro e w2 ⟨P2, v2, R2, rfl, hM2, hb2⟩
    have hcell := hM2.cell
    have HH : Hid (HasMx w2 w.heap.size v2 (turnZ M)) := by
      have : HasMx w2 w.heap.size v2 (turnZ M) := by rw [HE.out]; exact hM2.own.has.lower hsz
      exact this
    have HB2 : Hid (Below w.heap.size w w2) := HB1.out.trans (hb2.mono hsz)
    clear hM2 hb2
    go_wp2
    go_ret
    exact ⟨v2, rfl, HH.out, HB2.out⟩
  · have HB1 := Lib.hid hb1
    have HE : Hid (turnZ M = []) := by
      have : turnZ M = [] := if_neg (by rw [hr]; simp)
      exact this
    clear hb1 hr
    go_wp2
    go_ret
    exact ⟨_, rfl, by rw [HE.out]; exact HasMx.empty _ _, HB1.out⟩

set_option maxRecDepth 100000 in
set_option maxHeartbeats 2000000 in
theorem remainder_any (a : Int) (p : Nat) (hp : 1 < p) (hp2 : p ≤ 1000) (w : World) : Calls Try.prog 71 #[.int .i64 a, .int .i64 (p : Int)] w fun e w' => e = .returned (.int .i64 (a % (p : Int))) ∧ w = w' := by
  have hz : ((p : Int) = 0) = False := by simp; omega
  have b1 := Int.tmod_lt_of_pos a (by omega : (0 : Int) < p)
  have b2 := Int.lt_tmod_of_pos a (by omega : (0 : Int) < p)
  have E := Lib.hid (tmod_mod2 (a := a) (by omega : (0 : Int) < p))
  go_enter Try.func71, Try.ntmps71
  go_wp2
  go_ret
  exact ⟨ret_int E.out, rfl⟩

set_option maxRecDepth 100000 in
theorem implPrime_any (p : Int) (w : World) : Calls Try.prog 29 #[.int .i64 p] w fun e w' => e = .returned (.bool (primeB p)) ∧ w = w' := by
  by_cases h2 : p = 2
  · subst h2
    go_enter Try.func29, Try.ntmps29
    go_wp2
    go_ret
    exact ⟨rfl, rfl⟩
  · by_cases h3 : p = 3
    · subst h3
      go_enter Try.func29, Try.ntmps29
      go_wp2
      go_ret
      exact ⟨rfl, rfl⟩
    · have e2 : (p == 2) = false := by simpa using h2
      have e3 : (p == 3) = false := by simpa using h3
      have hb : Hid (primeB p = (p == 5)) := by unfold primeB; rw [Hid]; simp [h2, h3]; rfl
      go_enter Try.func29, Try.ntmps29
      go_wp2
      go_ret
      rw [hb.out]
      exact ⟨rfl, rfl⟩

set_option maxRecDepth 100000 in
set_option maxHeartbeats 2000000 in
theorem implInverse_any (a : Int) (p : Nat) (hp : p = 2 ∨ p = 3 ∨ p = 5) (w : World) : Calls Try.prog 27 #[.int .i64 a, .int .i64 (p : Int)] w fun e w' => e = .returned (.int .i64 (Lin.inv p a)) ∧ w = w' := by
  have hz : ((p : Int) = 0) = False := by simp; omega
  have hP : Hid (primeB (p : Int) = true) := decide_eq_true (by omega)
  have hr0 := Int.emod_nonneg a (by omega : (p : Int) ≠ 0)
  have hr1 := Int.emod_lt_of_pos a (by omega : (0 : Int) < p)
  have hp5 : p ≤ 5 := by omega
  have hp1 : 1 < p := by omega
  have HR : Hid (∃ r : Int, a % (p : Int) = r) := ⟨_, rfl⟩
  obtain ⟨r, hr⟩ := HR.out
  rw [hr] at hr0 hr1
  have HRR := Lib.hid hr
  clear hr hp HR
  go_enter Try.func27, Try.ntmps27
  go_wp2_with fail
  refine (implPrime_any _ _).mono ?_
  rw [hP.out]
  rintro e w' ⟨rfl, rfl⟩
  go_wp2
  go_loop [5] (fun x => ∃ b : Nat, 1 ≤ b ∧ b ≤ p ∧ x = .int .i64 (b : Int) ∧ Hid (∀ c : Nat, c < b → ¬r * (c : Int) % p = 1)) (fun x => p - (intOf x).toNat)
  case atStart => exact ⟨1, by omega, by omega, rfl, fun c hc => by rw [show c = 0 by omega]; simp⟩
  case round =>
    obtain ⟨b, hb1, hb, rfl, hno⟩ := hrel
    by_cases hlt : b < p
    · have hm1 : 0 ≤ r * (b : Int) := Int.mul_nonneg hr0 (by omega)
      have hm2 : r * (b : Int) ≤ 25 := Int.le_trans (Int.mul_le_mul (show r ≤ 5 by omega) (show (b : Int) ≤ 5 by omega) (by omega) (by omega)) (by decide)
      go_wp2_with fail
      refine (remainder_any a p hp1 (by omega) _).mono ?_
      rw [HRR.out]
      rintro e w' ⟨rfl, rfl⟩
      have htm : (r * (b : Int)).tmod p = r * (b : Int) % p := Int.tmod_eq_emod_of_nonneg hm1
      by_cases hc : r * (b : Int) % p = 1
      · have HC := Lib.hid hc
        go_wp2
        go_ret
        exact ⟨ret_int (inv_hit hlt (by rw [HRR.out]; exact HC.out) (by rw [HRR.out]; exact hno.out)).symm, rfl⟩
      · have HC := Lib.hid hc
        go_wp2
        go_round
        case rel =>
          refine ⟨b + 1, by omega, by omega, by go_num, fun c hc' => ?_⟩
          by_cases e : c < b
          · exact hno.out c e
          · rw [show c = b by omega]
            exact HC.out
        case measure => simp [intOf]; omega
    · have HE : Hid (b = p) := by show b = p; omega
      go_wp2
      go_ret
      refine ⟨ret_int ?_, rfl⟩
      exact (inv_none (by rw [HRR.out]; exact fun c hc => hno.out c (by rw [HE.out]; exact hc))).symm

/-- The inverse for every number that is asked as a prime. -/
def invZ (a p : Int) : Int := if primeB p = true then Lin.inv p.toNat a else 0
theorem prime_nat {p : Int} (h : primeB p = true) : (p.toNat = 2 ∨ p.toNat = 3 ∨ p.toNat = 5) ∧ p = (p.toNat : Int) := by
  have := of_decide_eq_true h
  omega

set_option maxRecDepth 100000 in
set_option maxHeartbeats 2000000 in
theorem implInverse_all (a p : Int) (w : World) : Calls Try.prog 27 #[.int .i64 a, .int .i64 p] w fun e w' => e = .returned (.int .i64 (invZ a p)) ∧ w = w' := by
  by_cases h : primeB p = true
  · obtain ⟨h1, h2⟩ := prime_nat h
    rw [show invZ a p = Lin.inv p.toNat a from if_pos h]
    have hc := implInverse_any a p.toNat h1 w
    rw [← h2] at hc
    exact hc
  · have h2 : primeB p = false := by simpa using h
    rw [show invZ a p = 0 from if_neg h]
    have HF := Lib.hid h2
    clear h h2
    go_enter Try.func27, Try.ntmps27
    go_wp2_with fail
    refine (implPrime_any _ _).mono ?_
    rw [HF.out]
    rintro e w' ⟨rfl, rfl⟩
    go_wp2
    go_ret
    exact ⟨rfl, rfl⟩

set_option maxRecDepth 100000 in
set_option maxHeartbeats 2000000 in
theorem specInverse_all (a p : Int) (w : World) : Calls Try.prog 28 #[.int .i64 a, .int .i64 p] w fun e w' => e = .returned (.int .i64 (invZ a p)) ∧ w = w' := by
  by_cases h : primeB p = true
  · obtain ⟨h1, h2⟩ := prime_nat h
    rw [show invZ a p = Lin.inv p.toNat a from if_pos h]
    have hc := inverse_any a p.toNat h1 w
    rw [← h2] at hc
    exact hc
  · have h2 : primeB p = false := by simpa using h
    rw [show invZ a p = 0 from if_neg h]
    have HF := Lib.hid h2
    clear h h2
    go_enter Try.func28, Try.ntmps28
    go_wp2_with fail
    refine (isPrime_any _ _).mono ?_
    rw [HF.out]
    rintro e w' ⟨rfl, rfl⟩
    go_wp2
    go_ret
    exact ⟨rfl, rfl⟩

end Go.Proofs.Ythjgpbcdcgagfaa
