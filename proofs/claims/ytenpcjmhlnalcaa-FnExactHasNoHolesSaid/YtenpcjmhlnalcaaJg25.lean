/-
  TEXTS of one claim, put together: WMx4, WMatI5, MatRank, MatB.
-/
import Derived.Test.YtenpcjmhlnalcaaJg24
import Derived.Test.YtenpcjmhlnalcaaJg14
import Derived.Deep.RegionHeld3
import Derived.Test.YtenpcjmhlnalcaaJg9
import Derived.Test.YtenpcjmhlnalcaaWRed
import Derived.Test.YtenpcjmhlnalcaaJg18
/-! WALKS: the laws' functions on rows of rows of numbers (written by genmx4.py); HasMx: a result that is a matrix of its own. -/

namespace Go.Proofs.Ytenpcjmhlnalcaa
open Go.RowKit

theorem Mx.only {w w' : World} {go : Nat} {ao : Option Addr} {R : List (Nat × Nat)} {M : Lin.Mat} {G : List Nat} (h : Mx w go ao R M) (k : Only G w w') (hgo : 0 < M.length → go ∉ G) (hr : ∀ g, g ∈ blks R → g ∉ G) : Mx w' go ao R M := by
  refine ⟨h.len, h.nodup, fun i hi => ?_, fun i hi => ?_, h.apart⟩
  · obtain ⟨h1, h2, h3, h4⟩ := h.out i hi
    have hb := k.block go h2 (hgo (by omega))
    exact ⟨h1, Nat.lt_of_lt_of_le h2 k.size, by rw [World.cell?_of_block (w := w) hb]; exact h3, by rw [World.frozen?_of_block (w := w) hb]; exact h4⟩
  · obtain ⟨h1, h2⟩ := h.rows i hi
    exact ⟨Nat.lt_of_lt_of_le h1 k.size, h2.only k (hr _ (blk_mem (by rw [h.len]; exact hi)))⟩
/-- A row is written anew. -/
theorem Mx.setRow {w w' : World} {go : Nat} {ao : Option Addr} {R : List (Nat × Nat)} {M : Lin.Mat} (h : Mx w go ao R M) {i : Nat} (hi : i < M.length) {r : List Int} (hl : r.length = (Lin.row M i).length) (hr : IntsAt w' (blk R i) (some ⟨blk R i, 0, none⟩) r) (hg : w.grownBy w' (some (blk R i))) : Mx w' go ao R (M.set i r) := by
  have hiR : i < R.length := by rw [h.len]; exact hi
  have hne : go ≠ blk R i := fun e => h.apart (e ▸ blk_mem hiR)
  have hlen : ∀ k, (Lin.row (M.set i r) k).length = (Lin.row M k).length := fun k => by
    rw [row_set M i k _ hi]
    by_cases e : k = i
    · rw [if_pos e, hl, e]
    · rw [if_neg e]
  refine ⟨by rw [List.length_set]; exact h.len, h.nodup, fun k hk => ?_, fun k hk => ?_, h.apart⟩
  · rw [List.length_set] at hk
    obtain ⟨h1, h2, h3, h4⟩ := h.out k hk
    have hb := hg.block go h2 (fun e => hne (Option.some.inj e))
    rw [hlen k]
    exact ⟨h1, Nat.lt_of_lt_of_le h2 hg.size, by rw [World.cell?_of_block (w := w) hb]; exact h3, by rw [World.frozen?_of_block (w := w) hb]; exact h4⟩
  · rw [List.length_set] at hk
    obtain ⟨h1, h2⟩ := h.rows k hk
    refine ⟨Nat.lt_of_lt_of_le h1 hg.size, ?_⟩
    rw [row_set M i k _ hi]
    by_cases e : k = i
    · rw [if_pos e, e]; exact hr
    · rw [if_neg e]
      exact h2.only (only_grown hg) (fun hm => by
        simp at hm
        exact e (blk_inj h.nodup (by rw [h.len]; exact hk) hiR hm))

def mixM (new old : Lin.Mat) (j : Nat) : Lin.Mat := new.take j ++ old.drop j
theorem mixM_zero (new old : Lin.Mat) : mixM new old 0 = old := rfl
theorem mixM_length {new old : Lin.Mat} (h : new.length = old.length) (j : Nat) : (mixM new old j).length = old.length := by unfold mixM; simp; omega
theorem mixM_end {new old : Lin.Mat} (h : new.length = old.length) {j : Nat} (hj : old.length ≤ j) : mixM new old j = new := by
  unfold mixM; rw [List.take_of_length_le (by omega), List.drop_eq_nil_of_le hj, List.append_nil]
theorem mixM_row {new old : Lin.Mat} (h : new.length = old.length) {j : Nat} (hj : j < old.length) : Lin.row (mixM new old j) j = Lin.row old j := by
  unfold Lin.row mixM
  rw [List.getD, List.getElem?_append_right (by simp; omega), List.length_take, Nat.min_eq_left (by omega), Nat.sub_self, List.getElem?_drop, List.getD]; rfl
theorem mixM_step {new old : Lin.Mat} (h : new.length = old.length) {j : Nat} (hj : j < old.length) : (mixM new old j).set j (Lin.row new j) = mixM new old (j + 1) := by
  unfold mixM Lin.row
  rw [List.set_append_right _ _ (by simp; omega), List.length_take, Nat.min_eq_left (by omega), Nat.sub_self, List.drop_eq_getElem_cons hj, List.set_cons_zero]
  have e : new.take (j + 1) = new.take j ++ [new[j]] := by rw [List.take_add_one, List.getElem?_eq_getElem (by omega)]; rfl
  rw [e, List.getD, List.getElem?_eq_getElem (by omega : j < new.length), List.append_assoc]
  rfl

/-- The number of things in the first i rows. -/
def offM : Lin.Mat → Nat → Nat
  | [], _ => 0
  | _, 0 => 0
  | r :: M, i + 1 => r.length + offM M i
theorem offM_zero (M : Lin.Mat) : offM M 0 = 0 := by cases M <;> rfl
theorem offM_next : ∀ (M : Lin.Mat) (i : Nat), i < M.length → offM M (i + 1) = offM M i + (Lin.row M i).length
  | [], i, h => absurd h (Nat.not_lt_zero _)
  | r :: M, 0, _ => by simp [offM, offM_zero, Lin.row]
  | r :: M, i + 1, h => by
    have e : Lin.row (r :: M) (i + 1) = Lin.row M i := rfl
    rw [offM, offM_next M i (by simpa using h), e, offM]; omega
theorem offM_le : ∀ (M : Lin.Mat) (i : Nat), offM M i ≤ offM M M.length
  | [], i => by simp [offM]
  | r :: M, 0 => by rw [offM_zero]; omega
  | r :: M, i + 1 => by rw [offM, List.length_cons, offM]; have := offM_le M i; omega
theorem offM_row (M : Lin.Mat) (i : Nat) (h : i < M.length) : (Lin.row M i).length ≤ offM M M.length := by
  have h1 := offM_next M i h
  have h2 := offM_le M (i + 1)
  omega
theorem offM_same {k : Nat} : ∀ (M : Lin.Mat), (∀ r, r ∈ M → r.length ≤ k) → offM M M.length ≤ M.length * k
  | [], _ => by simp [offM]
  | r :: M, h => by
    rw [List.length_cons, offM, Nat.succ_mul]
    have h1 := h r (by simp)
    have h2 := offM_same M (fun x hx => h x (List.mem_cons_of_mem _ hx))
    omega
/-- All things counted from s on. -/
def markM (s : Nat) (M : Lin.Mat) : Lin.Mat := (List.range M.length).map fun i => imarks (s + offM M i) (Lin.row M i).length
theorem markM_length (s : Nat) (M : Lin.Mat) : (markM s M).length = M.length := by simp [markM]
theorem markM_row (s : Nat) (M : Lin.Mat) (i : Nat) (h : i < M.length) : Lin.row (markM s M) i = imarks (s + offM M i) (Lin.row M i).length := by
  unfold markM
  show ((List.range M.length).map _).getD i [] = _
  simp [List.getD, h]

/-- A result that is a matrix of its own. -/
def HasMx (w : World) (base : Nat) (v : Value) (M : Lin.Mat) : Prop :=
  ∃ ao co go R, v = .slice ao M.length co ∧ (0 < M.length → base ≤ go ∧ go < w.heap.size) ∧ (∀ g, g ∈ blks R → base ≤ g ∧ g < w.heap.size) ∧ Mx w go ao R M
theorem OwnMx.has {w : World} {base : Nat} {v : Value} {R : List (Nat × Nat)} {M : Lin.Mat} (h : OwnMx w base v R M) : HasMx w base v M := by
  obtain ⟨go, ao, co, h1, h2, h3⟩ := h.mx
  exact ⟨ao, co, go, R, h1, h2, fun g hg => h.old hg, h3⟩
theorem mx_has {f : FuncId} {args : Array Value} {w : World} {M : Lin.Mat} (h : Calls Try.prog f args w fun e w' => ∃ v R, e = .returned v ∧ OwnMx w' w.heap.size v R M ∧ Below w.heap.size w w') :
    Calls Try.prog f args w fun e w' => ∃ v, e = .returned v ∧ HasMx w' w.heap.size v M ∧ Below w.heap.size w w' :=
  h.mono fun _ _ ⟨v, _, he, ho, hb⟩ => ⟨v, he, ho.has, hb⟩
theorem HasMx.lower {w : World} {base b : Nat} {v : Value} {M : Lin.Mat} (h : HasMx w base v M) (hb : b ≤ base) : HasMx w b v M := by
  obtain ⟨ao, co, go, R, h1, h2, h3, h4⟩ := h
  exact ⟨ao, co, go, R, h1, fun h => by have := h2 h; omega, fun g hg => by have := h3 g hg; omega, h4⟩
/-- The front of a matrix. -/
theorem Mx.front {w : World} {go : Nat} {ao : Option Addr} {R : List (Nat × Nat)} {M : Lin.Mat} (h : Mx w go ao R M) (m : Nat) : Mx w go ao (R.take m) (M.take m) := by
  have hrow : ∀ i, i < (M.take m).length → Lin.row (M.take m) i = Lin.row M i := fun i hi => by
    rw [List.length_take] at hi
    unfold Lin.row
    rw [List.getD, List.getD, List.getElem?_take_of_lt (by omega)]
  have hblk : ∀ i, i < (M.take m).length → (R.take m).getD i (0, 0) = R.getD i (0, 0) := fun i hi => by
    rw [List.length_take] at hi
    rw [List.getD, List.getD, List.getElem?_take_of_lt (by omega)]
  refine ⟨by rw [List.length_take, List.length_take, h.len], ?_, fun i hi => ?_, fun i hi => ?_, fun hm => h.apart ?_⟩
  · exact List.Sublist.nodup ((List.take_sublist m R).map _) h.nodup
  · have hi2 : i < M.length := by rw [List.length_take] at hi; omega
    rw [hrow i hi]
    simp only [blk, room]
    rw [hblk i hi]
    exact h.out i hi2
  · have hi2 : i < M.length := by rw [List.length_take] at hi; omega
    rw [hrow i hi]
    simp only [blk]
    rw [hblk i hi]
    exact h.rows i hi2
  · exact ((List.take_sublist m R).map _).subset hm

end Go.Proofs.Ytenpcjmhlnalcaa

/-! WALKS of chapter 13 (impl): TurnMatrix; remainders, primes, inverses. -/

namespace Go.Proofs.Ytenpcjmhlnalcaa
open Go.RowKit

theorem HasMx.empty (w : World) (base : Nat) : HasMx w base (.slice none 0 0) [] :=
  ⟨none, 0, 0, [], rfl, fun h => absurd h (Nat.not_lt_zero _), fun g hg => absurd hg (by simp), ⟨rfl, by simp, fun i hi => absurd hi (Nat.not_lt_zero _), fun i hi => absurd hi (Nat.not_lt_zero _), by simp⟩⟩
/-- The columns as rows; none where the rows differ in length. -/
def turnZ (M : Lin.Mat) : Lin.Mat := if rectB M = true then Lin.turnM (Lin.wid M) M else []

set_option maxRecDepth 100000 in
set_option maxHeartbeats 2000000 in
theorem remainder_any (a : Int) (p : Nat) (hp : 1 < p) (hp2 : p ≤ 1000) (w : World) : Calls Try.prog 85 #[.int .i64 a, .int .i64 (p : Int)] w fun e w' => e = .returned (.int .i64 (a % (p : Int))) ∧ w = w' := by
  have hz : ((p : Int) = 0) = False := by simp; omega
  have b1 := Int.tmod_lt_of_pos a (by omega : (0 : Int) < p)
  have b2 := Int.lt_tmod_of_pos a (by omega : (0 : Int) < p)
  have E := Lib.hid (tmod_mod2 (a := a) (by omega : (0 : Int) < p))
  go_enter Try.func85, Try.ntmps85
  go_wp2
  go_ret
  exact ⟨ret_int E.out, rfl⟩

set_option maxRecDepth 100000 in
theorem implPrime_any (p : Int) (w : World) : Calls Try.prog 31 #[.int .i64 p] w fun e w' => e = .returned (.bool (primeB p)) ∧ w = w' := by
  by_cases h2 : p = 2
  · subst h2
    go_enter Try.func31, Try.ntmps31
    go_wp2
    go_ret
    exact ⟨rfl, rfl⟩
  · by_cases h3 : p = 3
    · subst h3
      go_enter Try.func31, Try.ntmps31
      go_wp2
      go_ret
      exact ⟨rfl, rfl⟩
    · have e2 : (p == 2) = false := by simpa using h2
      have e3 : (p == 3) = false := by simpa using h3
      have hb : Hid (primeB p = (p == 5)) := by unfold primeB; rw [Hid]; simp [h2, h3]; rfl
      go_enter Try.func31, Try.ntmps31
      go_wp2
      go_ret
      rw [hb.out]
      exact ⟨rfl, rfl⟩

set_option maxRecDepth 100000 in
set_option maxHeartbeats 2000000 in
theorem implInverse_any (a : Int) (p : Nat) (hp : p = 2 ∨ p = 3 ∨ p = 5) (w : World) : Calls Try.prog 84 #[.int .i64 a, .int .i64 (p : Int)] w fun e w' => e = .returned (.int .i64 (Lin.inv p a)) ∧ w = w' := by
  have hz : ((p : Int) = 0) = False := by simp; omega
  have hP : Hid (primeB (p : Int) = true) := decide_eq_true (by omega)
  have hr0 := Int.emod_nonneg a (by omega : (p : Int) ≠ 0)
  have hr1 := Int.emod_lt_of_pos a (by omega : (0 : Int) < p)
  have hp5 : p ≤ 5 := by omega
  have hp1 : 1 < p := by omega
  have HR : Hid (∃ r : Int, a % (p : Int) = r) := ⟨_, rfl⟩
  obtain ⟨r, hr⟩ := HR.out
  rw [hr] at hr0 hr1
  have HRR := Lib.hid hr
  clear hr hp HR
  go_enter Try.func84, Try.ntmps84
  go_wp2_with fail
  refine (implPrime_any _ _).mono ?_
  rw [hP.out]
  rintro e w' ⟨rfl, rfl⟩
  go_wp2
  go_loop [5] (fun x => ∃ b : Nat, 1 ≤ b ∧ b ≤ p ∧ x = .int .i64 (b : Int) ∧ Hid (∀ c : Nat, c < b → ¬r * (c : Int) % p = 1)) (fun x => p - (intOf x).toNat)
  case atStart => exact ⟨1, by omega, by omega, rfl, fun c hc => by rw [show c = 0 by omega]; simp⟩
  case round =>
    obtain ⟨b, hb1, hb, rfl, hno⟩ := hrel
    by_cases hlt : b < p
    · have hm1 : 0 ≤ r * (b : Int) := Int.mul_nonneg hr0 (by omega)
      have hm2 : r * (b : Int) ≤ 25 := Int.le_trans (Int.mul_le_mul (show r ≤ 5 by omega) (show (b : Int) ≤ 5 by omega) (by omega) (by omega)) (by decide)
      go_wp2_with fail
      refine (remainder_any a p hp1 (by omega) _).mono ?_
      rw [HRR.out]
      rintro e w' ⟨rfl, rfl⟩
      have htm : (r * (b : Int)).tmod p = r * (b : Int) % p := Int.tmod_eq_emod_of_nonneg hm1
      by_cases hc : r * (b : Int) % p = 1
      · have HC := Lib.hid hc
        go_wp2
        go_ret
        exact ⟨ret_int (inv_hit hlt (by rw [HRR.out]; exact HC.out) (by rw [HRR.out]; exact hno.out)).symm, rfl⟩
      · have HC := Lib.hid hc
        go_wp2
        go_round
        case rel =>
          refine ⟨b + 1, by omega, by omega, by go_num, fun c hc' => ?_⟩
          by_cases e : c < b
          · exact hno.out c e
          · rw [show c = b by omega]
            exact HC.out
        case measure => simp [intOf]; omega
    · have HE : Hid (b = p) := by show b = p; omega
      go_wp2
      go_ret
      refine ⟨ret_int ?_, rfl⟩
      exact (inv_none (by rw [HRR.out]; exact fun c hc => hno.out c (by rw [HE.out]; exact hc))).symm

/-- The inverse for every number that is asked as a prime. -/
def invZ (a p : Int) : Int := if primeB p = true then Lin.inv p.toNat a else 0
theorem prime_nat {p : Int} (h : primeB p = true) : (p.toNat = 2 ∨ p.toNat = 3 ∨ p.toNat = 5) ∧ p = (p.toNat : Int) := by
  have := of_decide_eq_true h
  omega

set_option maxRecDepth 100000 in
set_option maxHeartbeats 2000000 in
theorem implInverse_all (a p : Int) (w : World) : Calls Try.prog 84 #[.int .i64 a, .int .i64 p] w fun e w' => e = .returned (.int .i64 (invZ a p)) ∧ w = w' := by
  by_cases h : primeB p = true
  · obtain ⟨h1, h2⟩ := prime_nat h
    rw [show invZ a p = Lin.inv p.toNat a from if_pos h]
    have hc := implInverse_any a p.toNat h1 w
    rw [← h2] at hc
    exact hc
  · have h2 : primeB p = false := by simpa using h
    rw [show invZ a p = 0 from if_neg h]
    have HF := Lib.hid h2
    clear h h2
    go_enter Try.func84, Try.ntmps84
    go_wp2_with fail
    refine (implPrime_any _ _).mono ?_
    rw [HF.out]
    rintro e w' ⟨rfl, rfl⟩
    go_wp2
    go_ret
    exact ⟨rfl, rfl⟩

set_option maxRecDepth 100000 in
set_option maxHeartbeats 2000000 in
theorem specInverse_all (a p : Int) (w : World) : Calls Try.prog 71 #[.int .i64 a, .int .i64 p] w fun e w' => e = .returned (.int .i64 (invZ a p)) ∧ w = w' := by
  by_cases h : primeB p = true
  · obtain ⟨h1, h2⟩ := prime_nat h
    rw [show invZ a p = Lin.inv p.toNat a from if_pos h]
    have hc := inverse_any a p.toNat h1 w
    rw [← h2] at hc
    exact hc
  · have h2 : primeB p = false := by simpa using h
    rw [show invZ a p = 0 from if_neg h]
    have HF := Lib.hid h2
    clear h h2
    go_enter Try.func71, Try.ntmps71
    go_wp2_with fail
    refine (isPrime_any _ _).mono ?_
    rw [HF.out]
    rintro e w' ⟨rfl, rfl⟩
    go_wp2
    go_ret
    exact ⟨rfl, rfl⟩

end Go.Proofs.Ytenpcjmhlnalcaa

/-! LINEAR ALGEBRA modulo a prime, of no program: elimination below the pivots alone finds as many pivots as the reduced form has. -/

namespace Go.Proofs.Ytenpcjmhlnalcaa
open Sets
namespace Lin

/-- The numbers behind a step: the rows below d are cleared at the column c. -/
def clrF (p : Nat) (d c : Nat) (f : Nat → Nat → Int) (t s : Nat) : Int := if d < t then (f t s - f t c * inv p (f d c) % (p : Int) * f d s) % (p : Int) else f t s
/-- Two rows exchanged. -/
def swpF (d a : Nat) (f : Nat → Nat → Int) (t s : Nat) : Int := f (if t = a then d else if t = d then a else t) s

structure Sim (p m n d : Nat) (f : Nat → Nat → Int) (S : Mat) : Prop where
  len : S.length = m
  ok : Okay p n S
  same : ∀ t s, d ≤ t → t < m → s < n → f t s % (p : Int) = ent S t s

theorem inv_mod (p : Nat) (a : Int) : inv p (a % (p : Int)) = inv p a := by
  unfold inv
  rw [Int.emod_emod]

theorem swap_ent (S : Mat) (a d t s : Nat) (ha : a < S.length) (hd : d < S.length) : ent (swap S a d) t s = ent S (if t = a then d else if t = d then a else t) s := by
  unfold ent
  rw [swap_row S a d t ha hd]
  by_cases e : t = d
  · subst e
    rw [if_pos rfl]
    by_cases e2 : t = a
    · rw [if_pos e2, e2]
    · rw [if_neg e2, if_pos rfl]
  · rw [if_neg e]
    by_cases e2 : t = a
    · rw [if_pos e2, if_pos e2]
    · rw [if_neg e2, if_neg e2, if_neg e]

theorem clear_eq (p x y b v : Int) : (x - y * b % p * v) % p = (x % p - y % p * (v % p * b % p)) % p := by
  have e1 := Int.emod_add_mul_ediv (y * b) p
  have e2 := Int.emod_add_mul_ediv x p
  have e3 := Int.emod_add_mul_ediv y p
  have e4 := Int.emod_add_mul_ediv v p
  have e5 := Int.emod_add_mul_ediv (v % p * b) p
  generalize y * b % p = A at *
  generalize v % p * b % p = B at *
  generalize y * b / p = q1 at *
  generalize x / p = q2 at *
  generalize y / p = q3 at *
  generalize v / p = q4 at *
  generalize v % p * b / p = q5 at *
  generalize x % p = X at *
  generalize y % p = Y at *
  generalize v % p = V at *
  subst e2 e3 e4
  have : X + p * q2 - A * (V + p * q4) = (X - Y * B) + p * (q2 - A * q4 + q1 * V - q3 * b * V - Y * q5) := by grind
  rw [this, Int.add_mul_emod_self_left]

theorem Sim.clear {p m n d a c : Nat} {f : Nat → Nat → Int} {S : Mat} (hp : 0 < p) (h : Sim p m n d f S) (ha : d ≤ a) (ham : a < m) (hc : c < n) : Sim p m n (d + 1) (clrF p d c (swpF d a f)) (clr p (swap S a d) d c) := by
  have haS : a < S.length := by rw [h.len]; exact ham
  have hdS : d < S.length := by omega
  have hok2 := swap_ok haS hdS h.ok
  have hl2 : d < (swap S a d).length := by rw [swap_length]; exact hdS
  refine ⟨by rw [clr_length, swap_length]; exact h.len, clr_ok hp hl2 hok2, fun t s ht htm hs => ?_⟩
  have hg : ∀ t s, d ≤ t → t < m → s < n → swpF d a f t s % (p : Int) = ent (swap S a d) t s := fun t s ht htm hs => by
    rw [swap_ent S a d t s haS hdS]
    unfold swpF
    refine h.same _ s ?_ ?_ hs
    · split
      · exact Nat.le_refl _
      · split
        · exact ha
        · exact ht
    · split
      · omega
      · split
        · exact ham
        · exact htm
  have htS : t < (swap S a d).length := by rw [swap_length, h.len]; exact htm
  have hw2 : ∀ i, i < (swap S a d).length → (row (swap S a d) i).length = n := fun i hi => hok2.wide _ (row_mem hi)
  unfold ent
  rw [clr_row p _ d c t htS, if_neg (by omega), elim_get _ _ _ _ (by rw [scl_length, hw2 t htS, hw2 d hl2]), scl_get]
  show _ = (ent (swap S a d) t s - ent (swap S a d) t c * (ent (swap S a d) d s * inv p (ent (swap S a d) d c) % (p : Int))) % (p : Int)
  rw [← hg t s (by omega) htm hs, ← hg t c (by omega) htm hc, ← hg d s (Nat.le_refl _) (by omega) hs, ← hg d c (Nat.le_refl _) (by omega) hc, inv_mod]
  unfold clrF
  rw [if_pos (by omega), Int.emod_emod]
  exact clear_eq _ _ _ _ _

/-- What holds ahead of the column j: d pivots so far. -/
def Elim (p : Nat) (M : Mat) (m n j d : Nat) (f : Nat → Nat → Int) : Prop :=
  d ≤ m ∧ (∀ t s, t < m → s < n → -1000 ≤ f t s ∧ f t s ≤ 1000) ∧ ∃ S P, redTo p M j = (S, P) ∧ P.length = d ∧ Sim p m n d f S

theorem Elim.start {p m n : Nat} (hp : 0 < p) {M : Mat} (hm : M.length = m) (hw : ∀ r ∈ M, r.length = n) (hb : ∀ t s, t < m → s < n → -1000 ≤ ent M t s ∧ ent M t s ≤ 1000) : Elim p M m n 0 0 (ent M) := by
  refine ⟨Nat.zero_le _, hb, modM p M, [], rfl, rfl, by simp [modM, hm], modM_ok hp hw, fun t s _ ht hs => ?_⟩
  have hl : s < (row M t).length := by rw [hw _ (row_mem (by rw [hm]; exact ht))]; exact hs
  unfold ent
  have : row (modM p M) t = (row M t).map fun x => x % (p : Int) := by
    unfold row modM
    simp [List.getD, List.getElem?_eq_getElem (by rw [hm]; exact ht : t < M.length)]
  rw [this]
  simp [List.getD, List.getElem?_eq_getElem hl]
theorem Elim.hit {p m n j d a : Nat} {M : Mat} {f : Nat → Nat → Int} (hp : 1 < p) (hp5 : p ≤ 5) (h : Elim p M m n j d f) (hj : j < n) (ha : d ≤ a) (ham : a < m) (hz : ∀ t, d ≤ t → t < a → f t j % (p : Int) = 0) (hn : f a j % (p : Int) ≠ 0) :
    Elim p M m n (j + 1) (d + 1) (clrF p d j (swpF d a f)) := by
  obtain ⟨hd, hb, S, P, hr, hP, hS⟩ := h
  refine ⟨by omega, fun t s ht hs => ?_, clr p (swap S a d) d j, P ++ [j], ?_, by simp [hP], hS.clear (by omega) ha ham hj⟩
  · have hsw : ∀ t s, t < m → s < n → -1000 ≤ swpF d a f t s ∧ swpF d a f t s ≤ 1000 := fun t s ht hs => by
      unfold swpF
      refine hb _ s ?_ hs
      split
      · omega
      · split
        · exact ham
        · exact ht
    unfold clrF
    split
    · have h0 := Int.emod_nonneg (swpF d a f t s - swpF d a f t j * inv p (swpF d a f d j) % (p : Int) * swpF d a f d s) (by omega : (p : Int) ≠ 0)
      have h1 := Int.emod_lt_of_pos (swpF d a f t s - swpF d a f t j * inv p (swpF d a f d j) % (p : Int) * swpF d a f d s) (by omega : (0 : Int) < p)
      omega
    · exact hsw t s ht hs
  · rw [redTo_next, hr]
    have hlen := hS.len
    have hsame := fun t (h1 : d ≤ t) (h2 : t < m) => hS.same t j h1 h2 hj
    rw [← hP] at ha hz ⊢
    refine step_some (by omega) (seek_eq S j _ _ _ ha (by omega) (fun t h1 h2 => by rw [← hsame t (by omega) (by omega)]; exact hz t h1 h2) (.inr (by rw [← hsame a (by omega) ham]; exact hn))) (by omega)
theorem Elim.miss {p m n j d : Nat} {M : Mat} {f : Nat → Nat → Int} (h : Elim p M m n j d f) (hj : j < n) (hz : ∀ t, d ≤ t → t < m → f t j % (p : Int) = 0) : Elim p M m n (j + 1) d f := by
  obtain ⟨hd, hb, S, P, hr, hP, hS⟩ := h
  refine ⟨hd, hb, S, P, ?_, hP, hS⟩
  rw [redTo_next, hr]
  have hlen := hS.len
  have hsame := fun t (h1 : d ≤ t) (h2 : t < m) => hS.same t j h1 h2 hj
  by_cases hl : P.length < S.length
  · refine step_none hl (seek_eq S j _ _ _ (by omega) (by omega) (fun t h1 h2 => by rw [← hsame t (by omega) (by omega)]; exact hz t (by omega) (by omega)) (.inl (by omega)))
  · unfold stepM; dsimp only; rw [if_neg hl]
theorem Elim.done {p m n d : Nat} {M : Mat} {f : Nat → Nat → Int} (h : Elim p M m n n d f) : rank p M n = d := by
  obtain ⟨_, _, S, P, hr, hP, _⟩ := h
  unfold rank reduce
  show (redTo p M n).2.length = d
  rw [hr]; exact hP

end Lin
end Go.Proofs.Ytenpcjmhlnalcaa

/-! MEMORY: a matrix behind a pointer, told by a function, whose rows may change places. -/

namespace Go.Proofs.Ytenpcjmhlnalcaa
open Go.RowKit

structure MB (w : World) (base P go co : Nat) (R : List (Nat × Nat)) (m n : Nat) (f : Nat → Nat → Int) : Prop where
  cell : w.cell? ⟨P, 0, none⟩ = some (.slice (some ⟨go, 0, none⟩) m co)
  low : base ≤ P
  lt : P < w.heap.size
  mx : Mx w go (some ⟨go, 0, none⟩) R (matF m n f)
  olow : base ≤ go
  ne : go ≠ P
  rlow : ∀ g, g ∈ blks R → base ≤ g ∧ g ≠ P

theorem MP.toB {w : World} {base P : Nat} {v : Value} {R : List (Nat × Nat)} {m n : Nat} {f : Nat → Nat → Int} (h : MP w base P v R (matF m n f)) (hm : 0 < m) : ∃ go co, m ≤ co ∧ MB w base P go co R m n f := by
  have hl := matF_length m n f
  rcases h.own.own.2 with ⟨hv, h0⟩ | ⟨g, cap, cur, hv, hb, hg, hnc, _⟩
  · omega
  · rw [hl] at hv hnc
    obtain ⟨go, ao, co, hv2, hgo, hX⟩ := h.own.mx
    rw [hl] at hv2 hgo
    obtain ⟨hao, -, -, -⟩ := hX.out 0 (by rw [hl]; exact hm)
    subst hao
    rw [hv] at hv2
    obtain ⟨e1, e2⟩ : g = go ∧ cap = co := by simpa using hv2
    subst e1 e2
    subst hv
    refine ⟨g, cap, hnc, h.cell, h.low, h.lt, hX, hb, fun e => h.off (by rw [e]; rfl), fun z hz => ⟨(h.own.old hz).1, fun e => h.offR (e ▸ hz)⟩⟩
theorem MB.drew {w : World} {base P go co : Nat} {R : List (Nat × Nat)} {m n : Nat} {f : Nat → Nat → Int} (h : MB w base P go co R m n f) : MB w.drew base P go co R m n f := ⟨h.cell, h.low, h.lt, h.mx.drew, h.olow, h.ne, h.rlow⟩
theorem MB.row {w : World} {base P go co : Nat} {R : List (Nat × Nat)} {m n : Nat} {f : Nat → Nat → Int} (h : MB w base P go co R m n f) {i : Nat} (hi : i < m) : w.cell? ⟨go, i, none⟩ = some (.slice (some ⟨blk R i, 0, none⟩) n (room R i)) ∧ w.frozen? ⟨go, i, none⟩ = false := by
  have hc := h.mx.cell (i := i) (by rw [matF_length]; exact hi)
  rw [matF_wide m n f i hi] at hc
  exact ⟨hc, (h.mx.out i (by rw [matF_length]; exact hi)).2.2.2⟩
theorem MB.num {w : World} {base P go co : Nat} {R : List (Nat × Nat)} {m n : Nat} {f : Nat → Nat → Int} (h : MB w base P go co R m n f) {i j : Nat} (hi : i < m) (hj : j < n) : w.cell? ⟨blk R i, j, none⟩ = some (.int .i64 (f i j)) ∧ w.frozen? ⟨blk R i, j, none⟩ = false := by
  have h1 := h.mx.ent (i := i) (j := j) (by rw [matF_length]; exact hi) (by rw [matF_wide m n f i hi]; exact hj)
  rw [matF_ent m n f i j hi hj] at h1
  exact ⟨h1, h.mx.soft (by rw [matF_length]; exact hi) (by rw [matF_wide m n f i hi]; exact hj)⟩
theorem MB.low_row {w : World} {base P go co : Nat} {R : List (Nat × Nat)} {m n : Nat} {f : Nat → Nat → Int} (h : MB w base P go co R m n f) {i : Nat} (hi : i < m) : base ≤ blk R i :=
  (h.rlow _ (blk_mem (by rw [h.mx.len, matF_length]; exact hi))).1
theorem MB.congr {w : World} {base P go co : Nat} {R : List (Nat × Nat)} {m n : Nat} {f g : Nat → Nat → Int} (h : MB w base P go co R m n f) (e : ∀ i j, i < m → j < n → f i j = g i j) : MB w base P go co R m n g :=
  ⟨h.cell, h.low, h.lt, by rw [← matF_congr e]; exact h.mx, h.olow, h.ne, h.rlow⟩
theorem MB.setF {w : World} {base P go co : Nat} {R : List (Nat × Nat)} {m n : Nat} {f : Nat → Nat → Int} (hM : MB w base P go co R m n f) {i j : Nat} (hi : i < m) (hj : j < n) (x : Int) (g : Nat → Nat → Int) (hx : g i j = x) (hg : ∀ i' j', i' < m → j' < n → ¬(i' = i ∧ j' = j) → g i' j' = f i' j') :
    MB (w.setCell ⟨blk R i, j, none⟩ (.int .i64 x)) base P go co R m n g := by
  have hiM : i < (matF m n f).length := by rw [matF_length]; exact hi
  have hmem : blk R i ∈ blks R := blk_mem (by rw [hM.mx.len]; exact hiM)
  have hne := (hM.rlow _ hmem).2
  refine ⟨?_, hM.low, by simpa [World.setCell] using hM.lt, ?_, hM.olow, hM.ne, hM.rlow⟩
  · rw [World.cell?_setCell_other _ _ _ _ (fun e => hne (congrArg Addr.block e))]; exact hM.cell
  · have h1 := hM.mx.set hiM j x
    rw [matF_set m n f i j hi hj x] at h1
    rw [matF_congr (g := g) (fun i' j' h' h'' => ?_)] at h1
    · exact h1
    · by_cases e : i' = i ∧ j' = j
      · rw [if_pos e, e.1, e.2, hx]
      · rw [if_neg e, hg i' j' h' h'' e]
theorem matF_swap (m n : Nat) (f : Nat → Nat → Int) (d a : Nat) (hd : d < m) (ha : a < m) : Lin.swap (matF m n f) d a = matF m n (Lin.swpF d a f) := by
  have hl := matF_length m n f
  refine mat_eq (by rw [Lin.swap_length, hl]) (matF_length _ _ _) (fun i hi => ?_) (matF_wide _ _ _) fun i j hi hj => ?_
  · rw [Lin.swap_row _ d a i (by rw [hl]; exact hd) (by rw [hl]; exact ha)]
    exact matF_wide m n f _ (by split <;> (try split) <;> assumption)
  · rw [matF_ent m n _ i j hi hj]
    unfold Lin.ent
    rw [Lin.swap_row _ d a i (by rw [hl]; exact hd) (by rw [hl]; exact ha)]
    exact matF_ent m n f _ j (by split <;> (try split) <;> assumption) hj
theorem MB.swap {w : World} {base P go co : Nat} {R : List (Nat × Nat)} {m n : Nat} {f : Nat → Nat → Int} (h : MB w base P go co R m n f) {d a : Nat} (hd : d < m) (ha : a < m) :
    MB ((w.setCell ⟨go, d, none⟩ (.slice (some ⟨blk R a, 0, none⟩) n (room R a))).setCell ⟨go, a, none⟩ (.slice (some ⟨blk R d, 0, none⟩) n (room R d))) base P go co (swapR R d a) m n (Lin.swpF d a f) := by
  have hl := matF_length m n f
  have hlen : R.length = m := by rw [h.mx.len, hl]
  have hX := h.mx.swap (a := d) (d := a) (by rw [hl]; exact hd) (by rw [hl]; exact ha)
  rw [matF_wide m n f a ha, matF_wide m n f d hd, matF_swap m n f d a hd ha] at hX
  refine ⟨?_, h.low, by simpa [World.setCell] using h.lt, hX, h.olow, h.ne, fun g hg => h.rlow g ((swapR_mem (by rw [hlen]; exact hd) (by rw [hlen]; exact ha) g).1 hg)⟩
  rw [World.cell?_setCell_other _ _ _ _ (fun e => h.ne (congrArg Addr.block e)), World.cell?_setCell_other _ _ _ _ (fun e => h.ne (congrArg Addr.block e))]
  exact h.cell
theorem rect_F {M : Lin.Mat} (h : ∀ i, i < M.length → (Lin.row M i).length = Lin.wid M) : M = matF M.length (Lin.wid M) (Lin.ent M) :=
  mat_eq rfl (matF_length _ _ _) h (matF_wide _ _ _) fun i j hi hj => by rw [matF_ent _ _ _ i j hi hj]

end Go.Proofs.Ytenpcjmhlnalcaa
