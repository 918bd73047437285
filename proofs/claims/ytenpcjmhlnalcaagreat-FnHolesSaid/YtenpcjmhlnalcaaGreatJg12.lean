/-
  TEXTS of one claim, put together: WMx4, WMat1, WMatI5, WDrawMat.
-/
import Derived.Test.YtenpcjmhlnalcaaGreatJg10
import Derived.Test.YtenpcjmhlnalcaaGreatJg11
import Derived.Deep.RegionHeld3
import Derived.Test.YtenpcjmhlnalcaaGreatJg4
import Derived.Test.YtenpcjmhlnalcaaGreatJg7
import Derived.Deep.RegionLaw
/-! WALKS: the laws' functions on rows of rows of numbers (written by genmx4.py); HasMx: a result that is a matrix of its own. -/

namespace Go.Proofs.YtenpcjmhlnalcaaGreat
open Go.RowKit

theorem Mx.only {w w' : World} {go : Nat} {ao : Option Addr} {R : List (Nat × Nat)} {M : Lin.Mat} {G : List Nat} (h : Mx w go ao R M) (k : Only G w w') (hgo : 0 < M.length → go ∉ G) (hr : ∀ g, g ∈ blks R → g ∉ G) : Mx w' go ao R M := by
  refine ⟨h.len, h.nodup, fun i hi => ?_, fun i hi => ?_, h.apart⟩
  · obtain ⟨h1, h2, h3, h4⟩ := h.out i hi
    have hb := k.block go h2 (hgo (by omega))
    exact ⟨h1, Nat.lt_of_lt_of_le h2 k.size, by rw [World.cell?_of_block (w := w) hb]; exact h3, by rw [World.frozen?_of_block (w := w) hb]; exact h4⟩
  · obtain ⟨h1, h2⟩ := h.rows i hi
    exact ⟨Nat.lt_of_lt_of_le h1 k.size, h2.only k (hr _ (blk_mem (by rw [h.len]; exact hi)))⟩
/-- A row is written anew. -/
theorem Mx.setRow {w w' : World} {go : Nat} {ao : Option Addr} {R : List (Nat × Nat)} {M : Lin.Mat} (h : Mx w go ao R M) {i : Nat} (hi : i < M.length) {r : List Int} (hl : r.length = (Lin.row M i).length) (hr : IntsAt w' (blk R i) (some ⟨blk R i, 0, none⟩) r) (hg : w.grownBy w' (some (blk R i))) : Mx w' go ao R (M.set i r) := by
  have hiR : i < R.length := by rw [h.len]; exact hi
  have hne : go ≠ blk R i := fun e => h.apart (e ▸ blk_mem hiR)
  have hlen : ∀ k, (Lin.row (M.set i r) k).length = (Lin.row M k).length := fun k => by
    rw [row_set M i k _ hi]
    by_cases e : k = i
    · rw [if_pos e, hl, e]
    · rw [if_neg e]
  refine ⟨by rw [List.length_set]; exact h.len, h.nodup, fun k hk => ?_, fun k hk => ?_, h.apart⟩
  · rw [List.length_set] at hk
    obtain ⟨h1, h2, h3, h4⟩ := h.out k hk
    have hb := hg.block go h2 (fun e => hne (Option.some.inj e))
    rw [hlen k]
    exact ⟨h1, Nat.lt_of_lt_of_le h2 hg.size, by rw [World.cell?_of_block (w := w) hb]; exact h3, by rw [World.frozen?_of_block (w := w) hb]; exact h4⟩
  · rw [List.length_set] at hk
    obtain ⟨h1, h2⟩ := h.rows k hk
    refine ⟨Nat.lt_of_lt_of_le h1 hg.size, ?_⟩
    rw [row_set M i k _ hi]
    by_cases e : k = i
    · rw [if_pos e, e]; exact hr
    · rw [if_neg e]
      exact h2.only (only_grown hg) (fun hm => by
        simp at hm
        exact e (blk_inj h.nodup (by rw [h.len]; exact hk) hiR hm))

def mixM (new old : Lin.Mat) (j : Nat) : Lin.Mat := new.take j ++ old.drop j
theorem mixM_zero (new old : Lin.Mat) : mixM new old 0 = old := rfl
theorem mixM_length {new old : Lin.Mat} (h : new.length = old.length) (j : Nat) : (mixM new old j).length = old.length := by unfold mixM; simp; omega
theorem mixM_end {new old : Lin.Mat} (h : new.length = old.length) {j : Nat} (hj : old.length ≤ j) : mixM new old j = new := by
  unfold mixM; rw [List.take_of_length_le (by omega), List.drop_eq_nil_of_le hj, List.append_nil]
theorem mixM_row {new old : Lin.Mat} (h : new.length = old.length) {j : Nat} (hj : j < old.length) : Lin.row (mixM new old j) j = Lin.row old j := by
  unfold Lin.row mixM
  rw [List.getD, List.getElem?_append_right (by simp; omega), List.length_take, Nat.min_eq_left (by omega), Nat.sub_self, List.getElem?_drop, List.getD]; rfl
theorem mixM_step {new old : Lin.Mat} (h : new.length = old.length) {j : Nat} (hj : j < old.length) : (mixM new old j).set j (Lin.row new j) = mixM new old (j + 1) := by
  unfold mixM Lin.row
  rw [List.set_append_right _ _ (by simp; omega), List.length_take, Nat.min_eq_left (by omega), Nat.sub_self, List.drop_eq_getElem_cons hj, List.set_cons_zero]
  have e : new.take (j + 1) = new.take j ++ [new[j]] := by rw [List.take_add_one, List.getElem?_eq_getElem (by omega)]; rfl
  rw [e, List.getD, List.getElem?_eq_getElem (by omega : j < new.length), List.append_assoc]
  rfl

/-- The number of things in the first i rows. -/
def offM : Lin.Mat → Nat → Nat
  | [], _ => 0
  | _, 0 => 0
  | r :: M, i + 1 => r.length + offM M i
theorem offM_zero (M : Lin.Mat) : offM M 0 = 0 := by cases M <;> rfl
theorem offM_next : ∀ (M : Lin.Mat) (i : Nat), i < M.length → offM M (i + 1) = offM M i + (Lin.row M i).length
  | [], i, h => absurd h (Nat.not_lt_zero _)
  | r :: M, 0, _ => by simp [offM, offM_zero, Lin.row]
  | r :: M, i + 1, h => by
    have e : Lin.row (r :: M) (i + 1) = Lin.row M i := rfl
    rw [offM, offM_next M i (by simpa using h), e, offM]; omega
theorem offM_le : ∀ (M : Lin.Mat) (i : Nat), offM M i ≤ offM M M.length
  | [], i => by simp [offM]
  | r :: M, 0 => by rw [offM_zero]; omega
  | r :: M, i + 1 => by rw [offM, List.length_cons, offM]; have := offM_le M i; omega
theorem offM_row (M : Lin.Mat) (i : Nat) (h : i < M.length) : (Lin.row M i).length ≤ offM M M.length := by
  have h1 := offM_next M i h
  have h2 := offM_le M (i + 1)
  omega
theorem offM_same {k : Nat} : ∀ (M : Lin.Mat), (∀ r, r ∈ M → r.length ≤ k) → offM M M.length ≤ M.length * k
  | [], _ => by simp [offM]
  | r :: M, h => by
    rw [List.length_cons, offM, Nat.succ_mul]
    have h1 := h r (by simp)
    have h2 := offM_same M (fun x hx => h x (List.mem_cons_of_mem _ hx))
    omega
/-- All things counted from s on. -/
def markM (s : Nat) (M : Lin.Mat) : Lin.Mat := (List.range M.length).map fun i => imarks (s + offM M i) (Lin.row M i).length
theorem markM_length (s : Nat) (M : Lin.Mat) : (markM s M).length = M.length := by simp [markM]
theorem markM_row (s : Nat) (M : Lin.Mat) (i : Nat) (h : i < M.length) : Lin.row (markM s M) i = imarks (s + offM M i) (Lin.row M i).length := by
  unfold markM
  show ((List.range M.length).map _).getD i [] = _
  simp [List.getD, h]

/-- A result that is a matrix of its own. -/
def HasMx (w : World) (base : Nat) (v : Value) (M : Lin.Mat) : Prop :=
  ∃ ao co go R, v = .slice ao M.length co ∧ (0 < M.length → base ≤ go ∧ go < w.heap.size) ∧ (∀ g, g ∈ blks R → base ≤ g ∧ g < w.heap.size) ∧ Mx w go ao R M
theorem OwnMx.has {w : World} {base : Nat} {v : Value} {R : List (Nat × Nat)} {M : Lin.Mat} (h : OwnMx w base v R M) : HasMx w base v M := by
  obtain ⟨go, ao, co, h1, h2, h3⟩ := h.mx
  exact ⟨ao, co, go, R, h1, h2, fun g hg => h.old hg, h3⟩
theorem mx_has {f : FuncId} {args : Array Value} {w : World} {M : Lin.Mat} (h : Calls Tryz.prog f args w fun e w' => ∃ v R, e = .returned v ∧ OwnMx w' w.heap.size v R M ∧ Below w.heap.size w w') :
    Calls Tryz.prog f args w fun e w' => ∃ v, e = .returned v ∧ HasMx w' w.heap.size v M ∧ Below w.heap.size w w' :=
  h.mono fun _ _ ⟨v, _, he, ho, hb⟩ => ⟨v, he, ho.has, hb⟩
theorem HasMx.lower {w : World} {base b : Nat} {v : Value} {M : Lin.Mat} (h : HasMx w base v M) (hb : b ≤ base) : HasMx w b v M := by
  obtain ⟨ao, co, go, R, h1, h2, h3, h4⟩ := h
  exact ⟨ao, co, go, R, h1, fun h => by have := h2 h; omega, fun g hg => by have := h3 g hg; omega, h4⟩
/-- The front of a matrix. -/
theorem Mx.front {w : World} {go : Nat} {ao : Option Addr} {R : List (Nat × Nat)} {M : Lin.Mat} (h : Mx w go ao R M) (m : Nat) : Mx w go ao (R.take m) (M.take m) := by
  have hrow : ∀ i, i < (M.take m).length → Lin.row (M.take m) i = Lin.row M i := fun i hi => by
    rw [List.length_take] at hi
    unfold Lin.row
    rw [List.getD, List.getD, List.getElem?_take_of_lt (by omega)]
  have hblk : ∀ i, i < (M.take m).length → (R.take m).getD i (0, 0) = R.getD i (0, 0) := fun i hi => by
    rw [List.length_take] at hi
    rw [List.getD, List.getD, List.getElem?_take_of_lt (by omega)]
  refine ⟨by rw [List.length_take, List.length_take, h.len], ?_, fun i hi => ?_, fun i hi => ?_, fun hm => h.apart ?_⟩
  · exact List.Sublist.nodup ((List.take_sublist m R).map _) h.nodup
  · have hi2 : i < M.length := by rw [List.length_take] at hi; omega
    rw [hrow i hi]
    simp only [blk, room]
    rw [hblk i hi]
    exact h.out i hi2
  · have hi2 : i < M.length := by rw [List.length_take] at hi; omega
    rw [hrow i hi]
    simp only [blk]
    rw [hblk i hi]
    exact h.rows i hi2
  · exact ((List.take_sublist m R).map _).subset hm

end Go.Proofs.YtenpcjmhlnalcaaGreat

/-! WALKS of chapter 13 (spec): remainders, inverses, signs. -/

namespace Go.Proofs.YtenpcjmhlnalcaaGreat
open Go.RowKit
open Sets

theorem tmod_mod {a p : Int} (hp : 0 < p) : (a.tmod p + p).tmod p = a % p := by
  have h1 := Int.tmod_lt_of_pos a hp
  have h2 := Int.lt_tmod_of_pos a hp
  rw [Int.tmod_eq_emod_of_nonneg (by omega)]
  rw [Int.add_emod_right]
  have := Int.tmod_add_mul_tdiv a p
  rw [show a.tmod p = a - p * a.tdiv p by omega, Int.sub_mul_emod_self_left]

theorem tmod_mod2 {a p : Int} (hp : 0 < p) : (a.tmod p + p) % p = a % p := by
  have h2 := Int.lt_tmod_of_pos a hp
  have h := tmod_mod (a := a) hp
  rwa [Int.tmod_eq_emod_of_nonneg (by omega)] at h

set_option maxRecDepth 100000 in
set_option maxHeartbeats 2000000 in
theorem l13Mod_any (a : Int) (p : Nat) (hp : 1 < p) (hp2 : p ≤ 1000) (w : World) : Calls Tryz.prog 83 #[.int .i64 a, .int .i64 (p : Int)] w fun e w' => e = .returned (.int .i64 (a % (p : Int))) ∧ w = w' := by
  have hz : ((p : Int) = 0) = False := by simp; omega
  have b1 := Int.tmod_lt_of_pos a (by omega : (0 : Int) < p)
  have b2 := Int.lt_tmod_of_pos a (by omega : (0 : Int) < p)
  have E := Lib.hid (tmod_mod2 (a := a) (by omega : (0 : Int) < p))
  go_enter Tryz.func83, Tryz.ntmps83
  go_wp2
  go_ret
  exact ⟨ret_int E.out, rfl⟩

/-- The primes that the chapter knows. -/
def primeB (p : Int) : Bool := decide (p = 2 ∨ p = 3 ∨ p = 5)
set_option maxRecDepth 100000 in
theorem isPrime_any (p : Int) (w : World) : Calls Tryz.prog 21 #[.int .i64 p] w fun e w' => e = .returned (.bool (primeB p)) ∧ w = w' := by
  by_cases h2 : p = 2
  · subst h2
    go_enter Tryz.func21, Tryz.ntmps21
    go_wp2
    go_ret
    exact ⟨rfl, rfl⟩
  · by_cases h3 : p = 3
    · subst h3
      go_enter Tryz.func21, Tryz.ntmps21
      go_wp2
      go_ret
      exact ⟨rfl, rfl⟩
    · have e2 : (p == 2) = false := by simpa using h2
      have e3 : (p == 3) = false := by simpa using h3
      have hb : Hid (primeB p = (p == 5)) := by unfold primeB; rw [Hid]; simp [h2, h3]; rfl
      go_enter Tryz.func21, Tryz.ntmps21
      go_wp2
      go_ret
      rw [hb.out]
      exact ⟨rfl, rfl⟩

theorem inv_hit {p b : Nat} {a : Int} (hb : b < p) (h : a % (p : Int) * (b : Int) % p = 1) (hno : ∀ c : Nat, c < b → ¬a % (p : Int) * (c : Int) % p = 1) : Lin.inv p a = b := by
  unfold Lin.inv
  rw [show ((List.range p).filter fun b : Nat => decide (a % (p : Int) * (b : Int) % p = 1)).headD 0 = b from ?_]
  rw [List.headD_eq_head?_getD, List.head?_filter, List.find?_range_eq_some.2 ⟨decide_eq_true h, List.mem_range.2 hb, fun j hj => by simpa using hno j hj⟩]; rfl
theorem inv_none {p : Nat} {a : Int} (hno : ∀ c : Nat, c < p → ¬a % (p : Int) * (c : Int) % p = 1) : Lin.inv p a = 0 := by
  unfold Lin.inv
  rw [List.filter_eq_nil_iff.2 fun c hc => by simpa using hno c (List.mem_range.1 hc)]; rfl

set_option maxRecDepth 100000 in
set_option maxHeartbeats 2000000 in
theorem inverse_any (a : Int) (p : Nat) (hp : p = 2 ∨ p = 3 ∨ p = 5) (w : World) : Calls Tryz.prog 106 #[.int .i64 a, .int .i64 (p : Int)] w fun e w' => e = .returned (.int .i64 (Lin.inv p a)) ∧ w = w' := by
  have hz : ((p : Int) = 0) = False := by simp; omega
  have hP : Hid (primeB (p : Int) = true) := decide_eq_true (by omega)
  have hr0 := Int.emod_nonneg a (by omega : (p : Int) ≠ 0)
  have hr1 := Int.emod_lt_of_pos a (by omega : (0 : Int) < p)
  have hp5 : p ≤ 5 := by omega
  have hp1 : 1 < p := by omega
  have HR : Hid (∃ r : Int, a % (p : Int) = r) := ⟨_, rfl⟩
  obtain ⟨r, hr⟩ := HR.out
  rw [hr] at hr0 hr1
  have HRR := Lib.hid hr
  clear hr hp HR
  go_enter Tryz.func106, Tryz.ntmps106
  go_wp2_with fail
  refine (isPrime_any _ _).mono ?_
  rw [hP.out]
  rintro e w' ⟨rfl, rfl⟩
  go_wp2
  go_loop [5] (fun x => ∃ b : Nat, 1 ≤ b ∧ b ≤ p ∧ x = .int .i64 (b : Int) ∧ Hid (∀ c : Nat, c < b → ¬r * (c : Int) % p = 1)) (fun x => p - (intOf x).toNat)
  case atStart => exact ⟨1, by omega, by omega, rfl, fun c hc => by rw [show c = 0 by omega]; simp⟩
  case round =>
    obtain ⟨b, hb1, hb, rfl, hno⟩ := hrel
    by_cases hlt : b < p
    · have hm1 : 0 ≤ r * (b : Int) := Int.mul_nonneg hr0 (by omega)
      have hm2 : r * (b : Int) ≤ 25 := Int.le_trans (Int.mul_le_mul (show r ≤ 5 by omega) (show (b : Int) ≤ 5 by omega) (by omega) (by omega)) (by decide)
      go_wp2_with fail
      refine (l13Mod_any a p hp1 (by omega) _).mono ?_
      rw [HRR.out]
      rintro e w' ⟨rfl, rfl⟩
      have htm : (r * (b : Int)).tmod p = r * (b : Int) % p := Int.tmod_eq_emod_of_nonneg hm1
      by_cases hc : r * (b : Int) % p = 1
      · have HC := Lib.hid hc
        go_wp2
        go_ret
        exact ⟨ret_int (inv_hit hlt (by rw [HRR.out]; exact HC.out) (by rw [HRR.out]; exact hno.out)).symm, rfl⟩
      · have HC := Lib.hid hc
        go_wp2
        go_round
        case rel =>
          refine ⟨b + 1, by omega, by omega, by go_num, fun c hc' => ?_⟩
          by_cases e : c < b
          · exact hno.out c e
          · rw [show c = b by omega]
            exact HC.out
        case measure => simp [intOf]; omega
    · have HE : Hid (b = p) := by show b = p; omega
      go_wp2
      go_ret
      refine ⟨ret_int ?_, rfl⟩
      exact (inv_none (by rw [HRR.out]; exact fun c hc => hno.out c (by rw [HE.out]; exact hc))).symm

end Go.Proofs.YtenpcjmhlnalcaaGreat

/-! WALKS of chapter 13 (impl): TurnMatrix; remainders, primes, inverses. -/

namespace Go.Proofs.YtenpcjmhlnalcaaGreat
open Go.RowKit

theorem HasMx.empty (w : World) (base : Nat) : HasMx w base (.slice none 0 0) [] :=
  ⟨none, 0, 0, [], rfl, fun h => absurd h (Nat.not_lt_zero _), fun g hg => absurd hg (by simp), ⟨rfl, by simp, fun i hi => absurd hi (Nat.not_lt_zero _), fun i hi => absurd hi (Nat.not_lt_zero _), by simp⟩⟩
/-- The columns as rows; none where the rows differ in length. -/
def turnZ (M : Lin.Mat) : Lin.Mat := if rectB M = true then Lin.turnM (Lin.wid M) M else []

set_option maxRecDepth 100000 in
set_option maxHeartbeats 2000000 in
theorem remainder_any (a : Int) (p : Nat) (hp : 1 < p) (hp2 : p ≤ 1000) (w : World) : Calls Tryz.prog 98 #[.int .i64 a, .int .i64 (p : Int)] w fun e w' => e = .returned (.int .i64 (a % (p : Int))) ∧ w = w' := by
  have hz : ((p : Int) = 0) = False := by simp; omega
  have b1 := Int.tmod_lt_of_pos a (by omega : (0 : Int) < p)
  have b2 := Int.lt_tmod_of_pos a (by omega : (0 : Int) < p)
  have E := Lib.hid (tmod_mod2 (a := a) (by omega : (0 : Int) < p))
  go_enter Tryz.func98, Tryz.ntmps98
  go_wp2
  go_ret
  exact ⟨ret_int E.out, rfl⟩

set_option maxRecDepth 100000 in
theorem implPrime_any (p : Int) (w : World) : Calls Tryz.prog 25 #[.int .i64 p] w fun e w' => e = .returned (.bool (primeB p)) ∧ w = w' := by
  by_cases h2 : p = 2
  · subst h2
    go_enter Tryz.func25, Tryz.ntmps25
    go_wp2
    go_ret
    exact ⟨rfl, rfl⟩
  · by_cases h3 : p = 3
    · subst h3
      go_enter Tryz.func25, Tryz.ntmps25
      go_wp2
      go_ret
      exact ⟨rfl, rfl⟩
    · have e2 : (p == 2) = false := by simpa using h2
      have e3 : (p == 3) = false := by simpa using h3
      have hb : Hid (primeB p = (p == 5)) := by unfold primeB; rw [Hid]; simp [h2, h3]; rfl
      go_enter Tryz.func25, Tryz.ntmps25
      go_wp2
      go_ret
      rw [hb.out]
      exact ⟨rfl, rfl⟩

set_option maxRecDepth 100000 in
set_option maxHeartbeats 2000000 in
theorem implInverse_any (a : Int) (p : Nat) (hp : p = 2 ∨ p = 3 ∨ p = 5) (w : World) : Calls Tryz.prog 97 #[.int .i64 a, .int .i64 (p : Int)] w fun e w' => e = .returned (.int .i64 (Lin.inv p a)) ∧ w = w' := by
  have hz : ((p : Int) = 0) = False := by simp; omega
  have hP : Hid (primeB (p : Int) = true) := decide_eq_true (by omega)
  have hr0 := Int.emod_nonneg a (by omega : (p : Int) ≠ 0)
  have hr1 := Int.emod_lt_of_pos a (by omega : (0 : Int) < p)
  have hp5 : p ≤ 5 := by omega
  have hp1 : 1 < p := by omega
  have HR : Hid (∃ r : Int, a % (p : Int) = r) := ⟨_, rfl⟩
  obtain ⟨r, hr⟩ := HR.out
  rw [hr] at hr0 hr1
  have HRR := Lib.hid hr
  clear hr hp HR
  go_enter Tryz.func97, Tryz.ntmps97
  go_wp2_with fail
  refine (implPrime_any _ _).mono ?_
  rw [hP.out]
  rintro e w' ⟨rfl, rfl⟩
  go_wp2
  go_loop [5] (fun x => ∃ b : Nat, 1 ≤ b ∧ b ≤ p ∧ x = .int .i64 (b : Int) ∧ Hid (∀ c : Nat, c < b → ¬r * (c : Int) % p = 1)) (fun x => p - (intOf x).toNat)
  case atStart => exact ⟨1, by omega, by omega, rfl, fun c hc => by rw [show c = 0 by omega]; simp⟩
  case round =>
    obtain ⟨b, hb1, hb, rfl, hno⟩ := hrel
    by_cases hlt : b < p
    · have hm1 : 0 ≤ r * (b : Int) := Int.mul_nonneg hr0 (by omega)
      have hm2 : r * (b : Int) ≤ 25 := Int.le_trans (Int.mul_le_mul (show r ≤ 5 by omega) (show (b : Int) ≤ 5 by omega) (by omega) (by omega)) (by decide)
      go_wp2_with fail
      refine (remainder_any a p hp1 (by omega) _).mono ?_
      rw [HRR.out]
      rintro e w' ⟨rfl, rfl⟩
      have htm : (r * (b : Int)).tmod p = r * (b : Int) % p := Int.tmod_eq_emod_of_nonneg hm1
      by_cases hc : r * (b : Int) % p = 1
      · have HC := Lib.hid hc
        go_wp2
        go_ret
        exact ⟨ret_int (inv_hit hlt (by rw [HRR.out]; exact HC.out) (by rw [HRR.out]; exact hno.out)).symm, rfl⟩
      · have HC := Lib.hid hc
        go_wp2
        go_round
        case rel =>
          refine ⟨b + 1, by omega, by omega, by go_num, fun c hc' => ?_⟩
          by_cases e : c < b
          · exact hno.out c e
          · rw [show c = b by omega]
            exact HC.out
        case measure => simp [intOf]; omega
    · have HE : Hid (b = p) := by show b = p; omega
      go_wp2
      go_ret
      refine ⟨ret_int ?_, rfl⟩
      exact (inv_none (by rw [HRR.out]; exact fun c hc => hno.out c (by rw [HE.out]; exact hc))).symm

/-- The inverse for every number that is asked as a prime. -/
def invZ (a p : Int) : Int := if primeB p = true then Lin.inv p.toNat a else 0
theorem prime_nat {p : Int} (h : primeB p = true) : (p.toNat = 2 ∨ p.toNat = 3 ∨ p.toNat = 5) ∧ p = (p.toNat : Int) := by
  have := of_decide_eq_true h
  omega

set_option maxRecDepth 100000 in
set_option maxHeartbeats 2000000 in
theorem implInverse_all (a p : Int) (w : World) : Calls Tryz.prog 97 #[.int .i64 a, .int .i64 p] w fun e w' => e = .returned (.int .i64 (invZ a p)) ∧ w = w' := by
  by_cases h : primeB p = true
  · obtain ⟨h1, h2⟩ := prime_nat h
    rw [show invZ a p = Lin.inv p.toNat a from if_pos h]
    have hc := implInverse_any a p.toNat h1 w
    rw [← h2] at hc
    exact hc
  · have h2 : primeB p = false := by simpa using h
    rw [show invZ a p = 0 from if_neg h]
    have HF := Lib.hid h2
    clear h h2
    go_enter Tryz.func97, Tryz.ntmps97
    go_wp2_with fail
    refine (implPrime_any _ _).mono ?_
    rw [HF.out]
    rintro e w' ⟨rfl, rfl⟩
    go_wp2
    go_ret
    exact ⟨rfl, rfl⟩

set_option maxRecDepth 100000 in
set_option maxHeartbeats 2000000 in
theorem specInverse_all (a p : Int) (w : World) : Calls Tryz.prog 106 #[.int .i64 a, .int .i64 p] w fun e w' => e = .returned (.int .i64 (invZ a p)) ∧ w = w' := by
  by_cases h : primeB p = true
  · obtain ⟨h1, h2⟩ := prime_nat h
    rw [show invZ a p = Lin.inv p.toNat a from if_pos h]
    have hc := inverse_any a p.toNat h1 w
    rw [← h2] at hc
    exact hc
  · have h2 : primeB p = false := by simpa using h
    rw [show invZ a p = 0 from if_neg h]
    have HF := Lib.hid h2
    clear h h2
    go_enter Tryz.func106, Tryz.ntmps106
    go_wp2_with fail
    refine (isPrime_any _ _).mono ?_
    rw [HF.out]
    rintro e w' ⟨rfl, rfl⟩
    go_wp2
    go_ret
    exact ⟨rfl, rfl⟩

end Go.Proofs.YtenpcjmhlnalcaaGreat

/-! WALKS: spec's draws of chapter 13: a matrix. -/

namespace Go.Proofs.YtenpcjmhlnalcaaGreat
open Go.RowKit

theorem OwnMx.away {w w' : World} {base B : Nat} {v : Value} {R : List (Nat × Nat)} {M : Lin.Mat} (h : OwnMx w base v R M) (hg : w.grownBy w' (some B)) (hB : B < base) : OwnMx w' base v R M := by
  refine ⟨World.ownsRow.kept (row := some B) h.own hg (.inr fun e => ?_), h.len, h.nodup, fun i hi => ?_, h.apart⟩
  · have := (h.own.lt B e).1; omega
  · obtain ⟨q1, q2, q3⟩ := h.rows i hi
    exact ⟨q1, Nat.lt_of_lt_of_le q2 hg.size, q3.far hg (by omega)⟩
theorem Mx.away {w w' : World} {B go : Nat} {ao : Option Addr} {R : List (Nat × Nat)} {M : Lin.Mat} (h : Mx w go ao R M) (hg : w.grownBy w' (some B)) (hgo : 0 < M.length → go ≠ B) (hR : ∀ g, g ∈ blks R → g ≠ B) : Mx w' go ao R M :=
  h.only (only_grown hg) (fun h0 hm => by simp at hm; exact hgo h0 hm) (fun g hg2 hm => by simp at hm; exact hR g hg2 hm)

theorem set_blk (R : List (Nat × Nat)) (i j : Nat) (x : Nat × Nat) (hi : i < R.length) : (R.set i x).getD j (0, 0) = if j = i then x else R.getD j (0, 0) := by
  simp only [List.getD, List.getElem?_set]
  by_cases e : j = i
  · subst e; simp [hi]
  · rw [if_neg (fun h => e h.symm), if_neg e]
theorem mem_set_blk {R : List (Nat × Nat)} {i : Nat} {x : Nat × Nat} {z : Nat} (h : z ∈ blks (R.set i x)) : z = x.1 ∨ z ∈ blks R := by
  obtain ⟨y, hy, rfl⟩ := List.mem_map.1 h
  rcases List.mem_or_eq_of_mem_set hy with h1 | h1
  · exact .inr (List.mem_map.2 ⟨y, h1, rfl⟩)
  · exact .inl (by rw [h1])
/-- Another row takes a row's place. -/
theorem Mx.setOut {w : World} {go : Nat} {R : List (Nat × Nat)} {M : Lin.Mat} (h : Mx w go (some ⟨go, 0, none⟩) R M) {i : Nat} (hi : i < M.length) {g c : Nat} {r : List Int} (hg : g ∉ blks R) (hne : g ≠ go) (hlt : g < w.heap.size) (hr : IntsAt w g (some ⟨g, 0, none⟩) r) :
    Mx (w.setCell ⟨go, i, none⟩ (.slice (some ⟨g, 0, none⟩) r.length c)) go (some ⟨go, 0, none⟩) (R.set i (g, c)) (M.set i r) := by
  have hiR : i < R.length := by rw [h.len]; exact hi
  have hon : Only [go] w (w.setCell ⟨go, i, none⟩ (.slice (some ⟨g, 0, none⟩) r.length c)) := Only.set _ _ _ (by simp) _
  have hb : ∀ j, blk (R.set i (g, c)) j = if j = i then g else blk R j := fun j => by
    simp only [blk]
    rw [set_blk R i j _ hiR]
    by_cases e : j = i
    · rw [if_pos e, if_pos e]
    · rw [if_neg e, if_neg e]
  have hrm : ∀ j, room (R.set i (g, c)) j = if j = i then c else room R j := fun j => by
    simp only [room]
    rw [set_blk R i j _ hiR]
    by_cases e : j = i
    · rw [if_pos e, if_pos e]
    · rw [if_neg e, if_neg e]
  refine ⟨by rw [List.length_set, List.length_set]; exact h.len, ?_, fun j hj => ?_, fun j hj => ?_, fun hm => ?_⟩
  · have e0 : ∀ (Q : List (Nat × Nat)) j, (hj : j < Q.length) → (blks Q)[j]'(by simpa using hj) = blk Q j := fun Q j hj => by simp [blk, blks, List.getD, List.getElem?_eq_getElem hj]
    have hl := e0 (R.set i (g, c))
    unfold List.Nodup
    rw [List.pairwise_iff_getElem]
    intro a b ha hb2 hab he
    have ha' : a < (R.set i (g, c)).length := by simpa using ha
    have hb' : b < (R.set i (g, c)).length := by simpa using hb2
    rw [hl a ha', hl b hb', hb, hb] at he
    rw [List.length_set] at ha' hb'
    by_cases e1 : a = i
    · rw [if_pos e1] at he
      by_cases e2 : b = i
      · omega
      · rw [if_neg e2] at he; exact hg (he ▸ blk_mem hb')
    · rw [if_neg e1] at he
      by_cases e2 : b = i
      · rw [if_pos e2] at he; exact hg (he ▸ blk_mem ha')
      · rw [if_neg e2] at he
        have := blk_inj h.nodup ha' hb' he
        omega
  · rw [List.length_set] at hj
    obtain ⟨q1, q2, q3, q4⟩ := h.out j hj
    refine ⟨q1, by simpa [World.setCell] using q2, ?_, by rw [World.frozen?_setCell]; exact q4⟩
    rw [hb, hrm, row_set M i j _ hi]
    by_cases e : j = i
    · subst e
      rw [if_pos rfl, if_pos rfl, if_pos rfl]
      exact World.cell?_setCell_same _ _ _ q3
    · rw [if_neg e, if_neg e, if_neg e, World.cell?_setCell_other _ _ _ _ (fun e2 => e (by have := congrArg Addr.off e2; simpa using this.symm))]
      exact q3
  · rw [List.length_set] at hj
    rw [hb, row_set M i j _ hi]
    by_cases e : j = i
    · rw [if_pos e, if_pos e]
      exact ⟨by simpa [World.setCell] using hlt, hr.only hon (by rw [List.mem_singleton]; exact hne)⟩
    · rw [if_neg e, if_neg e]
      obtain ⟨q1, q2⟩ := h.rows j hj
      refine ⟨by simpa [World.setCell] using q1, q2.only hon ?_⟩
      rw [List.mem_singleton]
      intro e2
      exact h.apart (e2 ▸ blk_mem (by rw [h.len]; exact hj))
  · rcases mem_set_blk hm with e | e
    · exact hne e.symm
    · exact h.apart e

/-- What a draw of a matrix hands back. -/
def DrawnMx (k : Nat) (w : World) (base : Nat) (v : Value) (M : Lin.Mat) : Prop := HasMx w base v M ∧ M.length ≤ k ∧ ∀ r, r ∈ M → r.length ≤ 6

theorem OwnMx.drawn {w : World} {base : Nat} {v : Value} {R : List (Nat × Nat)} {M : Lin.Mat} {k : Nat} (h : OwnMx w base v R M) (h1 : M.length ≤ k) (h2 : ∀ r, r ∈ M → r.length ≤ 6) : DrawnMx k w base v M := ⟨h.has, h1, h2⟩
theorem pick_some (B : Nat) (a : Option Addr) (n c : Nat) (hn : n ≤ 140737488355328) (b o cc : Nat) (zs : List Int) (h0 : 0 < zs.length) (h1 : zs.length ≤ 4294967296) (w : World) (hc : Cur w B a n c) (hbB : b ≠ B) (hr : IntRow w b o zs) :
    Calls Tryz.prog 43 #[.pointer (some ⟨B, 0, none⟩), .slice (some ⟨b, o, none⟩) zs.length cc] w fun e w' => ∃ x : Int, e = .returned (.int .i64 x) ∧ Drew w w' B a n c :=
  (pickInt_any B a n c hn b o cc zs h0 h1 w hc hbB hr).mono fun _ _ ⟨_, _, he, hd⟩ => ⟨_, he, hd⟩
theorem tail_plain (M : Lin.Mat) (N K i : Nat) (hi : i = N) (hK : K ≤ 6) (h : M.length = i ∧ ∀ r, r ∈ M → r.length = K) : M.length = N ∧ ∀ r, r ∈ M → r.length ≤ 6 :=
  ⟨by rw [h.1, hi], fun r hr => by rw [h.2 r hr]; exact hK⟩
theorem set_le {M : Lin.Mat} {i : Nat} {r : List Int} (h : ∀ r, r ∈ M → r.length ≤ 6) (hr : r.length ≤ 6) : ∀ x, x ∈ M.set i r → x.length ≤ 6 := fun x hx => by
  rcases List.mem_or_eq_of_mem_set hx with e | e
  · exact h x e
  · rw [e]; exact hr

end Go.Proofs.YtenpcjmhlnalcaaGreat
