/-
  WALK of chapter 13 (spec): a pivot's column is cleared.
-/
import Derived.Test.YtenpcjmhlnalcaaJg4
import Derived.Test.YtenpcjmhlnalcaaJg9
import Derived.Test.YtenpcjmhlnalcaaJg10
import Derived.Deep.RegionLaw
import Derived.Deep.RegionHeld3
import Derived.StillTailTactics
namespace Go.Proofs.Ytenpcjmhlnalcaa
open Go.RowKit
open Sets Lin

/-- The matrix with the pivot's row k made 1 at the column c and the rows up to i cleared. -/
def clrTo (p : Nat) (M : Mat) (k c i : Nat) : Mat :=
  (List.range M.length).map fun t => if t = k then scl p (inv p (ent M k c)) (Lin.row M k) else if t < i then elim p (ent M t c) (Lin.row M t) (scl p (inv p (ent M k c)) (Lin.row M k)) else Lin.row M t
theorem clrTo_length (p : Nat) (M : Mat) (k c i : Nat) : (clrTo p M k c i).length = M.length := by simp [clrTo]
theorem clrTo_row (p : Nat) (M : Mat) (k c i t : Nat) (ht : t < M.length) : Lin.row (clrTo p M k c i) t = if t = k then scl p (inv p (ent M k c)) (Lin.row M k) else if t < i then elim p (ent M t c) (Lin.row M t) (scl p (inv p (ent M k c)) (Lin.row M k)) else Lin.row M t := by
  unfold clrTo Lin.row; simp [List.getD, ht]
theorem mat_ext {A B : Mat} (h : A.length = B.length) (hr : ∀ t, t < A.length → Lin.row A t = Lin.row B t) : A = B := by
  apply List.ext_getElem h
  intro t h1 h2
  have := hr t h1
  unfold Lin.row at this
  simpa [List.getD, List.getElem?_eq_getElem h1, List.getElem?_eq_getElem h2] using this
theorem clrTo_zero (p : Nat) (M : Mat) (k c : Nat) (hk : k < M.length) : clrTo p M k c 0 = M.set k (scl p (inv p (ent M k c)) (Lin.row M k)) := by
  refine mat_ext (by rw [clrTo_length, List.length_set]) fun t ht => ?_
  rw [clrTo_length] at ht
  rw [clrTo_row p M k c 0 t ht, row_set M k t _ hk, if_neg (Nat.not_lt_zero t)]
theorem clrTo_end (p : Nat) (M : Mat) (k c i : Nat) (hi : M.length ≤ i) : clrTo p M k c i = clr p M k c := by
  refine mat_ext (by rw [clrTo_length, clr_length]) fun t ht => ?_
  rw [clrTo_length] at ht
  rw [clrTo_row p M k c i t ht, clr_row p M k c t ht, if_pos (show t < i by omega)]
theorem clrTo_same (p : Nat) (M : Mat) (k c : Nat) : clrTo p M k c (k + 1) = clrTo p M k c k := by
  refine mat_ext (by rw [clrTo_length, clrTo_length]) fun t ht => ?_
  rw [clrTo_length] at ht
  rw [clrTo_row p M k c _ t ht, clrTo_row p M k c _ t ht]
  by_cases e : t = k
  · rw [if_pos e, if_pos e]
  · rw [if_neg e, if_neg e]
    by_cases e2 : t < k
    · rw [if_pos (by omega), if_pos e2]
    · rw [if_neg (by omega), if_neg e2]
theorem clrTo_next (p : Nat) (M : Mat) (k c i : Nat) (hi : i < M.length) (hne : i ≠ k) : clrTo p M k c (i + 1) = (clrTo p M k c i).set i (elim p (ent M i c) (Lin.row M i) (scl p (inv p (ent M k c)) (Lin.row M k))) := by
  refine mat_ext (by rw [clrTo_length, List.length_set, clrTo_length]) fun t ht => ?_
  rw [clrTo_length] at ht
  rw [row_set _ i t _ (by rw [clrTo_length]; exact hi), clrTo_row p M k c _ t ht, clrTo_row p M k c _ t ht]
  by_cases e : t = k
  · rw [if_pos e, if_neg (by omega), if_pos e]
  · rw [if_neg e, if_neg e]
    by_cases e2 : t = i
    · subst e2; rw [if_pos (by omega), if_pos rfl]
    · rw [if_neg e2]
      by_cases e3 : t < i
      · rw [if_pos (by omega), if_pos e3]
      · rw [if_neg (by omega), if_neg e3]
theorem set_self (M : Mat) (i : Nat) (r : List Int) (hi : i < M.length) (h : Lin.row M i = r) : M.set i r = M := by
  refine mat_ext (by rw [List.length_set]) fun t ht => ?_
  rw [row_set M i t r hi]
  by_cases e : t = i
  · rw [if_pos e, e, h]
  · rw [if_neg e]
theorem inv_le (p : Nat) (a : Int) : 0 ≤ inv p a ∧ inv p a ≤ p := by
  unfold inv
  refine ⟨Int.natCast_nonneg _, ?_⟩
  have : ∀ l : List Nat, (∀ x ∈ l, x < p) → (l.headD 0 : Nat) ≤ p := fun l h => by
    cases l with
    | nil => exact Nat.zero_le _
    | cons x l => exact Nat.le_of_lt (h x (List.mem_cons_self ..))
  exact Int.ofNat_le.2 (this _ fun x hx => List.mem_range.1 (List.mem_filter.1 hx).1)

set_option maxRecDepth 100000 in
set_option maxHeartbeats 4000000 in
theorem l13Clear_any (p : Nat) (hp : p = 2 ∨ p = 3 ∨ p = 5) (M : Mat) (n : Nat) (hok : Okay p n M) (k c : Nat) (hk : k < M.length) (hc : c < n) (hm : M.length ≤ 1000) (hn : n ≤ 1000) (go : Nat) (ao : Option Addr) (co : Nat) (R : List (Nat × Nat)) (w : World) (h : Mx w go ao R M) :
    Calls Try.prog 54 #[.slice ao M.length co, .int .i64 (k : Int), .int .i64 (c : Int), .int .i64 (p : Int)] w fun e w' => e = .returned (.slice ao M.length co) ∧ Mx w' go ao R (clr p M k c) ∧ Only (blks R) w w' := by
  have hp5 : p ≤ 5 := by omega
  have hp1 : 1 < p := by omega
  have hwide : ∀ i, i < M.length → (Lin.row M i).length = n := fun i hi => hok.wide _ (row_mem hi)
  have hmod : ∀ i j, 0 ≤ ent M i j ∧ ent M i j < (p : Int) := ent_mod (by omega) hok
  obtain ⟨hao, hgo, hcell, hsoft⟩ := h.out k hk
  subst hao
  have hRk : blk R k ∈ blks R := blk_mem (by rw [h.len]; exact hk)
  have hrow := h.ent hk (j := c) (by rw [hwide k hk]; exact hc)
  rw [hwide k hk] at hcell
  have hwk := hwide k hk
  have HW := Lib.hid hwide
  have HMOD := Lib.hid hmod
  have HM := Lib.hid h
  have hib := inv_le p (ent M k c)
  have HINV := Lib.hid (fun W => inverse_any (ent M k c) p hp W)
  obtain ⟨b, hb⟩ : ∃ b, inv p (ent M k c) = b := ⟨_, rfl⟩
  have HB := Lib.hid hb
  rw [hb] at hib HINV
  obtain ⟨x0, hx0⟩ : ∃ x0, ent M k c = x0 := ⟨_, rfl⟩
  rw [hx0] at hrow HINV
  have HRK := Lib.hid hRk
  have HSL := Lib.hid (scl_length p b (Lin.row M k))
  clear hwide hmod h hb hx0 hok hRk
  go_enter Try.func54, Try.ntmps54
  go_wp2_with fail
  refine (HINV.out _).mono ?_
  rintro e w1 ⟨rfl, rfl⟩
  clear hcell hrow hsoft
  go_wp2
  go_loopw [10] (fun i wr => ∃ j : Nat, j ≤ n ∧ i = .int .i64 (j : Int) ∧ Mx wr go (some ⟨go, 0, none⟩) R (M.set k (mix (scl p b (Lin.row M k)) (Lin.row M k) j)) ∧ Only (blks R) w wr) (fun i _ => n - (intOf i).toNat)
  case atStart => exact ⟨0, Nat.zero_le _, rfl, by rw [mix_zero, set_self M k _ hk rfl]; exact HM.out, Only.refl _ _⟩
  case round =>
    obtain ⟨j, hj, rfl, hX, hO⟩ := hrel
    have hkl : k < (M.set k (mix (scl p b (Lin.row M k)) (Lin.row M k) j)).length := by rw [List.length_set]; exact hk
    have hrk : Lin.row (M.set k (mix (scl p b (Lin.row M k)) (Lin.row M k) j)) k = mix (scl p b (Lin.row M k)) (Lin.row M k) j := by rw [row_set M k k _ hk, if_pos rfl]
    have hrl : (Lin.row (M.set k (mix (scl p b (Lin.row M k)) (Lin.row M k) j)) k).length = n := by rw [hrk, mix_length HSL.out, hwk]
    have hcell := hX.cell hkl
    rw [hrl] at hcell
    have hgol := (hX.out k hkl).2.1
    have HX := Lib.hid hX
    have HO := Lib.hid hO
    have HRL := Lib.hid hrl
    by_cases hlt : j < n
    · have hx := hX.ent hkl (j := j) (by rw [hrl]; exact hlt)
      have hs := hX.soft hkl (j := j) (by rw [hrl]; exact hlt)
      have he : ent (M.set k (mix (scl p b (Lin.row M k)) (Lin.row M k) j)) k j = ent M k j := by
        unfold ent; rw [hrk, mix_at HSL.out (by rw [hwk]; exact hlt)]
      rw [he] at hx
      have hb0 := HMOD.out k j
      have HSG := Lib.hid (scl_get p b (Lin.row M k) j)
      have HEE : Hid ((Lin.row M k).getD j 0 = ent M k j) := rfl
      obtain ⟨x, hxx⟩ : ∃ x, ent M k j = x := ⟨_, rfl⟩
      rw [hxx] at hx hb0 HEE
      have hm1 : 0 ≤ x * b := Int.mul_nonneg hb0.1 hib.1
      have hm2 : x * b ≤ 25 := Int.le_trans (Int.mul_le_mul (show x ≤ 5 by omega) (show b ≤ 5 by omega) hib.1 (by omega)) (by decide)
      have htm : (x * b).tmod (p : Int) = x * b % p := Int.tmod_eq_emod_of_nonneg hm1
      have hz : ((p : Int) = 0) = False := by simp; omega
      have hX2 := Mx.step hX hk HSL.out (by rw [hwk]; exact hlt) (x := x * b % p) (by rw [HSG.out, HEE.out])
      have hO2 := hO.trans (Only.set (blks R) wr j HRK.out (.int .i64 (x * b % p)))
      have HX2 := Lib.hid hX2
      have HO2 := Lib.hid hO2
      clear hX hO hrk hrl he hxx hX2 hO2 hkl
      have hdn : decide ((j : Int) < (n : Int)) = true := by simpa using hlt
      go_wp2_with fail
      go_region
      go_wp2
      go_roundw
      case rel => exact ⟨j + 1, by omega, by go_num, HX2.out.drew, HO2.out.drew⟩
      case measure => simp [intOf]; omega
    · have hE : j = n := by omega
      have hdn : decide ((j : Int) < (n : Int)) = false := by simpa using hlt
      have HX3 : Hid (Mx wr go (some ⟨go, 0, none⟩) R (clrTo p M k c 0)) := by
        have := HX.out
        rw [hE, mix_end HSL.out (by rw [hwk]; exact Nat.le_refl _)] at this
        show Mx _ _ _ _ _
        rw [clrTo_zero p M k c hk, HB.out]; exact this
      clear hX hO hrk hrl HX hkl HRL hE
      obtain ⟨wo, rfl⟩ : ∃ wo : World, wo = wr := ⟨_, rfl⟩
      go_wp2
      clear hcell hgol
      go_loopw [11] (fun i wr => ∃ z : Nat, z ≤ M.length ∧ i = .int .i64 (z : Int) ∧ Mx wr go (some ⟨go, 0, none⟩) R (clrTo p M k c z) ∧ Only (blks R) w wr) (fun i _ => M.length - (intOf i).toNat)
      case atStart => exact ⟨0, Nat.zero_le _, rfl, HX3.out, HO.out⟩
      case round =>
        clear HX3 HO
        obtain ⟨z, hz, rfl, hX, hO⟩ := hrel
        by_cases hlz : z < M.length
        · have hcl := clrTo_length p M k c z
          have hzl : z < (clrTo p M k c z).length := by rw [hcl]; exact hlz
          have hkl : k < (clrTo p M k c z).length := by rw [hcl]; exact hk
          have hrk := clrTo_row p M k c z k hk
          rw [if_pos rfl] at hrk
          have hlk2 : (Lin.row (clrTo p M k c z) k).length = n := by rw [hrk, scl_length, hwk]
          have hdz : decide ((z : Int) < (M.length : Int)) = true := by simpa using hlz
          have hgol := (hX.out z hzl).2.1
          by_cases hzk : z = k
          · have hcell := hX.cell hzl
            have hlz2 : (Lin.row (clrTo p M k c z) z).length = n := by rw [hzk]; rw [hzk] at hlk2; exact hlk2
            rw [hlz2] at hcell
            have hx := hX.ent hzl (j := c) (by rw [hlz2]; exact hc)
            have HX := Lib.hid hX
            have HO := Lib.hid hO
            have HS : Hid (clrTo p M k c (z + 1) = clrTo p M k c z) := by show clrTo p M k c (z + 1) = _; rw [hzk]; exact clrTo_same p M k c
            have hzk2 : ((z : Int) == (k : Int)) = true := by simp [hzk]
            have hzk3 : decide ((z : Int) = (k : Int)) = true := by simp [hzk]
            obtain ⟨wi, rfl⟩ : ∃ wi : World, wi = wr := ⟨_, rfl⟩
            clear hX hO hrk hlk2 hlz2 hzk
            go_wp2
            go_loopw [13] (fun i wr => i = .int .i64 0 ∧ wr = wi) (fun _ _ => 0)
            case atStart => exact ⟨rfl, rfl⟩
            case round =>
              obtain ⟨rfl, rfl⟩ := hrel
              go_wp2
              go_roundw
              case rel => exact ⟨z + 1, by omega, by go_num, by rw [HS.out]; exact HX.out, HO.out⟩
              case measure => simp [intOf]; omega
          · have hRz : blk R z ∈ blks R := blk_mem (by rw [hX.len]; exact hzl)
            have hrz := clrTo_row p M k c z z hlz
            rw [if_neg hzk, if_neg (Nat.lt_irrefl z)] at hrz
            have hlz2 : (Lin.row (clrTo p M k c z) z).length = n := by rw [hrz]; exact HW.out z hlz
            have hcell := hX.cell hzl
            rw [hlz2] at hcell
            have hx := hX.ent hzl (j := c) (by rw [hlz2]; exact hc)
            have hf0 : ent (clrTo p M k c z) z c = ent M z c := by unfold ent; rw [hrz]
            rw [hf0] at hx
            have hfb := HMOD.out z c
            have HN := Lib.hid (clrTo_next p M k c z hlz hzk)
            have HRZ := Lib.hid hRz
            have HLE := Lib.hid (elim_length p (ent M z c) (Lin.row M z) (scl p (inv p (ent M k c)) (Lin.row M k)) (by rw [scl_length, HW.out z hlz, hwk]))
            have HGE := Lib.hid (elim_get p (ent M z c) (Lin.row M z) (scl p (inv p (ent M k c)) (Lin.row M k)) (by rw [scl_length, HW.out z hlz, hwk]))
            have HWZ := Lib.hid (HW.out z hlz)
            have HRZ2 := Lib.hid hrz
            have HRK2 := Lib.hid hrk
            have HX := Lib.hid hX
            have HO := Lib.hid hO
            obtain ⟨new, hnew⟩ : ∃ new, elim p (ent M z c) (Lin.row M z) (scl p (inv p (ent M k c)) (Lin.row M k)) = new := ⟨_, rfl⟩
            obtain ⟨piv, hpiv⟩ : ∃ piv, scl p (inv p (ent M k c)) (Lin.row M k) = piv := ⟨_, rfl⟩
            obtain ⟨old, hold⟩ : ∃ old, Lin.row M z = old := ⟨_, rfl⟩
            obtain ⟨f, hf⟩ : ∃ f, ent M z c = f := ⟨_, rfl⟩
            have hmz : ∀ j, 0 ≤ old.getD j 0 ∧ old.getD j 0 < (p : Int) := fun j => by rw [← hold]; exact HMOD.out z j
            have hmk : ∀ j, 0 ≤ piv.getD j 0 ∧ piv.getD j 0 < (p : Int) := fun j => by
              rw [← hpiv, scl_get]; exact ⟨Int.emod_nonneg _ (by omega), Int.emod_lt_of_pos _ (by omega)⟩
            have HPL : Hid (piv.length = n) := by show piv.length = n; rw [← hpiv, scl_length, hwk]
            rw [hnew] at HLE HGE HN
            rw [hpiv] at HGE HRK2
            rw [hold] at HLE HGE HWZ HRZ2
            rw [hf] at HGE hx hfb
            have HMZ := Lib.hid hmz
            have HMK := Lib.hid hmk
            obtain ⟨B, hB⟩ : ∃ B, clrTo p M k c z = B := ⟨_, rfl⟩
            rw [hB] at HX HN HRZ2 HRK2 hcl hzl hkl
            obtain ⟨wi, rfl⟩ : ∃ wi : World, wi = wr := ⟨_, rfl⟩
            clear hX hO hrz hlz2 hf0 hRz hnew hpiv hold hf hmz hmk hB hrk hlk2
            have hzk2 : ¬((z : Int) = (k : Int)) := by omega
            go_wp2
            clear hcell hx hgol
            go_loopw [13] (fun i wr => ∃ j : Nat, j ≤ n ∧ i = .int .i64 (j : Int) ∧ Mx wr go (some ⟨go, 0, none⟩) R (B.set z (mix new old j)) ∧ Only (blks R) w wr) (fun i _ => n - (intOf i).toNat)
            case atStart => exact ⟨0, Nat.zero_le _, rfl, by rw [mix_zero, set_self B z _ hzl HRZ2.out]; exact HX.out, HO.out⟩
            case round =>
              clear HX HO
              obtain ⟨j, hj, rfl, hX, hO⟩ := hrel
              have hzl2 : z < (B.set z (mix new old j)).length := by rw [List.length_set]; exact hzl
              have hkl2 : k < (B.set z (mix new old j)).length := by rw [List.length_set]; exact hkl
              have hrz : Lin.row (B.set z (mix new old j)) z = mix new old j := by rw [row_set B z z _ hzl, if_pos rfl]
              have hrk : Lin.row (B.set z (mix new old j)) k = piv := by rw [row_set B z k _ hzl, if_neg (fun e => hzk e.symm)]; exact HRK2.out
              have hlz2 : (Lin.row (B.set z (mix new old j)) z).length = n := by rw [hrz, mix_length HLE.out]; exact HWZ.out
              have hlk2 : (Lin.row (B.set z (mix new old j)) k).length = n := by rw [hrk]; exact HPL.out
              have hcell := hX.cell hzl2
              rw [hlz2] at hcell
              have hcelk := hX.cell hkl2
              rw [hlk2] at hcelk
              have hgol := (hX.out z hzl2).2.1
              by_cases hlt : j < n
              · have hx := hX.ent hzl2 (j := j) (by rw [hlz2]; exact hlt)
                have hs := hX.soft hzl2 (j := j) (by rw [hlz2]; exact hlt)
                have hy := hX.ent hkl2 (j := j) (by rw [hlk2]; exact hlt)
                have he : ent (B.set z (mix new old j)) z j = old.getD j 0 := by
                  unfold ent; rw [hrz, mix_at HLE.out (by rw [HWZ.out]; exact hlt)]
                have hek : ent (B.set z (mix new old j)) k j = piv.getD j 0 := by unfold ent; rw [hrk]
                rw [he] at hx
                rw [hek] at hy
                have hbz := HMZ.out j
                have hbk := HMK.out j
                have HG := Lib.hid (HGE.out j)
                obtain ⟨x, hxx⟩ : ∃ x, old.getD j 0 = x := ⟨_, rfl⟩
                obtain ⟨y, hyy⟩ : ∃ y, piv.getD j 0 = y := ⟨_, rfl⟩
                rw [hxx] at hx hbz HG
                rw [hyy] at hy hbk HG
                have hm1 : 0 ≤ f * y := Int.mul_nonneg hfb.1 hbk.1
                have hm2 : f * y ≤ 25 := Int.le_trans (Int.mul_le_mul (show f ≤ 5 by omega) (show y ≤ 5 by omega) hbk.1 (by omega)) (by decide)
                have hwr : IntKind.i64.wrap (x - IntKind.i64.wrap (f * y)) = x - f * y := by rw [IntWalk.i64_in (f * y) (by omega), IntWalk.i64_in _ (by omega)]
                have HMD : Hid (∀ W, Calls Try.prog 53 #[.int .i64 (IntKind.i64.wrap (x - IntKind.i64.wrap (f * y))), .int .i64 (p : Int)] W fun e w' => e = .returned (.int .i64 ((x - f * y) % (p : Int))) ∧ W = w') := fun W => by rw [hwr]; exact l13Mod_any (x - f * y) p hp1 (by omega) W
                clear hwr
                have hX2 := Mx.step hX hzl HLE.out (by rw [HWZ.out]; exact hlt) HG.out
                have hO2 := hO.trans (Only.set (blks R) wr j HRZ.out (.int .i64 ((x - f * y) % p)))
                have HX2 := Lib.hid hX2
                have HO2 := Lib.hid hO2
                clear hX hO hrz hrk hlz2 hlk2 he hek hxx hyy hX2 hO2 hzl2 hkl2
                have hdn : decide ((j : Int) < (n : Int)) = true := by simpa using hlt
                go_wp2_with fail
                refine wp_region_tail 25 (by kernel_rfl) (by kernel_rfl) ?_
                simp only [List.take_succ_cons, List.take_zero, List.drop_succ_cons, List.drop_zero]
                repeat (first | still_step | still_call ((HMD.out _).mono fun _ _ ⟨he, hw⟩ => ⟨he, hw.symm⟩))
                refine wpStill_nil ?_
                go_wp2
                go_roundw
                case rel => exact ⟨j + 1, by omega, by go_num, HX2.out.drew, HO2.out.drew⟩
                case measure => simp [intOf]; omega
              · have hE : j = n := by omega
                have hdn : decide ((j : Int) < (n : Int)) = false := by simpa using hlt
                have HX3 : Hid (Mx wr go (some ⟨go, 0, none⟩) R (clrTo p M k c (z + 1))) := by
                  show Mx _ _ _ _ _
                  rw [HN.out, ← mix_end HLE.out (j := j) (by rw [HWZ.out]; omega)]; exact hX
                have HO := Lib.hid hO
                clear hX hO hrz hrk hlz2 hlk2 hzl2 hkl2 hE
                go_wp2
                go_roundw
                case rel => exact ⟨z + 1, by omega, by go_num, HX3.out, HO.out⟩
                case measure => simp [intOf]; omega
        · have E := Lib.hid (clrTo_end p M k c z (by omega))
          have HX := Lib.hid hX
          have HO := Lib.hid hO
          clear hX hO
          go_wp2
          go_ret
          exact ⟨rfl, by rw [← E.out]; exact HX.out, HO.out⟩

end Go.Proofs.Ytenpcjmhlnalcaa
