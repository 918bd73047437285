/-
  TEXTS of one claim, put together: WClr, WRed, WMat2.
-/
import Derived.Test.YtenpcjmhlnalcaaGreatJg3
import Derived.Test.YtenpcjmhlnalcaaGreatJg12
import Derived.Test.YtenpcjmhlnalcaaGreatJg9
import Derived.Deep.RegionLaw
import Derived.Deep.RegionHeld3
import Derived.StillTailTactics
/-! WALK of chapter 13 (spec): a pivot's column is cleared. -/

namespace Go.Proofs.YtenpcjmhlnalcaaGreat
open Go.RowKit
open Sets Lin

/-- The matrix with the pivot's row k made 1 at the column c and the rows up to i cleared. -/
def clrTo (p : Nat) (M : Mat) (k c i : Nat) : Mat :=
  (List.range M.length).map fun t => if t = k then scl p (inv p (ent M k c)) (Lin.row M k) else if t < i then elim p (ent M t c) (Lin.row M t) (scl p (inv p (ent M k c)) (Lin.row M k)) else Lin.row M t
theorem clrTo_length (p : Nat) (M : Mat) (k c i : Nat) : (clrTo p M k c i).length = M.length := by simp [clrTo]
theorem clrTo_row (p : Nat) (M : Mat) (k c i t : Nat) (ht : t < M.length) : Lin.row (clrTo p M k c i) t = if t = k then scl p (inv p (ent M k c)) (Lin.row M k) else if t < i then elim p (ent M t c) (Lin.row M t) (scl p (inv p (ent M k c)) (Lin.row M k)) else Lin.row M t := by
  unfold clrTo Lin.row; simp [List.getD, ht]
theorem mat_ext {A B : Mat} (h : A.length = B.length) (hr : ∀ t, t < A.length → Lin.row A t = Lin.row B t) : A = B := by
  apply List.ext_getElem h
  intro t h1 h2
  have := hr t h1
  unfold Lin.row at this
  simpa [List.getD, List.getElem?_eq_getElem h1, List.getElem?_eq_getElem h2] using this
theorem clrTo_zero (p : Nat) (M : Mat) (k c : Nat) (hk : k < M.length) : clrTo p M k c 0 = M.set k (scl p (inv p (ent M k c)) (Lin.row M k)) := by
  refine mat_ext (by rw [clrTo_length, List.length_set]) fun t ht => ?_
  rw [clrTo_length] at ht
  rw [clrTo_row p M k c 0 t ht, row_set M k t _ hk, if_neg (Nat.not_lt_zero t)]
theorem clrTo_end (p : Nat) (M : Mat) (k c i : Nat) (hi : M.length ≤ i) : clrTo p M k c i = clr p M k c := by
  refine mat_ext (by rw [clrTo_length, clr_length]) fun t ht => ?_
  rw [clrTo_length] at ht
  rw [clrTo_row p M k c i t ht, clr_row p M k c t ht, if_pos (show t < i by omega)]
theorem clrTo_same (p : Nat) (M : Mat) (k c : Nat) : clrTo p M k c (k + 1) = clrTo p M k c k := by
  refine mat_ext (by rw [clrTo_length, clrTo_length]) fun t ht => ?_
  rw [clrTo_length] at ht
  rw [clrTo_row p M k c _ t ht, clrTo_row p M k c _ t ht]
  by_cases e : t = k
  · rw [if_pos e, if_pos e]
  · rw [if_neg e, if_neg e]
    by_cases e2 : t < k
    · rw [if_pos (by omega), if_pos e2]
    · rw [if_neg (by omega), if_neg e2]
theorem clrTo_next (p : Nat) (M : Mat) (k c i : Nat) (hi : i < M.length) (hne : i ≠ k) : clrTo p M k c (i + 1) = (clrTo p M k c i).set i (elim p (ent M i c) (Lin.row M i) (scl p (inv p (ent M k c)) (Lin.row M k))) := by
  refine mat_ext (by rw [clrTo_length, List.length_set, clrTo_length]) fun t ht => ?_
  rw [clrTo_length] at ht
  rw [row_set _ i t _ (by rw [clrTo_length]; exact hi), clrTo_row p M k c _ t ht, clrTo_row p M k c _ t ht]
  by_cases e : t = k
  · rw [if_pos e, if_neg (by omega), if_pos e]
  · rw [if_neg e, if_neg e]
    by_cases e2 : t = i
    · subst e2; rw [if_pos (by omega), if_pos rfl]
    · rw [if_neg e2]
      by_cases e3 : t < i
      · rw [if_pos (by omega), if_pos e3]
      · rw [if_neg (by omega), if_neg e3]
theorem set_self (M : Mat) (i : Nat) (r : List Int) (hi : i < M.length) (h : Lin.row M i = r) : M.set i r = M := by
  refine mat_ext (by rw [List.length_set]) fun t ht => ?_
  rw [row_set M i t r hi]
  by_cases e : t = i
  · rw [if_pos e, e, h]
  · rw [if_neg e]
theorem inv_le (p : Nat) (a : Int) : 0 ≤ inv p a ∧ inv p a ≤ p := by
  unfold inv
  refine ⟨Int.natCast_nonneg _, ?_⟩
  have : ∀ l : List Nat, (∀ x ∈ l, x < p) → (l.headD 0 : Nat) ≤ p := fun l h => by
    cases l with
    | nil => exact Nat.zero_le _
    | cons x l => exact Nat.le_of_lt (h x (List.mem_cons_self ..))
  exact Int.ofNat_le.2 (this _ fun x hx => List.mem_range.1 (List.mem_filter.1 hx).1)

set_option maxRecDepth 100000 in
set_option maxHeartbeats 4000000 in
theorem l13Clear_any (p : Nat) (hp : p = 2 ∨ p = 3 ∨ p = 5) (M : Mat) (n : Nat) (hok : Okay p n M) (k c : Nat) (hk : k < M.length) (hc : c < n) (hm : M.length ≤ 1000) (hn : n ≤ 1000) (go : Nat) (ao : Option Addr) (co : Nat) (R : List (Nat × Nat)) (w : World) (h : Mx w go ao R M) :
    Calls Tryz.prog 84 #[.slice ao M.length co, .int .i64 (k : Int), .int .i64 (c : Int), .int .i64 (p : Int)] w fun e w' => e = .returned (.slice ao M.length co) ∧ Mx w' go ao R (clr p M k c) ∧ Only (blks R) w w' := by
  have hp5 : p ≤ 5 := by omega
  have hp1 : 1 < p := by omega
  have hwide : ∀ i, i < M.length → (Lin.row M i).length = n := fun i hi => hok.wide _ (row_mem hi)
  have hmod : ∀ i j, 0 ≤ ent M i j ∧ ent M i j < (p : Int) := ent_mod (by omega) hok
  obtain ⟨hao, hgo, hcell, hsoft⟩ := h.out k hk
  subst hao
  have hRk : blk R k ∈ blks R := blk_mem (by rw [h.len]; exact hk)
  have hrow := h.ent hk (j := c) (by rw [hwide k hk]; exact hc)
  rw [hwide k hk] at hcell
  have hwk := hwide k hk
  have HW := Lib.hid hwide
  have HMOD := Lib.hid hmod
  have HM := Lib.hid h
  have hib := inv_le p (ent M k c)
  have HINV := Lib.hid (fun W => inverse_any (ent M k c) p hp W)
  obtain ⟨b, hb⟩ : ∃ b, inv p (ent M k c) = b := ⟨_, rfl⟩
  have HB := Lib.hid hb
  rw [hb] at hib HINV
  obtain ⟨x0, hx0⟩ : ∃ x0, ent M k c = x0 := ⟨_, rfl⟩
  rw [hx0] at hrow HINV
  have HRK := Lib.hid hRk
  have HSL := Lib.hid (scl_length p b (Lin.row M k))
  clear hwide hmod h hb hx0 hok hRk
  go_enter Tryz.func84, Tryz.ntmps84
  go_wp2_with fail
  refine (HINV.out _).mono ?_
  rintro e w1 ⟨rfl, rfl⟩
  clear hcell hrow hsoft
  go_wp2
  go_loopw [10] (fun i wr => ∃ j : Nat, j ≤ n ∧ i = .int .i64 (j : Int) ∧ Mx wr go (some ⟨go, 0, none⟩) R (M.set k (mix (scl p b (Lin.row M k)) (Lin.row M k) j)) ∧ Only (blks R) w wr) (fun i _ => n - (intOf i).toNat)
  case atStart => exact ⟨0, Nat.zero_le _, rfl, by rw [mix_zero, set_self M k _ hk rfl]; exact HM.out, Only.refl _ _⟩
  case round =>
    obtain ⟨j, hj, rfl, hX, hO⟩ := hrel
    have hkl : k < (M.set k (mix (scl p b (Lin.row M k)) (Lin.row M k) j)).length := by rw [List.length_set]; exact hk
    have hrk : Lin.row (M.set k (mix (scl p b (Lin.row M k)) (Lin.row M k) j)) k = mix (scl p b (Lin.row M k)) (Lin.row M k) j := by rw [row_set M k k _ hk, if_pos rfl]
    have hrl : (Lin.row (M.set k (mix (scl p b (Lin.row M k)) (Lin.row M k) j)) k).length = n := by rw [hrk, mix_length HSL.out, hwk]
    have hcell := hX.cell hkl
    rw [hrl] at hcell
    have hgol := (hX.out k hkl).2.1
    have HX := Lib.hid hX
    have HO := Lib.hid hO
    have HRL := Lib.hid hrl
    by_cases hlt : j < n
    · have hx := hX.ent hkl (j := j) (by rw [hrl]; exact hlt)
      have hs := hX.soft hkl (j := j) (by rw [hrl]; exact hlt)
      have he : ent (M.set k (mix (scl p b (Lin.row M k)) (Lin.row M k) j)) k j = ent M k j := by
        unfold ent; rw [hrk, mix_at HSL.out (by rw [hwk]; exact hlt)]
      rw [he] at hx
      have hb0 := HMOD.out k j
      have HSG := Lib.hid (scl_get p b (Lin.row M k) j)
      have HEE : Hid ((Lin.row M k).getD j 0 = ent M k j) := rfl
      obtain ⟨x, hxx⟩ : ∃ x, ent M k j = x := ⟨_, rfl⟩
      rw [hxx] at hx hb0 HEE
      have hm1 : 0 ≤ x * b := Int.mul_nonneg hb0.1 hib.1
      have hm2 : x * b ≤ 25 := Int.le_trans (Int.mul_le_mul (show x ≤ 5 by omega) (show b ≤ 5 by omega) hib.1 (by omega)) (by decide)
      have htm : (x * b).tmod (p : Int) = x * b % p := Int.tmod_eq_emod_of_nonneg hm1
      have hz : ((p : Int) = 0) = False := by simp; omega
      have hX2 := Mx.step hX hk HSL.out (by rw [hwk]; exact hlt) (x := x * b % p) (by rw [HSG.out, HEE.out])
      have hO2 := hO.trans (Only.set (blks R) wr j HRK.out (.int .i64 (x * b % p)))
      have HX2 := Lib.hid hX2
      have HO2 := Lib.hid hO2
      clear hX hO hrk hrl he hxx hX2 hO2 hkl
      have hdn : decide ((j : Int) < (n : Int)) = true := by simpa using hlt
      go_wp2_with fail
      go_region
      go_wp2
      go_roundw
      case rel => exact ⟨j + 1, by omega, by go_num, HX2.out.drew, HO2.out.drew⟩
      case measure => simp [intOf]; omega
    · have hE : j = n := by omega
      have hdn : decide ((j : Int) < (n : Int)) = false := by simpa using hlt
      have HX3 : Hid (Mx wr go (some ⟨go, 0, none⟩) R (clrTo p M k c 0)) := by
        have := HX.out
        rw [hE, mix_end HSL.out (by rw [hwk]; exact Nat.le_refl _)] at this
        show Mx _ _ _ _ _
        rw [clrTo_zero p M k c hk, HB.out]; exact this
      clear hX hO hrk hrl HX hkl HRL hE
      obtain ⟨wo, rfl⟩ : ∃ wo : World, wo = wr := ⟨_, rfl⟩
      go_wp2
      clear hcell hgol
      go_loopw [11] (fun i wr => ∃ z : Nat, z ≤ M.length ∧ i = .int .i64 (z : Int) ∧ Mx wr go (some ⟨go, 0, none⟩) R (clrTo p M k c z) ∧ Only (blks R) w wr) (fun i _ => M.length - (intOf i).toNat)
      case atStart => exact ⟨0, Nat.zero_le _, rfl, HX3.out, HO.out⟩
      case round =>
        clear HX3 HO
        obtain ⟨z, hz, rfl, hX, hO⟩ := hrel
        by_cases hlz : z < M.length
        · have hcl := clrTo_length p M k c z
          have hzl : z < (clrTo p M k c z).length := by rw [hcl]; exact hlz
          have hkl : k < (clrTo p M k c z).length := by rw [hcl]; exact hk
          have hrk := clrTo_row p M k c z k hk
          rw [if_pos rfl] at hrk
          have hlk2 : (Lin.row (clrTo p M k c z) k).length = n := by rw [hrk, scl_length, hwk]
          have hdz : decide ((z : Int) < (M.length : Int)) = true := by simpa using hlz
          have hgol := (hX.out z hzl).2.1
          by_cases hzk : z = k
          · have hcell := hX.cell hzl
            have hlz2 : (Lin.row (clrTo p M k c z) z).length = n := by rw [hzk]; rw [hzk] at hlk2; exact hlk2
            rw [hlz2] at hcell
            have hx := hX.ent hzl (j := c) (by rw [hlz2]; exact hc)
            have HX := Lib.hid hX
            have HO := Lib.hid hO
            have HS : Hid (clrTo p M k c (z + 1) = clrTo p M k c z) := by show clrTo p M k c (z + 1) = _; rw [hzk]; exact clrTo_same p M k c
            have hzk2 : ((z : Int) == (k : Int)) = true := by simp [hzk]
            have hzk3 : decide ((z : Int) = (k : Int)) = true := by simp [hzk]
            obtain ⟨wi, rfl⟩ : ∃ wi : World, wi = wr := ⟨_, rfl⟩
            clear hX hO hrk hlk2 hlz2 hzk
            go_wp2
            go_loopw [13] (fun i wr => i = .int .i64 0 ∧ wr = wi) (fun _ _ => 0)
            case atStart => exact ⟨rfl, rfl⟩
            case round =>
              obtain ⟨rfl, rfl⟩ := hrel
              go_wp2
              go_roundw
              case rel => exact ⟨z + 1, by omega, by go_num, by rw [HS.out]; exact HX.out, HO.out⟩
              case measure => simp [intOf]; omega
          · have hRz : blk R z ∈ blks R := blk_mem (by rw [hX.len]; exact hzl)
            have hrz := clrTo_row p M k c z z hlz
            rw [if_neg hzk, if_neg (Nat.lt_irrefl z)] at hrz
            have hlz2 : (Lin.row (clrTo p M k c z) z).length = n := by rw [hrz]; exact HW.out z hlz
            have hcell := hX.cell hzl
            rw [hlz2] at hcell
            have hx := hX.ent hzl (j := c) (by rw [hlz2]; exact hc)
            have hf0 : ent (clrTo p M k c z) z c = ent M z c := by unfold ent; rw [hrz]
            rw [hf0] at hx
            have hfb := HMOD.out z c
            have HN := Lib.hid (clrTo_next p M k c z hlz hzk)
            have HRZ := Lib.hid hRz
            have HLE := Lib.hid (elim_length p (ent M z c) (Lin.row M z) (scl p (inv p (ent M k c)) (Lin.row M k)) (by rw [scl_length, HW.out z hlz, hwk]))
            have HGE := Lib.hid (elim_get p (ent M z c) (Lin.row M z) (scl p (inv p (ent M k c)) (Lin.row M k)) (by rw [scl_length, HW.out z hlz, hwk]))
            have HWZ := Lib.hid (HW.out z hlz)
            have HRZ2 := Lib.hid hrz
            have HRK2 := Lib.hid hrk
            have HX := Lib.hid hX
            have HO := Lib.hid hO
            obtain ⟨new, hnew⟩ : ∃ new, elim p (ent M z c) (Lin.row M z) (scl p (inv p (ent M k c)) (Lin.row M k)) = new := ⟨_, rfl⟩
            obtain ⟨piv, hpiv⟩ : ∃ piv, scl p (inv p (ent M k c)) (Lin.row M k) = piv := ⟨_, rfl⟩
            obtain ⟨old, hold⟩ : ∃ old, Lin.row M z = old := ⟨_, rfl⟩
            obtain ⟨f, hf⟩ : ∃ f, ent M z c = f := ⟨_, rfl⟩
            have hmz : ∀ j, 0 ≤ old.getD j 0 ∧ old.getD j 0 < (p : Int) := fun j => by rw [← hold]; exact HMOD.out z j
            have hmk : ∀ j, 0 ≤ piv.getD j 0 ∧ piv.getD j 0 < (p : Int) := fun j => by
              rw [← hpiv, scl_get]; exact ⟨Int.emod_nonneg _ (by omega), Int.emod_lt_of_pos _ (by omega)⟩
            have HPL : Hid (piv.length = n) := by show piv.length = n; rw [← hpiv, scl_length, hwk]
            rw [hnew] at HLE HGE HN
            rw [hpiv] at HGE HRK2
            rw [hold] at HLE HGE HWZ HRZ2
            rw [hf] at HGE hx hfb
            have HMZ := Lib.hid hmz
            have HMK := Lib.hid hmk
            obtain ⟨B, hB⟩ : ∃ B, clrTo p M k c z = B := ⟨_, rfl⟩
            rw [hB] at HX HN HRZ2 HRK2 hcl hzl hkl
            obtain ⟨wi, rfl⟩ : ∃ wi : World, wi = wr := ⟨_, rfl⟩
            clear hX hO hrz hlz2 hf0 hRz hnew hpiv hold hf hmz hmk hB hrk hlk2
            have hzk2 : ¬((z : Int) = (k : Int)) := by omega
            go_wp2
            clear hcell hx hgol
            go_loopw [13] (fun i wr => ∃ j : Nat, j ≤ n ∧ i = .int .i64 (j : Int) ∧ Mx wr go (some ⟨go, 0, none⟩) R (B.set z (mix new old j)) ∧ Only (blks R) w wr) (fun i _ => n - (intOf i).toNat)
            case atStart => exact ⟨0, Nat.zero_le _, rfl, by rw [mix_zero, set_self B z _ hzl HRZ2.out]; exact HX.out, HO.out⟩
            case round =>
              clear HX HO
              obtain ⟨j, hj, rfl, hX, hO⟩ := hrel
              have hzl2 : z < (B.set z (mix new old j)).length := by rw [List.length_set]; exact hzl
              have hkl2 : k < (B.set z (mix new old j)).length := by rw [List.length_set]; exact hkl
              have hrz : Lin.row (B.set z (mix new old j)) z = mix new old j := by rw [row_set B z z _ hzl, if_pos rfl]
              have hrk : Lin.row (B.set z (mix new old j)) k = piv := by rw [row_set B z k _ hzl, if_neg (fun e => hzk e.symm)]; exact HRK2.out
              have hlz2 : (Lin.row (B.set z (mix new old j)) z).length = n := by rw [hrz, mix_length HLE.out]; exact HWZ.out
              have hlk2 : (Lin.row (B.set z (mix new old j)) k).length = n := by rw [hrk]; exact HPL.out
              have hcell := hX.cell hzl2
              rw [hlz2] at hcell
              have hcelk := hX.cell hkl2
              rw [hlk2] at hcelk
              have hgol := (hX.out z hzl2).2.1
              by_cases hlt : j < n
              · have hx := hX.ent hzl2 (j := j) (by rw [hlz2]; exact hlt)
                have hs := hX.soft hzl2 (j := j) (by rw [hlz2]; exact hlt)
                have hy := hX.ent hkl2 (j := j) (by rw [hlk2]; exact hlt)
                have he : ent (B.set z (mix new old j)) z j = old.getD j 0 := by
                  unfold ent; rw [hrz, mix_at HLE.out (by rw [HWZ.out]; exact hlt)]
                have hek : ent (B.set z (mix new old j)) k j = piv.getD j 0 := by unfold ent; rw [hrk]
                rw [he] at hx
                rw [hek] at hy
                have hbz := HMZ.out j
                have hbk := HMK.out j
                have HG := Lib.hid (HGE.out j)
                obtain ⟨x, hxx⟩ : ∃ x, old.getD j 0 = x := ⟨_, rfl⟩
                obtain ⟨y, hyy⟩ : ∃ y, piv.getD j 0 = y := ⟨_, rfl⟩
                rw [hxx] at hx hbz HG
                rw [hyy] at hy hbk HG
                have hm1 : 0 ≤ f * y := Int.mul_nonneg hfb.1 hbk.1
                have hm2 : f * y ≤ 25 := Int.le_trans (Int.mul_le_mul (show f ≤ 5 by omega) (show y ≤ 5 by omega) hbk.1 (by omega)) (by decide)
                have hwr : IntKind.i64.wrap (x - IntKind.i64.wrap (f * y)) = x - f * y := by rw [IntWalk.i64_in (f * y) (by omega), IntWalk.i64_in _ (by omega)]
                have HMD : Hid (∀ W, Calls Tryz.prog 83 #[.int .i64 (IntKind.i64.wrap (x - IntKind.i64.wrap (f * y))), .int .i64 (p : Int)] W fun e w' => e = .returned (.int .i64 ((x - f * y) % (p : Int))) ∧ W = w') := fun W => by rw [hwr]; exact l13Mod_any (x - f * y) p hp1 (by omega) W
                clear hwr
                have hX2 := Mx.step hX hzl HLE.out (by rw [HWZ.out]; exact hlt) HG.out
                have hO2 := hO.trans (Only.set (blks R) wr j HRZ.out (.int .i64 ((x - f * y) % p)))
                have HX2 := Lib.hid hX2
                have HO2 := Lib.hid hO2
                clear hX hO hrz hrk hlz2 hlk2 he hek hxx hyy hX2 hO2 hzl2 hkl2
                have hdn : decide ((j : Int) < (n : Int)) = true := by simpa using hlt
                go_wp2_with fail
                refine wp_region_tail 25 (by kernel_rfl) (by kernel_rfl) ?_
                simp only [List.take_succ_cons, List.take_zero, List.drop_succ_cons, List.drop_zero]
                repeat (first | still_step | still_call ((HMD.out _).mono fun _ _ ⟨he, hw⟩ => ⟨he, hw.symm⟩))
                refine wpStill_nil ?_
                go_wp2
                go_roundw
                case rel => exact ⟨j + 1, by omega, by go_num, HX2.out.drew, HO2.out.drew⟩
                case measure => simp [intOf]; omega
              · have hE : j = n := by omega
                have hdn : decide ((j : Int) < (n : Int)) = false := by simpa using hlt
                have HX3 : Hid (Mx wr go (some ⟨go, 0, none⟩) R (clrTo p M k c (z + 1))) := by
                  show Mx _ _ _ _ _
                  rw [HN.out, ← mix_end HLE.out (j := j) (by rw [HWZ.out]; omega)]; exact hX
                have HO := Lib.hid hO
                clear hX hO hrz hrk hlz2 hlk2 hzl2 hkl2 hE
                go_wp2
                go_roundw
                case rel => exact ⟨z + 1, by omega, by go_num, HX3.out, HO.out⟩
                case measure => simp [intOf]; omega
        · have E := Lib.hid (clrTo_end p M k c z (by omega))
          have HX := Lib.hid hX
          have HO := Lib.hid hO
          clear hX hO
          go_wp2
          go_ret
          exact ⟨rfl, by rw [← E.out]; exact HX.out, HO.out⟩

end Go.Proofs.YtenpcjmhlnalcaaGreat

/-! WALK of chapter 13 (spec): a matrix reduced. -/

namespace Go.Proofs.YtenpcjmhlnalcaaGreat
open Go.RowKit
open Sets Lin

def modR (p : Nat) (r : List Int) : List Int := r.map fun x => x % (p : Int)
theorem modR_length (p : Nat) (r : List Int) : (modR p r).length = r.length := by simp [modR]
theorem modR_next (p : Nat) (r : List Int) (j : Nat) (h : j < r.length) : modR p (r.take (j + 1)) = modR p (r.take j) ++ [r.getD j 0 % (p : Int)] := by
  unfold modR
  rw [List.take_add_one, List.map_append]
  simp [List.getD, List.getElem?_eq_getElem h]
theorem modM_next (p : Nat) (M : Mat) (k : Nat) (h : k < M.length) : modM p (M.take (k + 1)) = modM p (M.take k) ++ [modR p (Lin.row M k)] := by
  unfold modM modR Lin.row
  rw [List.take_add_one, List.map_append]
  simp [List.getD, List.getElem?_eq_getElem h]
theorem seek_eq (S : Mat) (c : Nat) : ∀ (m k a : Nat), k ≤ a → a ≤ k + m → (∀ i, k ≤ i → i < a → ent S i c = 0) → (a = k + m ∨ ent S a c ≠ 0) → seek S c m k = a
  | 0, k, a, h1, h2, _, _ => by unfold seek; omega
  | m + 1, k, a, h1, h2, h3, h4 => by
    unfold seek
    by_cases e : a = k
    · rcases h4 with h | h
      · omega
      · rw [e] at h; rw [if_neg h, e]
    · rw [if_pos (h3 k (Nat.le_refl _) (by omega))]
      exact seek_eq S c m (k + 1) a (by omega) (by omega) (fun i hi hi' => h3 i (by omega) hi') (by rcases h4 with h | h; exact .inl (by omega); exact .inr h)
def redTo (p : Nat) (M : Mat) (j : Nat) : Mat × List Nat := (List.range j).foldl (stepM p) (modM p M, [])
theorem redTo_next (p : Nat) (M : Mat) (j : Nat) : redTo p M (j + 1) = stepM p (redTo p M j) j := by unfold redTo; rw [List.range_succ, List.foldl_append]; rfl
theorem redTo_stop (p : Nat) (M : Mat) (j : Nat) (h : ¬(redTo p M j).2.length < (redTo p M j).1.length) : ∀ d, redTo p M (j + d) = redTo p M j
  | 0 => rfl
  | d + 1 => by
    have ih := redTo_stop p M j h d
    rw [← Nat.add_assoc, redTo_next, ih]
    unfold stepM
    rw [if_neg h]
theorem step_none {p : Nat} {S : Mat} {P : List Nat} {j : Nat} (hl : P.length < S.length) (h : seek S j (S.length - P.length) P.length = S.length) : stepM p (S, P) j = (S, P) := by
  unfold stepM; dsimp only; rw [if_pos hl, if_pos h]
theorem step_some {p : Nat} {S : Mat} {P : List Nat} {j a : Nat} (hl : P.length < S.length) (h : seek S j (S.length - P.length) P.length = a) (ha : a ≠ S.length) : stepM p (S, P) j = (clr p (Lin.swap S a P.length) P.length j, P ++ [j]) := by
  unfold stepM; dsimp only; rw [if_pos hl, h, if_neg ha]
def ints (P : List Nat) : List Int := P.map Int.ofNat

set_option maxRecDepth 100000 in
set_option maxHeartbeats 4000000 in
theorem l13Reduce_any (p : Nat) (hp : p = 2 ∨ p = 3 ∨ p = 5) (M : Mat) (n : Nat) (hw : ∀ r ∈ M, r.length = n) (hm : M.length ≤ 1000) (hn : n ≤ 1000) (gm : Nat) (am : Option Addr) (cm : Nat) (Rm : List (Nat × Nat)) (w : World) (h : Mx w gm am Rm M) :
    Calls Tryz.prog 53 #[.slice am M.length cm, .int .i64 (p : Int)] w fun e w' => ∃ ao co go R u, e = .returned (.tuple #[.slice ao M.length co, u]) ∧ Mx w' go ao R (reduce p M n).1 ∧ (∀ g, g ∈ blks R → w.heap.size ≤ g) ∧ OwnInts w' w.heap.size u (ints (reduce p M n).2) ∧ Below w.heap.size w w' := by
  obtain ⟨i0, hi, hz0, hz1, hz2⟩ := info_parts info_int
  obtain ⟨i9, hi9, hz90, hz91, hz92⟩ := info_parts info_row
  have hp1 : 1 < p := by omega
  have HPP := Lib.hid hp
  have HP : Hid (IsP p) := by
    show IsP p
    rcases hp with rfl | rfl | rfl
    · exact isP2
    · exact isP3
    · exact isP5
  have hp5 : p ≤ 5 := by omega
  have HW : Hid (∀ i, i < M.length → (Lin.row M i).length = n) := fun i hi => hw _ (row_mem hi)
  have HU := Lib.hid (fun j => reduce_under HP.out hw j)
  have HM := Lib.hid h
  have HO0 := Lib.hid (OwnMx.lit w w.heap.size (Nat.le_refl _))
  have HB0 : Hid (Below w.heap.size w (w.alloc (.cells #[] 24))) := (Below.refl _ _).alloc (Nat.le_refl _) _
  clear h hp hw
  go_enter Tryz.func53, Tryz.ntmps53
  go_wp2
  go_loopw [6, 7] (fun v i wr => ∃ (k : Nat) (R : List (Nat × Nat)), k ≤ M.length ∧ i = .int .i64 (k : Int) ∧ OwnMx wr w.heap.size v R (modM p (M.take k)) ∧ Below w.heap.size w wr) (fun _ i _ => M.length - (intOf i).toNat)
  case atStart => exact ⟨0, [], Nat.zero_le _, rfl, HO0.out, HB0.out⟩
  case round =>
    clear HO0 HB0
    obtain ⟨k, R, hk, rfl, hO, hB⟩ := hrel
    have HO := Lib.hid hO
    have HBO := Lib.hid hB
    have hszo := hB.size
    obtain ⟨wo, rfl⟩ : ∃ wo : World, wo = wr := ⟨_, rfl⟩
    clear hO hB
    by_cases hlt : k < M.length
    · have hltk : decide ((k : Int) < (M.length : Int)) = true := by simpa using hlt
      have hwk := HW.out k hlt
      have hstart := Lib.hid (OwnInts.lit wo wo.heap.size [] (Nat.le_refl _) (by simp))
      obtain ⟨r, hr⟩ : ∃ r, Lin.row M k = r := ⟨_, rfl⟩
      have HR := Lib.hid hr
      rw [hr] at hwk
      clear hr
      go_wp2
      go_loopw [8, 9] (fun v i wr => ∃ (k2 gg cc : Nat), k2 ≤ n ∧ i = .int .i64 (k2 : Int) ∧ v = .slice (some ⟨gg, 0, none⟩) k2 cc ∧ OwnInts wr wo.heap.size v (modR p (r.take k2)) ∧ Below wo.heap.size wo wr) (fun _ i _ => n - (intOf i).toNat)
      case atStart => exact ⟨0, wo.heap.size, 0, Nat.zero_le _, rfl, rfl, hstart.out, (Below.refl _ _).alloc (Nat.le_refl _) _⟩
      case round =>
        clear hstart
        obtain ⟨k2, gg, cc, hk2, rfl, rfl, hO3, hB3⟩ := hrel
        have HO3 := Lib.hid hO3
        unfold OwnInts at HO3
        have hsz := hB3.size
        have hl := modR_length p (r.take k2)
        rw [List.length_take, hwk, Nat.min_eq_left hk2] at hl
        rw [hl] at HO3
        have HL := Lib.hid hl
        have HB3 := Lib.hid hB3
        clear hO3 hl
        have hMX := HM.out.keeps ((HBO.out.trans (hB3.mono hszo)))
        obtain ⟨ea, hg1, hc1, _⟩ := hMX.out k hlt
        simp only [HR.out, hwk] at hc1
        have HMX := Lib.hid hMX
        clear hMX
        obtain rfl := ea
        by_cases hlk : k2 < n
        · have hx := HMX.out.ent hlt (j := k2) (by rw [HR.out, hwk]; exact hlk)
          have HN := Lib.hid (modR_next p r k2 (by rw [hwk]; exact hlk))
          have hee : ent M k k2 = r.getD k2 0 := by unfold ent; rw [HR.out]
          rw [hee] at hx
          obtain ⟨x, hxx⟩ : ∃ x, r.getD k2 0 = x := ⟨_, rfl⟩
          rw [hxx] at hx HN
          obtain ⟨z, hz⟩ : ∃ z, x % (p : Int) = z := ⟨_, rfl⟩
          have HSG := Lib.hid (fun W => l13Mod_any x p hp1 (by omega) W)
          rw [hz] at HSG HN
          have HBG := Lib.hid (fun g (hg : (Value.slice (some ⟨gg, 0, none⟩) k2 cc).ownBlock = some g) => (HO3.out.lt g hg).1)
          clear hxx hz hee
          have hdn : decide ((k2 : Int) < (n : Int)) = true := by simpa using hlk
          go_wp2_with fail
          refine (HSG.out _).mono ?_
          rintro e w' ⟨rfl, rfl⟩
          go_wp2_with (at_builtin; refine wpList_append_own_at _ rfl _ _ 24 rfl wo.heap.size 3 i0 (.int .i64 0) 1 8 Tryz.underlying24 hi hz0 hz1 hz2 rfl (by decide) _ _ _ rfl (HO3.out.alloc _) ⟨wr.heap.size, 0, none⟩ 1 1 [.int .i64 z] rfl rfl ?c1 ?c2 ?c3 ?c4 ?c5 ?_)
          case c1 => intro j u hj; exact Mem.cell_new wr _ _ j u hj
          case c2 => intro u hu; simp at hu; subst hu; rfl
          case c3 => unfold maxLen; omega
          case c4 => omega
          case c5 => simp; omega
          intro v' w1 hown1 hgrow _ hob
          obtain ⟨gg2, cap, rfl, -⟩ := hown1.form (by omega)
          have hB4 : Below wo.heap.size wo w1 := (HB3.out.alloc hsz _).grown hgrow (by simp; omega) HBG.out
          have hO4 : OwnInts w1 wo.heap.size (.slice (some ⟨gg2, 0, none⟩) (k2 + 1) cap) (modR p (r.take (k2 + 1))) := by
            unfold OwnInts
            rw [HN.out, List.length_append, List.map_append, HL.out]
            exact hown1
          have HO4 := Lib.hid hO4
          clear hown1 hgrow hob hO4
          go_wp2
          refine ⟨⟨k2 + 1, gg2, cap, by omega, by go_num, rfl, HO4.out, hB4⟩, ?_⟩
          simp [intOf]; omega
        · have hE : k2 = n := by omega
          have HE := Lib.hid hE
          have hdn : decide ((k2 : Int) < (n : Int)) = false := by simpa using hlk
          have hOI : OwnInts wr wo.heap.size (.slice (some ⟨gg, 0, none⟩) k2 cc) (modR p r) := by
            have h := HO3.out
            rw [hE, List.take_of_length_le (by omega)] at h
            unfold OwnInts
            rw [modR_length, hwk, hE]; exact h
          obtain ⟨hg1, hg2, hIr, -⟩ := hOI.known
          have HIR := Lib.hid hIr
          have HMM := Lib.hid (HO.out.keeps hB3)
          have hzl : (modM p (M.take k)).length = k := by unfold modM; rw [List.length_map, List.length_take, Nat.min_eq_left hk]
          have HOW := Lib.hid HMM.out.own
          rw [hzl] at HOW
          have HZL := Lib.hid hzl
          have hnn : u6.ownBlock ≠ some gg := fun e => by have := (HO.out.own.lt gg e).2; omega
          have HNN := Lib.hid hnn
          have hnr : Hid (gg ∉ blks R) := fun hm => by have := (HO.out.old hm).2; omega
          have HN := Lib.hid ((modM_next p M k hlt).trans (by rw [HR.out] : _ = modM p (M.take k) ++ [modR p r]))
          clear hOI hIr HO3 hzl hnn hE
          go_wp2_with (at_builtin; refine wpList_append_own_at _ rfl _ _ 38 rfl w.heap.size 24 i9 (.slice none 0 0) 1 24 Tryz.underlying38 hi9 hz90 hz91 hz92 rfl (by decide) _ _ _ rfl (HOW.out.alloc _) ⟨wr.heap.size, 0, none⟩ 1 1 [.slice (some ⟨gg, 0, none⟩) k2 cc] rfl rfl ?c1 ?c2 ?c3 ?c4 ?c5 ?_)
          case c1 => intro j u hj; exact Mem.cell_new wr _ _ j u hj
          case c2 => intro u hu; simp at hu; subst hu; rfl
          case c3 => unfold maxLen; omega
          case c4 => omega
          case c5 => simp; omega
          intro v' w3 hown1 hgrow _ hob
          have hBA : Below wr.heap.size wr (wr.alloc (.cells #[.slice (some ⟨gg, 0, none⟩) k2 cc] 24)) := (Below.refl _ _).alloc (Nat.le_refl _) _
          have hB5 : Below w.heap.size w w3 := ((HBO.out.trans (HB3.out.mono hszo)).trans (hBA.mono (by omega))).grown hgrow (by simp; omega) (fun g hg => (HO.out.own.lt g hg).1)
          have hO5 : OwnMx w3 w.heap.size v' (R ++ [(gg, cc)]) (modM p (M.take (k + 1))) := by
            rw [HN.out]
            refine OwnMx.next (HMM.out.keeps hBA) (by omega) (by simp; omega) (HIR.out.keeps hBA) hnr.out HNN.out ?_ hgrow ?_
            · rw [HZL.out, modR_length, hwk, ← HE.out]; exact hown1
            · rcases hob with e | e
              · exact .inl e
              · exact .inr ⟨_, e, by rw [World.size_alloc]; exact Nat.le_refl _⟩
          have HO5 := Lib.hid hO5
          clear hown1 hgrow hob hO5
          go_wp2
          go_roundw
          case rel => exact ⟨k + 1, R ++ [(gg, cc)], by omega, by go_num, HO5.out, hB5⟩
          case measure => simp [intOf]; omega
    · have hdn : decide ((k : Int) < (M.length : Int)) = false := by simpa using hlt
      have hO2 : OwnMx wo w.heap.size u6 R (modM p M) := by
        have h := HO.out
        rw [List.take_of_length_le (by omega)] at h; exact h
      have hM0 : (modM p M).length = M.length := by simp [modM]
      obtain ⟨go, ao, co, hv, hgo, hMX⟩ := hO2.mx
      rw [hM0] at hv hgo
      have HMX := Lib.hid hMX
      have HOLD := Lib.hid (fun g (hg : g ∈ blks R) => (hO2.old hg).1)
      have HGO := Lib.hid hgo
      subst hv
      have HWS := Lib.hid (show ∀ g, (Value.slice (some ⟨wo.heap.size, 0, none⟩) 0 0).ownBlock = some g → (0 < M.length → g ≠ go) ∧ g ∉ blks R from fun g hg => by
        simp only [Value.ownBlock, Option.some.injEq] at hg
        subst hg
        exact ⟨fun h0 => by have := (HGO.out h0).2; omega, fun hm => by have := HMX.out.old hm; omega⟩)
      have HP0 := Lib.hid (OwnInts.lit wo w.heap.size [] hszo (by simp))
      have HX0 := Lib.hid (HMX.out.keeps ((Below.refl _ _).alloc (Nat.le_refl _) (.cells #[] 3)))
      have HB0 : Hid (Below w.heap.size w (wo.alloc (.cells #[] 3))) := HBO.out.trans (((Below.refl _ _).alloc (Nat.le_refl _) _).mono hszo)
      clear hO2 hMX hgo HO HMX HBO
      go_wp2
      go_loopw [6, 10, 11] (fun v u i wr => ∃ (j : Nat) (R' : List (Nat × Nat)), j ≤ n ∧ v = .slice ao M.length co ∧ i = .int .i64 (j : Int) ∧ Mx wr go ao R' (redTo p M j).1 ∧ (∀ g, g ∈ blks R' → w.heap.size ≤ g) ∧ OwnInts wr w.heap.size u (ints (redTo p M j).2) ∧ (∀ g, u.ownBlock = some g → (0 < M.length → g ≠ go) ∧ g ∉ blks R') ∧ Below w.heap.size w wr) (fun _ _ i _ => n - (intOf i).toNat)
      case atStart => exact ⟨0, R, Nat.zero_le _, rfl, rfl, HX0.out, HOLD.out, HP0.out, HWS.out, HB0.out⟩
      case round =>
        clear HX0 HOLD HP0 HWS HB0
        obtain ⟨j, R', hj, rfl, rfl, hX, hG, hP, hPB, hB⟩ := hrel
        have hU := HU.out j hj
        rw [show (List.range j).foldl (stepM p) (modM p M, []) = redTo p M j from rfl] at hU
        have HRN : Hid (∀ d, j + d = n → reduce p M n = redTo p M (j + d)) := fun d e => by rw [e]; rfl
        obtain ⟨S, P, hSP⟩ : ∃ S P, redTo p M j = (S, P) := ⟨_, _, rfl⟩
        have HSP := Lib.hid hSP
        rw [hSP] at hX hP hU
        have hSl : S.length = M.length := hU.len
        have hle : P.length ≤ S.length := hU.le
        have hok : Okay p n S := hU.ok
        have hil : (ints P).length = P.length := by simp [ints]
        dsimp only at hX hP
        rw [hSl] at hle
        have HSL := Lib.hid hSl
        have HOK := Lib.hid hok
        have HIL := Lib.hid hil
        have hsz := hB.size
        clear hSP hU
        obtain ⟨au, cu, gu, hu, -, -, -, -⟩ := OwnInts.ata hP hsz
        rw [hil] at hu
        subst hu
        have HX := Lib.hid hX
        have HG := Lib.hid hG
        have HPO := Lib.hid hP
        have HPB := Lib.hid hPB
        have HB := Lib.hid hB
        clear hG hP hPB hB hok hil
        by_cases h0 : 0 < M.length
        · have hGO := HGO.out h0
          obtain ⟨hao, hgol, hc0, _⟩ := hX.out 0 (by rw [hSl]; exact h0)
          rw [HOK.out.wide _ (row_mem (by rw [hSl]; exact h0))] at hc0
          subst hao
          clear hX hSl
          have hd0 : decide ((0 : Int) < (M.length : Int)) = true := by simpa using h0
          by_cases hjn : j < n
          · have hdj : decide ((j : Int) < (n : Int)) = true := by simpa using hjn
            by_cases hPl : P.length < M.length
            · have hdp : decide ((P.length : Int) < (M.length : Int)) = true := by simpa using hPl
              obtain ⟨wi, rfl⟩ : ∃ wi : World, wi = wr := ⟨_, rfl⟩
              go_wp2
              go_loop [13] (fun i => ∃ a : Nat, P.length ≤ a ∧ a ≤ M.length ∧ i = .int .i64 (a : Int) ∧ Hid (∀ z, P.length ≤ z → z < a → ent S z j = 0)) (fun i => M.length - (intOf i).toNat)
              case atStart => exact ⟨P.length, Nat.le_refl _, hle, rfl, fun z h1 h2 => by omega⟩
              case round =>
                obtain ⟨a, ha1, ha2, rfl, hz⟩ := hrel
                by_cases hal : a < M.length
                · obtain ⟨_, _, hca, hfa⟩ := HX.out.out a (by rw [HSL.out]; exact hal)
                  have hwa := HOK.out.wide _ (row_mem (M := S) (i := a) (by rw [HSL.out]; exact hal))
                  rw [hwa] at hca
                  have hxa := HX.out.ent (i := a) (j := j) (by rw [HSL.out]; exact hal) (by rw [hwa]; exact hjn)
                  have hda : decide ((a : Int) < (M.length : Int)) = true := by simpa using hal
                  obtain ⟨x, hx⟩ : ∃ x, ent S a j = x := ⟨_, rfl⟩
                  rw [hx] at hxa
                  have HXA := Lib.hid hx
                  clear hwa hx
                  by_cases hx0 : x = 0
                  · subst hx0
                    go_wp2
                    go_round
                    case rel =>
                      refine ⟨a + 1, by omega, by omega, by go_num, fun z h1 h2 => ?_⟩
                      by_cases e : z < a
                      · exact hz.out z h1 e
                      · rw [show z = a by omega]; exact HXA.out
                    case measure => simp [intOf]; omega
                  · have hPd : P.length < S.length := by rw [HSL.out]; exact hPl
                    have haS : a < S.length := by rw [HSL.out]; exact hal
                    obtain ⟨_, _, hcd, hfd⟩ := HX.out.out P.length hPd
                    rw [HOK.out.wide _ (row_mem hPd)] at hcd
                    have hXS := HX.out.swap haS hPd
                    rw [HOK.out.wide _ (row_mem hPd), HOK.out.wide _ (row_mem haS)] at hXS
                    have hok2 := swap_ok haS hPd HOK.out
                    have hRl : R'.length = M.length := by rw [HX.out.len]; exact HSL.out
                    have HMEM := Lib.hid (fun g => swapR_mem (R := R') (a := a) (d := P.length) (by rw [hRl]; exact hal) (by rw [hRl]; exact hPl) g)
                    have hst : redTo p M (j + 1) = (clr p (Lin.swap S a P.length) P.length j, P ++ [j]) := by
                      rw [redTo_next, HSP.out]
                      refine step_some hPd (seek_eq S j _ _ _ ha1 (by omega) hz.out (.inr (by rw [HXA.out]; exact hx0))) (by omega)
                    have HST := Lib.hid hst
                    have HCL := Lib.hid (fun (co : Nat) (W : World) (hh : Mx W go (some ⟨go, 0, none⟩) (swapR R' a P.length) (Lin.swap S a P.length)) => by
                      have h := l13Clear_any p HPP.out (Lin.swap S a P.length) n hok2 P.length j (by rw [swap_length]; exact hPd) hjn (by rw [swap_length, HSL.out]; exact hm) hn go (some ⟨go, 0, none⟩) co (swapR R' a P.length) W hh
                      rw [swap_length, HSL.out] at h
                      exact h)
                    have HXS := Lib.hid hXS
                    have hon : Only [go] wi ((wi.setCell ⟨go, a, none⟩ (.slice (some ⟨blk R' P.length, 0, none⟩) n (room R' P.length))).setCell ⟨go, P.length, none⟩ (.slice (some ⟨blk R' a, 0, none⟩) n (room R' a))) := (Only.set [go] wi a (by simp) _).trans (Only.set [go] _ P.length (by simp) _)
                    have HON := Lib.hid hon
                    have hne : ((a : Int) == (M.length : Int)) = false := by simp; omega
                    have hne2 : ¬((a : Int) = (M.length : Int)) := by omega
                    have hcd2 : (wi.setCell ⟨go, a, none⟩ (.slice (some ⟨blk R' P.length, 0, none⟩) n (room R' P.length))).cell? ⟨go, P.length, none⟩ = some (.slice (some ⟨blk R' P.length, 0, none⟩) n (room R' P.length)) := by
                      by_cases e : a = P.length
                      · rw [e]; exact World.cell?_setCell_same _ _ _ hcd
                      · rw [World.cell?_setCell_other _ _ _ _ (by simp)]; exact hcd
                    have hfd2 : (wi.setCell ⟨go, a, none⟩ (.slice (some ⟨blk R' P.length, 0, none⟩) n (room R' P.length))).frozen? ⟨go, P.length, none⟩ = false := by rw [World.frozen?_setCell]; exact hfd
                    clear hst hok2 hXS hon haS hPd
                    go_wp2_with fail
                    refine (HCL.out _ _ HXS.out).mono ?_
                    rintro e w4 ⟨rfl, hX4, hO4⟩
                    have hP4 : OwnInts w4 w.heap.size (.slice au P.length cu) (ints P) := (HPO.out.only HON.out (fun g hg hm => (HPB.out g hg).1 h0 (List.mem_singleton.1 hm))).only hO4 (fun g hg hm => (HPB.out g hg).2 ((HMEM.out g).1 hm))
                    have hB4 : Below w.heap.size w w4 := (HB.out.trans (HON.out.below (fun g hg => by rw [List.mem_singleton.1 hg]; exact hGO.1) hsz)).trans (hO4.below (fun g hg => HG.out g ((HMEM.out g).1 hg)) (Nat.le_trans hsz HON.out.size))
                    have HX4 := Lib.hid hX4
                    have HP4 := Lib.hid hP4
                    unfold OwnInts at HP4
                    rw [HIL.out] at HP4
                    have hs4 := hB4.size
                    clear hX4 hO4 hP4 hca hfa hxa hcd hfd hc0 hgol hcd2 hfd2
                    go_wp2_with (at_builtin; refine wpList_append_own_at _ rfl _ _ 24 rfl w.heap.size 3 i0 (.int .i64 0) 1 8 Tryz.underlying24 hi hz0 hz1 hz2 rfl (by decide) _ _ _ rfl (HP4.out.alloc _) ⟨w4.heap.size, 0, none⟩ 1 1 [.int .i64 (j : Int)] rfl rfl ?c1 ?c2 ?c3 ?c4 ?c5 ?_)
                    case c1 => intro z u hz; exact Mem.cell_new w4 _ _ z u hz
                    case c2 => intro u hu; simp at hu; subst hu; rfl
                    case c3 => unfold maxLen; omega
                    case c4 => omega
                    case c5 => simp; omega
                    intro v' w5 hown1 hgrow _ hob
                    have hX4g := fun g (hg : g ∈ blks (swapR R' a P.length)) => HX4.out.old hg
                    have hgoL : go < w4.heap.size := (HX4.out.out 0 (by rw [clr_length, swap_length, HSL.out]; exact h0)).2.1
                    have hPB5 : ∀ g, v'.ownBlock = some g → (0 < M.length → g ≠ go) ∧ g ∉ blks (swapR R' a P.length) := fun g hg => by
                      rcases hob with e | e
                      · rw [e] at hg
                        exact ⟨(HPB.out g hg).1, fun hm => (HPB.out g hg).2 ((HMEM.out g).1 hm)⟩
                      · rw [e, Option.some.injEq] at hg
                        exact ⟨fun _ => by omega, fun hm => by have := hX4g _ hm; omega⟩
                    have hX5 : Mx w5 go (some ⟨go, 0, none⟩) (swapR R' a P.length) (clr p (Lin.swap S a P.length) P.length j) := Mx.grown (HX4.out.keeps ((Below.refl _ _).alloc (Nat.le_refl _) _)) hgrow (fun g hg => ⟨(HPB.out g hg).1 h0, fun hm => (HPB.out g hg).2 ((HMEM.out g).1 hm)⟩)
                    have hP5 : OwnInts w5 w.heap.size v' (ints (P ++ [j])) := by
                      unfold OwnInts
                      rw [show ints (P ++ [j]) = ints P ++ [(j : Int)] by simp [ints], List.length_append, List.map_append, HIL.out]
                      exact hown1
                    have hB5 : Below w.heap.size w w5 := (hB4.alloc hs4 _).grown hgrow (by simp; omega) (fun g hg => (HP4.out.lt g hg).1)
                    have HX5 := Lib.hid hX5
                    have HP5 := Lib.hid hP5
                    have HPB5 := Lib.hid hPB5
                    clear hown1 hgrow hob hX5 hP5 hPB5 hX4g
                    go_wp2
                    go_roundw
                    case rel => exact ⟨j + 1, swapR R' a P.length, by omega, rfl, by go_num, by rw [HST.out]; exact HX5.out, fun g hg => HG.out g ((HMEM.out g).1 hg), by rw [HST.out]; exact HP5.out, HPB5.out, hB5⟩
                    case measure => simp [intOf]; omega
                · have hE : Hid (a = M.length) := by show a = _; omega
                  have hda : decide ((a : Int) < (M.length : Int)) = false := by simpa using hal
                  have hda2 : ((a : Int) == (M.length : Int)) = true := by simp; omega
                  have HST : Hid (redTo p M (j + 1) = (S, P)) := by
                    show redTo p M (j + 1) = (S, P)
                    rw [redTo_next, HSP.out]
                    refine step_none (by rw [HSL.out]; exact hPl) ?_
                    exact seek_eq S j _ _ _ (by rw [HSL.out]; exact hle) (by rw [HSL.out]; omega) (fun z h1 h2 => hz.out z h1 (by rw [hE.out, ← HSL.out]; exact h2)) (.inl (by rw [HSL.out]; omega))
                  go_wp2
                  go_roundw
                  case rel => exact ⟨j + 1, R', by omega, rfl, by go_num, by rw [HST.out]; exact HX.out, HG.out, by rw [HST.out]; exact HPO.out, HPB.out, HB.out⟩
                  case measure => simp [intOf]; omega
            · have hdp : decide ((P.length : Int) < (M.length : Int)) = false := by simpa using hPl
              have HST : Hid (reduce p M n = (S, P)) := by
                show reduce p M n = (S, P)
                rw [HRN.out (n - j) (by omega), redTo_stop p M j (by rw [HSP.out]; dsimp only; rw [HSL.out]; exact hPl), HSP.out]
              go_wp2
              go_ret2
              exact ⟨_, co, go, R', _, rfl, by rw [HST.out]; exact HX.out, HG.out, by rw [HST.out]; exact HPO.out, HB.out⟩
          · have hdj : decide ((j : Int) < (n : Int)) = false := by simpa using hjn
            have HST : Hid (reduce p M n = (S, P)) := by
              show reduce p M n = (S, P)
              rw [HRN.out 0 (by omega)]; exact HSP.out
            go_wp2
            go_ret2
            exact ⟨_, co, go, R', _, rfl, by rw [HST.out]; exact HX.out, HG.out, by rw [HST.out]; exact HPO.out, HB.out⟩
        · have hd0 : decide ((0 : Int) < (M.length : Int)) = false := by simpa using h0
          have HST : Hid (reduce p M n = (S, P)) := by
            show reduce p M n = (S, P)
            rw [HRN.out (n - j) (by omega), redTo_stop p M j (by rw [HSP.out]; dsimp only; omega), HSP.out]
          clear hX hSl
          go_wp2
          go_ret2
          exact ⟨_, co, go, R', _, rfl, by rw [HST.out]; exact HX.out, HG.out, by rw [HST.out]; exact HPO.out, HB.out⟩

end Go.Proofs.YtenpcjmhlnalcaaGreat

/-! WALKS of chapter 13 (spec): the number of a face in a border. -/

namespace Go.Proofs.YtenpcjmhlnalcaaGreat
open Go.RowKit
open Sets

theorem and_natM : ∀ a b : Nat, a < 64 → b < 64 → bits BinOp.and IntKind.i64 (a : Int) (b : Int) = ((a &&& b : Nat) : Int) := by
  refine fin64b ?_
  decide +kernel
theorem sgn_yes {t s : Nat} (h : sub t s = true) (k : pc s = pc t + 1) : Hom.sgn t s = 1 - 2 * ((pc (s &&& (s - t - 1)) % 2 : Nat) : Int) := by unfold Hom.sgn; rw [if_pos ⟨h, k⟩]

set_option maxRecDepth 100000 in
set_option maxHeartbeats 2000000 in
theorem l13Sign_any (t s : Nat) (ht : t < 64) (hs : s < 64) (w : World) : Calls Tryz.prog 55 #[.int .i64 (t : Int), .int .i64 (s : Int)] w fun e w' => e = .returned (.int .i64 (Hom.sgn t s)) ∧ w = w' := by
  have ha := and_natM t s ht hs
  have hpt := pc_le t
  have hps := pc_le s
  cases h : sub t s with
  | false =>
    have hne : ¬(((t &&& s : Nat) : Int) = (t : Int)) := fun e => by
      have : t &&& s = t := by omega
      unfold sub at h; rw [this] at h; simp at h
    have E := Lib.hid (Hom.sgn_zero (t := t) (s := s) (by rw [h]; simp))
    go_enter Tryz.func55, Tryz.ntmps55
    go_wp2
    go_ret
    exact ⟨ret_int E.out.symm, rfl⟩
  | true =>
    have heq : ((t &&& s : Nat) : Int) = (t : Int) := by unfold sub at h; rw [beq_iff_eq] at h; rw [h]
    rw [heq] at ha
    clear heq
    have H := Lib.hid h
    have S1 := fun W => l2Size_b s (pc s) rfl hs W
    have S2 := fun W => l2Size_b t (pc t) rfl ht W
    generalize hq : pc s = ps at *
    generalize hq2 : pc t = pt at *
    have HQ := Lib.hid hq
    have HQ2 := Lib.hid hq2
    have HS1 := Lib.hid S1
    have HS2 := Lib.hid S2
    clear hq hq2 S1 S2 h
    by_cases hk : ps = pt + 1
    · have hlt : t < s := by
        have h1 := sub_le H.out
        have : t ≠ s := fun e => by have h1 := HQ.out; have h2 := HQ2.out; rw [e] at h2; omega
        omega
      have hpm := and_natM s (s - t - 1) hs (by omega)
      rw [show (((s - t - 1 : Nat)) : Int) = (s : Int) - (t : Int) - 1 by omega] at hpm
      have hm : s &&& (s - t - 1) < 64 := Nat.lt_of_le_of_lt Nat.and_le_left hs
      have HM := Lib.hid (fun W => l2Size_b (s &&& (s - t - 1)) _ rfl hm W)
      have E := Lib.hid (sgn_yes H.out (by rw [HQ.out, HQ2.out]; exact hk))
      have hpp := pc_le (s &&& (s - t - 1))
      generalize (s &&& (s - t - 1)) = m at *
      clear hm
      have hk2 : ((ps : Nat) : Int) - (pt : Int) = 1 := by omega
      go_enter Tryz.func55, Tryz.ntmps55
      go_wp2_with fail
      refine (HS1.out _).mono ?_
      rintro e w' ⟨rfl, rfl⟩
      go_wp2_with fail
      refine (HS2.out _).mono ?_
      rintro e w' ⟨rfl, rfl⟩
      go_wp2_with fail
      refine (HM.out _).mono ?_
      rintro e w' ⟨rfl, rfl⟩
      go_wp2
      go_ret
      refine ⟨ret_int ?_, rfl⟩
      rw [E.out]
      omega
    · have hk2 : ¬(((ps : Nat) : Int) - (pt : Int) = 1) := by omega
      have E := Lib.hid (Hom.sgn_zero (t := t) (s := s) (fun hh => hk (by have h1 := hh.2; rw [HQ.out, HQ2.out] at h1; exact h1)))
      go_enter Tryz.func55, Tryz.ntmps55
      go_wp2_with fail
      refine (HS1.out _).mono ?_
      rintro e w' ⟨rfl, rfl⟩
      go_wp2_with fail
      refine (HS2.out _).mono ?_
      rintro e w' ⟨rfl, rfl⟩
      go_wp2
      go_ret
      exact ⟨ret_int E.out.symm, rfl⟩

end Go.Proofs.YtenpcjmhlnalcaaGreat
