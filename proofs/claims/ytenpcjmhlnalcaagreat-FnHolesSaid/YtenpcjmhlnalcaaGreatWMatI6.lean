/-
  WALKS of chapter 13 (impl): a pivot is raised.
-/
import Derived.Test.YtenpcjmhlnalcaaGreatJg12
import Derived.Test.YtenpcjmhlnalcaaGreatMatB
import Derived.BigRegion
namespace Go.Proofs.YtenpcjmhlnalcaaGreat
open Go.RowKit

set_option maxRecDepth 100000 in
set_option maxHeartbeats 2000000 in
theorem heightB_any {base P go co : Nat} {R : List (Nat × Nat)} {m n : Nat} {f : Nat → Nat → Int} (w : World) (h : MB w base P go co R m n f) :
    Calls Tryz.prog 95 #[.pointer (some ⟨P, 0, none⟩)] w fun e w' => e = .returned (.int .i64 (m : Int)) ∧ w = w' := by
  have hc := h.cell
  clear h
  go_enter Tryz.func95, Tryz.ntmps95
  go_wp2
  go_ret
  exact ⟨rfl, rfl⟩
set_option maxRecDepth 100000 in
set_option maxHeartbeats 2000000 in
theorem widthB_any {base P go co : Nat} {R : List (Nat × Nat)} {m n : Nat} {f : Nat → Nat → Int} (w : World) (hm : 0 < m) (h : MB w base P go co R m n f) :
    Calls Tryz.prog 68 #[.pointer (some ⟨P, 0, none⟩)] w fun e w' => e = .returned (.int .i64 (n : Int)) ∧ w = w' := by
  have hc := h.cell
  obtain ⟨hc0, -⟩ := h.row hm
  have hd0 : ¬((m : Int) = 0) := by omega
  clear h
  go_enter Tryz.func68, Tryz.ntmps68
  go_wp2
  go_ret
  exact ⟨rfl, rfl⟩

theorem tmod_zero {a p : Int} : a.tmod p = 0 ↔ a % p = 0 := by
  rw [← Int.dvd_iff_tmod_eq_zero, ← Int.dvd_iff_emod_eq_zero]

set_option maxRecDepth 100000 in
set_option maxHeartbeats 4000000 in
theorem raise_any (p : Nat) (hp1 : 1 < p) {base P go co : Nat} {R : List (Nat × Nat)} {m n d c : Nat} {f : Nat → Nat → Int} (hd : d ≤ m) (hc : c < n) (hm : m ≤ 1099511627776) (w : World) (h : MB w base P go co R m n f) :
    Calls Tryz.prog 69 #[.pointer (some ⟨P, 0, none⟩), .int .i64 (d : Int), .int .i64 (c : Int), .int .i64 (p : Int)] w fun e w' =>
      (∃ a, d ≤ a ∧ a < m ∧ (∀ t, d ≤ t → t < a → f t c % (p : Int) = 0) ∧ f a c % (p : Int) ≠ 0 ∧ e = .returned (.bool true) ∧ MB w' base P go co (swapR R d a) m n (Lin.swpF d a f) ∧ Below base w w') ∨
      ((∀ t, d ≤ t → t < m → f t c % (p : Int) = 0) ∧ e = .returned (.bool false) ∧ w = w') := by
  have H := Lib.hid h
  have hcP := h.cell
  have HH := Lib.hid (heightB_any w h)
  have hz : ((p : Int) = 0) = False := by simp; omega
  clear h
  go_enter Tryz.func69, Tryz.ntmps69
  go_wp2
  go_loop [9] (fun i => ∃ a : Nat, d ≤ a ∧ a ≤ m ∧ i = .int .i64 (a : Int) ∧ Hid (∀ t, d ≤ t → t < a → f t c % (p : Int) = 0)) (fun i => m - (intOf i).toNat)
  case atStart => exact ⟨d, Nat.le_refl _, hd, rfl, fun t h1 h2 => by omega⟩
  case round =>
    obtain ⟨a, ha1, ha2, rfl, hzz⟩ := hrel
    go_wp2_with fail
    refine HH.out.mono ?_
    rintro e w' ⟨rfl, rfl⟩
    by_cases hlt : a < m
    · have hda : decide ((a : Int) < (m : Int)) = true := by simpa using hlt
      obtain ⟨hca, hfa⟩ := H.out.row hlt
      obtain ⟨hx, -⟩ := H.out.num hlt hc
      obtain ⟨x, hxx⟩ : ∃ x, f a c = x := ⟨_, rfl⟩
      rw [hxx] at hx
      have HX := Lib.hid hxx
      clear hxx
      by_cases h0 : x % (p : Int) = 0
      · have htm : x.tmod (p : Int) = 0 := tmod_zero.2 h0
        have H0 := Lib.hid h0
        clear h0
        go_wp2
        go_round
        case rel =>
          refine ⟨a + 1, by omega, by omega, by go_num, fun t h1 h2 => ?_⟩
          by_cases e : t < a
          · exact hzz.out t h1 e
          · rw [show t = a by omega, HX.out]; exact H0.out
        case measure => simp [intOf]; omega
      · have htm : ¬(x.tmod (p : Int) = 0) := fun e => h0 (tmod_zero.1 e)
        have htm2 : (x.tmod (p : Int) == 0) = false := by simpa using htm
        obtain ⟨hcd, hfd⟩ := H.out.row (i := d) (by omega)
        have H0 := Lib.hid h0
        have HS := Lib.hid (H.out.drew.swap (d := d) (a := a) (by omega) hlt)
        have hb1 := ((Below.refl base w).setCell (p := ⟨go, d, none⟩) H.out.olow (.slice (some ⟨blk R a, 0, none⟩) n (room R a))).setCell (p := ⟨go, a, none⟩) H.out.olow (.slice (some ⟨blk R d, 0, none⟩) n (room R d))
        have HB1 := Lib.hid hb1
        have hne2 : ∃ Y, (w.setCell ⟨go, d, none⟩ (.slice (some ⟨blk R a, 0, none⟩) n (room R a))).drew.cell? ⟨go, a, none⟩ = some Y := by
          by_cases e : a = d
          · rw [e]; exact ⟨_, World.cell?_setCell_same w _ _ hcd⟩
          · exact ⟨_, (World.cell?_setCell_other w _ _ _ (fun h => e (by have := congrArg Addr.off h; simpa using this.symm))).trans hca⟩
        obtain ⟨Y, hY⟩ := hne2
        have hfY : (w.setCell ⟨go, d, none⟩ (.slice (some ⟨blk R a, 0, none⟩) n (room R a))).drew.frozen? ⟨go, a, none⟩ = false := (World.frozen?_setCell ..).trans hfa
        have hdm : d < m := by omega
        obtain ⟨Ba, hBa⟩ : ∃ V, blk R a = V := ⟨_, rfl⟩
        obtain ⟨Bd, hBd⟩ : ∃ V, blk R d = V := ⟨_, rfl⟩
        obtain ⟨Ca, hCa⟩ : ∃ V, room R a = V := ⟨_, rfl⟩
        obtain ⟨Cd, hCd⟩ : ∃ V, room R d = V := ⟨_, rfl⟩
        rw [hBa] at hx
        rw [hBa, hCa] at hca
        rw [hBd, hCd] at hcd
        rw [hBa, hBd, hCa, hCd] at HS HB1
        rw [hBa, hCa] at hY hfY
        clear hBa hBd hCa hCd htm2
        clear hb1 h0
        go_wp2_with fail
        go_region
        go_wp2
        go_ret
        exact .inl ⟨a, ha1, hlt, hzz.out, by rw [HX.out]; exact H0.out, rfl, HS.out, by have h := HB1.out; exact ⟨h.os, h.tape, h.output, h.size, h.block⟩⟩
    · have hda : decide ((a : Int) < (m : Int)) = false := by simpa using hlt
      go_wp2
      go_ret
      exact .inr ⟨fun t h1 h2 => hzz.out t h1 (by omega), rfl, rfl⟩

end Go.Proofs.YtenpcjmhlnalcaaGreat
