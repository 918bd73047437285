/-
  TEXTS of one claim, put together: WMonI4, Adds, WHI2, WHI3.
-/
import Derived.Test.YtmonaiojejbhkaaJg35
import Derived.Test.YtmonaiojejbhkaaWKkI1
import Derived.Test.YtmonaiojejbhkaaJg28
import Derived.Test.YtmonaiojejbhkaaJg2
import Derived.Test.YtmonaiojejbhkaaJg15
import Derived.Test.YtmonaiojejbhkaaJg14
import Derived.Test.YtmonaiojejbhkaaJg5
/-! WALKS: impl's chapter 12: the next lesser list of exponents. -/

namespace Go.Proofs.Ytmonaiojejbhkaa
open Go.RowKit
open Sets Hn Kk Mon

theorem getD_setI (L : List Int) (q j : Nat) (x : Int) (h : q < L.length) : (L.set q x).getD j 0 = if q = j then x else L.getD j 0 := by
  by_cases e : q = j
  · subst e; simp [List.getD, h]
  · simp [List.getD, List.getElem?_set_ne e, e]

set_option maxRecDepth 100000 in
set_option maxHeartbeats 4000000 in
theorem lowExp_any (g c l : Nat) (L : List Int) (hl : L.length = l) (h1 : 1 ≤ l) (h6 : l ≤ 6) (hb : ∀ j, j < l → 0 ≤ L.getD j 0 ∧ L.getD j 0 ≤ 5) (w : World) (h : IntsAt w g (some ⟨g, 0, none⟩) L) :
    Calls Try.prog 72 #[.slice (some ⟨g, 0, none⟩) l c] w fun e w' => (∃ K, lowO L = some K ∧ e = .returned (.bool true) ∧ IntsAt w' g (some ⟨g, 0, none⟩) K ∧ Only [g] w w') ∨ (lowO L = none ∧ e = .returned (.bool false) ∧ Only [g] w w') := by
  obtain ⟨q, rfl⟩ : ∃ q, l = q + 1 := ⟨l - 1, by omega⟩
  obtain ⟨_, hgs, c0, f0⟩ := h q (by omega)
  have hx := hb q (by omega)
  have hlow : lowO L = lowAt (L.set q 0) (L.getD q 0 + 1) q := by unfold lowO; rw [hl]; rfl
  have hL0 : ∀ j, (L.set q 0).getD j 0 = if q = j then 0 else L.getD j 0 := fun j => getD_setI L q j 0 (by omega)
  have hb0 : ∀ j, j < q + 1 → 0 ≤ (L.set q 0).getD j 0 ∧ (L.set q 0).getD j 0 ≤ 5 := fun j hj => by
    rw [hL0]
    split
    · omega
    · exact hb j hj
  have hset := IntsAt.setOwn h q 0
  have hl0 : (L.set q 0).length = q + 1 := by rw [List.length_set, hl]
  have honly := Only.set [g] w (b := g) q (by simp) (.int .i64 0)
  obtain ⟨x, hxe⟩ : ∃ x, L.getD q 0 = x := ⟨_, rfl⟩
  rw [hxe] at c0 hx hlow
  obtain ⟨L0, hLe⟩ : ∃ L0, L.set q 0 = L0 := ⟨_, rfl⟩
  rw [hLe] at hlow hb0 hset hl0
  obtain ⟨o, ho⟩ : ∃ o, lowO L = o := ⟨_, rfl⟩
  rw [ho] at hlow ⊢
  have HB0 := Lib.hid hb0
  have HLOW := Lib.hid hlow
  have HSET := Lib.hid hset
  have HL0 := Lib.hid hl0
  have HON := Lib.hid honly
  clear hb hlow hL0 hb0 hset hxe hLe ho hl h honly hl0
  have hqz : (0 : Int) ≤ (q : Int) := by omega
  go_enter Try.func72, Try.ntmps72
  go_wp2
  go_loopw [5] (fun i wr => ∃ p : Nat, p ≤ q ∧ (p = 0 ∧ i = .int .i64 (-1) ∨ ∃ y : Nat, y + 1 = p ∧ i = .int .i64 (y : Int)) ∧ o = lowAt L0 (x + 1) p ∧ IntsAt wr g (some ⟨g, 0, none⟩) L0 ∧ Only [g] w wr) (fun i _ => (intOf i + 1).toNat)
  case atStart =>
    refine ⟨q, Nat.le_refl _, ?_, HLOW.out, HSET.out, HON.out⟩
    cases q with
    | zero => exact .inl ⟨rfl, by go_num⟩
    | succ y => exact .inr ⟨y, rfl, by go_num⟩
  case round =>
    obtain ⟨p, hp, hpy, hlo, hI, hO⟩ := hrel
    have HI := Lib.hid hI
    have HO := Lib.hid hO
    have HLO := Lib.hid hlo
    clear hlo hI hO
    rcases hpy with ⟨rfl, rfl⟩ | ⟨y, rfl, rfl⟩
    · go_wp2
      go_ret
      exact .inr ⟨HLO.out, rfl, HO.out⟩
    · obtain ⟨_, hgw, c1, f1⟩ := HI.out y (by rw [HL0.out]; omega)
      obtain ⟨_, _, c2, f2⟩ := HI.out (y + 1) (by rw [HL0.out]; omega)
      have hv := HB0.out y (by omega)
      obtain ⟨v, hve⟩ : ∃ v, L0.getD y 0 = v := ⟨_, rfl⟩
      obtain ⟨u, hue⟩ : ∃ u, L0.getD (y + 1) 0 = u := ⟨_, rfl⟩
      rw [hve] at c1 hv
      rw [hue] at c2
      have HV := Lib.hid hve
      clear hve hue
      by_cases hpos : 0 < v
      · have hd : decide (0 < v) = true := by simpa using hpos
        have hS2 := IntsAt.setOwn (IntsAt.setOwn HI.out y (v - 1)) (y + 1) (x + 1)
        have hO2 := (HO.out.trans (Only.set [g] wr (b := g) y (by simp) (.int .i64 (v - 1)))).trans (Only.set [g] _ (b := g) (y + 1) (by simp) (.int .i64 (x + 1)))
        have hK : o = some ((L0.set y (v - 1)).set (y + 1) (x + 1)) := by rw [HLO.out, lowAt_yes (by rw [HV.out]; exact hpos), HV.out]
        have HS2 := Lib.hid hS2
        have HO2 := Lib.hid hO2
        have HK := Lib.hid hK
        clear hS2 hO2 hK hpos
        go_wp2
        go_ret
        exact .inl ⟨_, HK.out, rfl, HS2.out, HO2.out⟩
      · have hd : decide (0 < v) = false := by simpa using hpos
        have hK : o = lowAt L0 (x + 1) y := by rw [HLO.out, lowAt_no (by rw [HV.out]; exact hpos)]
        have HK := Lib.hid hK
        clear hK hpos
        go_wp2
        go_roundw
        case rel =>
          refine ⟨y, by omega, ?_, HK.out, HI.out, HO.out⟩
          cases y with
          | zero => exact .inl ⟨rfl, by go_num⟩
          | succ z => exact .inr ⟨z, rfl, by go_num⟩
        case measure =>
          simp [intOf]

end Go.Proofs.Ytmonaiojejbhkaa

/-! MEMORY: a call that adds rows to a matrix that it is given. -/

namespace Go.Proofs.Ytmonaiojejbhkaa
open Go.RowKit

theorem only_grown {w w' : World} {o : Option Nat} (h : w.grownBy w' o) : Only o.toList w w' :=
  ⟨h.os, h.tape, h.output, h.size, fun k hk hn => h.block k hk (fun e => hn (by rw [← e]; simp))⟩
theorem not_toList {o : Option Nat} {g : Nat} (h : o ≠ some g) : g ∉ o.toList := by
  intro hm; cases o with
  | none => simp at hm
  | some x => simp at hm; exact h (by rw [hm])
theorem only_step {w wr w4 w5 : World} {o o2 : Option Nat} (h1 : Only o.toList w wr) (h2 : Below wr.heap.size wr w4) (h3 : Only o2.toList w4 w5) (ho : o2 = o ∨ ∃ z, o2 = some z ∧ w.heap.size ≤ z) : Only o.toList w w5 := by
  have hs1 := h1.size
  have hs2 := h2.size
  refine ⟨h3.os.trans (h2.os.trans h1.os), h3.tape.trans (h2.tape.trans h1.tape), h3.output.trans (h2.output.trans h1.output), Nat.le_trans hs1 (Nat.le_trans hs2 h3.size), fun k hk hn => ?_⟩
  rw [h3.block k (by omega) ?_, h2.block k (by omega), h1.block k hk hn]
  rcases ho with rfl | ⟨z, rfl, hz⟩
  · exact hn
  · intro hm; simp at hm; omega

/-- What a call that adds rows leaves. -/
structure Adds (v : Value) (w : World) (R : List (Nat × Nat)) (v' : Value) (w' : World) (R' : List (Nat × Nat)) (hg : Option Nat) : Prop where
  only : Only v.ownBlock.toList w w'
  own : v'.ownBlock = v.ownBlock ∨ ∃ z, v'.ownBlock = some z ∧ w.heap.size ≤ z
  rows : ∀ g, g ∈ blks R' → g ∈ blks R ∨ hg = some g ∨ w.heap.size ≤ g

end Go.Proofs.Ytmonaiojejbhkaa

/-! WALKS: impl's chapter 10: sums by binomial numbers. -/

namespace Go.Proofs.Ytmonaiojejbhkaa
open Go.RowKit
open Sets Hn

/-- What the sums are when i rounds are over, and of the next one the places before k. -/
def mid (i k j : Nat) : Nat := if j < k then min (i + 1) (j + 1) else min i (j + 1)

theorem pw_next (s : Int) (k i : Nat) (h : i ≤ k) (x : Int) : pw s (k - i) * x * s = pw s (k + 1 - i) * x := by
  rw [show k + 1 - i = (k - i) + 1 by omega, pw, Int.mul_right_comm]

theorem pw_le (s : Int) (h : s = 1 ∨ s = -1) (j : Nat) (x : Int) (hx : -1000 ≤ x ∧ x ≤ 1000) : -1000 ≤ pw s j * x ∧ pw s j * x ≤ 1000 := by
  rcases pw_sign s h j with e | e <;> rw [e] <;> omega

theorem sums_end (s : Int) (L R : List Int) (hl : R.length = L.length) (h : ∀ j, j < L.length → R.getD j 0 = hs s L (L.length - 1) j (min L.length (j + 1))) : R = hsums s L := by
  apply List.ext_getElem (by rw [hl, hsums_length])
  intro j h1 h2
  have e1 := h j (by omega)
  have e2 := hsums_at s L j (by omega)
  rw [Nat.min_eq_right (by omega)] at e1
  rw [List.getD, List.getElem?_eq_getElem h1] at e1
  rw [List.getD, List.getElem?_eq_getElem h2] at e2
  simp only [Option.getD_some] at e1 e2
  rw [e1, e2]

end Go.Proofs.Ytmonaiojejbhkaa

/-! WALKS: impl's chapter 10: HNumbers, TopH, CountsFromH. -/

namespace Go.Proofs.Ytmonaiojejbhkaa
open Go.RowKit
open Sets Hn

theorem near_far (L : List Int) : nearB L = !(L.any fun x => decide (x < -1000) || decide (1000 < x)) := by
  unfold nearB
  rw [List.all_eq_not_any_not]
  congr 2
  funext x
  rw [Bool.eq_iff_iff]
  simp

end Go.Proofs.Ytmonaiojejbhkaa
