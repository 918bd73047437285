/-
  WALKS: impl's chapter 10: sums by binomial numbers.
-/
import Derived.Test.YtcgfioakjmbciaaWHI1
import Derived.Test.YtcgfioakjmbciaaJg2
import Derived.Test.YtcgfioakjmbciaaJg7
namespace Go.Proofs.Ytcgfioakjmbciaa
open Go.RowKit
open Sets Hn

/-- What the sums are when i rounds are over, and of the next one the places before k. -/
def mid (i k j : Nat) : Nat := if j < k then min (i + 1) (j + 1) else min i (j + 1)

theorem pw_next (s : Int) (k i : Nat) (h : i ≤ k) (x : Int) : pw s (k - i) * x * s = pw s (k + 1 - i) * x := by
  rw [show k + 1 - i = (k - i) + 1 by omega, pw, Int.mul_right_comm]

theorem pw_le (s : Int) (h : s = 1 ∨ s = -1) (j : Nat) (x : Int) (hx : -1000 ≤ x ∧ x ≤ 1000) : -1000 ≤ pw s j * x ∧ pw s j * x ≤ 1000 := by
  rcases pw_sign s h j with e | e <;> rw [e] <;> omega

theorem sums_end (s : Int) (L R : List Int) (hl : R.length = L.length) (h : ∀ j, j < L.length → R.getD j 0 = hs s L (L.length - 1) j (min L.length (j + 1))) : R = hsums s L := by
  apply List.ext_getElem (by rw [hl, hsums_length])
  intro j h1 h2
  have e1 := h j (by omega)
  have e2 := hsums_at s L j (by omega)
  rw [Nat.min_eq_right (by omega)] at e1
  rw [List.getD, List.getElem?_eq_getElem h1] at e1
  rw [List.getD, List.getElem?_eq_getElem h2] at e2
  simp only [Option.getD_some] at e1 e2
  rw [e1, e2]

set_option maxRecDepth 100000 in
set_option maxHeartbeats 1000000 in
theorem sums_any (s : Int) (hs1 : s = 1 ∨ s = -1) (a : Option Addr) (c : Nat) (L : List Int) (hl7 : L.length ≤ 7) (hx : ∀ j, -1000 ≤ L.getD j 0 ∧ L.getD j 0 ≤ 1000) (w : World) (h : Ints w a L) :
    Calls Try.prog 40 #[.slice a L.length c, .int .i64 s] w fun e w' => ∃ v, e = .returned v ∧ OwnInts w' w.heap.size v (hsums s L) ∧ Below w.heap.size w w' := by
  obtain ⟨i0, hi, hz0, hz1, hz2⟩ := info_parts info_int
  have H := Lib.hid h
  have HX := Lib.hid hx
  have HEND := Lib.hid (sums_end s L)
  have HPART := Lib.hid (fun d k m hd => part_le s hs1 (L.getD m 0) (hx m) d k m hd)
  have HSUM := Lib.hid (hs_le s hs1 L hx)
  have HPW := Lib.hid (fun j m => pw_le s hs1 j (L.getD m 0) (hx m))
  have HS1 := Lib.hid hs1
  obtain ⟨l, hl⟩ : ∃ l, L.length = l := ⟨_, rfl⟩
  have HLN := Lib.hid hl
  rw [hl] at hl7 HEND ⊢
  clear h hx hs1 hl
  have eg : ∀ args w, (callFunc 67 args).run Try.prog w = .ok (.enter 67 args) w := enters_of Try.func67 (by kernel_rfl) rfl
  go_enter Try.func40, Try.ntmps40
  go_wp2_with fail
  refine (remember_any _).mono ?_
  rintro e w1 ⟨A, C, M, rfl, hA, hC, hM, hR, hb⟩
  have HB1 := Lib.hid hb
  have HR1 := Lib.hid hR
  have hsz1 := hb.size
  have hAl := hR.2.2.1
  have hCl := hR.2.2.2.1
  have hMl := hR.map.lt
  unfold remV
  clear hR hb
  go_wp2_with (at_make; refine wpList_make_full _ rfl _ _ 24 rfl w1.heap.size 3 i0 (.int .i64 0) 1 Try.underlying24 hi hz0 hz1 _ _ _ _ l rfl rfl rfl rfl ?c1 ?c2 ?c3 ?_)
  case c1 => rw [hz2]; omega
  case c2 => unfold maxLen; omega
  case c3 => exact Nat.le_refl _
  intro w2 hown hgrow
  have hO2 : OwnInts w2 w1.heap.size (.slice (some ⟨w1.heap.size, 0, none⟩) l l) (List.replicate l 0) := by
    have : w2.ownsRow w1.heap.size 3 1 (.slice (some ⟨w1.heap.size, 0, none⟩) l l) l ((List.replicate l (0 : Int)).map (Value.int .i64)) := by
      rw [List.map_replicate, ← toList_madeCells_one]
      simpa using hown
    unfold OwnInts
    rw [List.length_replicate]
    exact this
  have hB2 : Below w.heap.size w w2 := HB1.out.trans ((Mem.below_of_none hgrow).mono hsz1)
  have hR2 := HR1.out.keeps (Mem.below_of_none hgrow)
  have HO2 := Lib.hid hO2
  have HB2 := Lib.hid hB2
  have HR2 := Lib.hid hR2
  clear hown hgrow hO2 hB2 hR2 HR1
  obtain ⟨g0, hg0⟩ : ∃ g0, w1.heap.size = g0 := ⟨_, rfl⟩
  rw [hg0] at HO2 hsz1 hAl hCl hMl ⊢
  clear hg0 HB1
  go_wp2
  go_loopw [20] (fun v wr => ∃ (i : Nat) (R : List Int), i ≤ l ∧ v = .int .i64 (i : Int) ∧ R.length = l ∧ (∀ j, j < l → R.getD j 0 = hs s L (l - 1) j (min i (j + 1))) ∧ OwnInts wr g0 (.slice (some ⟨g0, 0, none⟩) l l) R ∧ Rem wr A C M (480 * i) ∧ Below w.heap.size w wr) (fun v _ => l - (intOf v).toNat)
  case atStart => exact ⟨0, List.replicate l 0, Nat.zero_le _, rfl, by simp, fun j hj => by simp [hs, hj], HO2.out, HR2.out, HB2.out⟩
  case round =>
    clear HO2 HB2 HR2
    obtain ⟨i, R, hi2, rfl, hRl, hRR, hO, hRem, hB⟩ := hrel
    have HO := Lib.hid hO
    have HRM := Lib.hid hRem
    have HB := Lib.hid hB
    have HRR := Lib.hid hRR
    have HRL := Lib.hid hRl
    clear hO hRem hB hRR hRl
    by_cases hlt : i < l
    · obtain ⟨b, o, rfl, g⟩ := (H.out.keeps HB.out) i (by rw [HLN.out]; exact hlt)
      obtain ⟨x, hxx⟩ : ∃ x, L.getD i 0 = x := ⟨_, rfl⟩
      rw [hxx] at g
      have HXX := Lib.hid hxx
      clear hxx
      go_wp2
      go_loopw [9, 10] (fun u v wr => ∃ (k : Nat) (R : List Int), i ≤ k ∧ k ≤ l ∧ v = .int .i64 (k : Int) ∧ u = .int .i64 (pw s (k - i) * L.getD i 0) ∧ R.length = l ∧ (∀ j, j < l → R.getD j 0 = hs s L (l - 1) j (mid i k j)) ∧ OwnInts wr g0 (.slice (some ⟨g0, 0, none⟩) l l) R ∧ Rem wr A C M (480 * i + 60 * (k - i)) ∧ Below w.heap.size w wr) (fun _ v _ => l - (intOf v).toNat)
      case atStart => exact ⟨i, R, Nat.le_refl _, by omega, rfl, by rw [HXX.out, Nat.sub_self, pw, Int.one_mul], HRL.out, fun j hj => by rw [HRR.out j hj, show mid i i j = min i (j + 1) by unfold mid; split <;> omega], HO.out, by rw [Nat.sub_self]; exact HRM.out, HB.out⟩
      case round =>
        clear HO HRM HB HRR HRL g
        obtain ⟨k, R, hik, hkl, rfl, rfl, hRl, hRR, hO, hRem, hB⟩ := hrel
        have HRM := Lib.hid hRem
        have HB := Lib.hid hB
        have HRR := Lib.hid hRR
        have HRL := Lib.hid hRl
        have HIK := Lib.hid hik
        by_cases hk : k < l
        · have hkd : decide ((k : Int) ≤ (l : Int) - 1) = true := by simp; omega
          obtain ⟨ag, ac, gg, hv, _, hat⟩ := hO.at
          injection hv with e1 e2 e3
          subst e1
          obtain ⟨e4, hgl, hcell, hfroz⟩ := hat k (by rw [hRl]; exact hk)
          injection e4 with e4
          injection e4 with e4
          subst e4
          have hsum := HSUM.out (l - 1) k (by omega) i
          have hpart := HPART.out (l - 1) k i (by omega)
          have hpw := HPW.out (k - i) i
          have hyv := hRR k hk
          rw [show mid i k k = i by unfold mid; split <;> omega] at hyv
          obtain ⟨q, hq⟩ : ∃ q, pw s (k - i) * L.getD i 0 = q := ⟨_, rfl⟩
          obtain ⟨cc, hcc⟩ : ∃ cc, ch (l - 1 - i) (k - i) = cc := ⟨_, rfl⟩
          obtain ⟨y, hy⟩ : ∃ y, R.getD k 0 = y := ⟨_, rfl⟩
          rw [hy] at hcell hyv
          rw [← hyv] at hsum
          rw [hq, hcc] at hpart
          rw [hq] at hpw
          have HV : Hid (IntKind.i64.wrap (y + IntKind.i64.wrap (q * (cc : Int))) = y + q * (cc : Int)) := by
            have : IntKind.i64.wrap (y + IntKind.i64.wrap (q * (cc : Int))) = y + q * (cc : Int) := by
              generalize q * (cc : Int) = z at hpart ⊢
              rw [IntWalk.i64_in z (by omega), IntWalk.i64_in (y + z) (by omega)]
            exact this
          have HN : Hid (wrap64 (q * s) = pw s (k + 1 - i) * L.getD i 0) := by
            have : wrap64 (q * s) = pw s (k + 1 - i) * L.getD i 0 := by
              rw [← pw_next s k i hik, hq]
              have : q * s = q ∨ q * s = -q := by rcases HS1.out with e | e <;> rw [e] <;> omega
              exact IntWalk.wrap64_in _ (by omega)
            exact this
          have HROW : Hid (∀ j, j < l → (R.set k (y + q * (cc : Int))).getD j 0 = hs s L (l - 1) j (mid i (k + 1) j)) := by
            have : ∀ j, j < l → (R.set k (y + q * (cc : Int))).getD j 0 = hs s L (l - 1) j (mid i (k + 1) j) := fun j hj => by
              by_cases e : j = k
              · subst e
                rw [show mid i (j + 1) j = i + 1 by unfold mid; split <;> omega, hs, ← hyv, hq, hcc, List.getD, List.getElem?_set_self (by rw [hRl]; exact hk)]
                rfl
              · rw [show mid i (k + 1) j = mid i k j by unfold mid; split <;> split <;> omega, ← hRR j hj, List.getD, List.getElem?_set_ne (fun h => e h.symm), ← List.getD_eq_getElem?_getD]
            exact this
          have HPUT : Hid (∀ w3 : World, wr.drew.grownBy w3 (some M) → OwnInts (w3.setCell ⟨g0, k, none⟩ (.int .i64 (IntKind.i64.wrap (y + IntKind.i64.wrap (q * (cc : Int)))))) g0 (.slice (some ⟨g0, 0, none⟩) l l) (R.set k (y + q * (cc : Int)))) := by
            have : ∀ w3 : World, wr.drew.grownBy w3 (some M) → OwnInts (w3.setCell ⟨g0, k, none⟩ (.int .i64 (IntKind.i64.wrap (y + IntKind.i64.wrap (q * (cc : Int)))))) g0 (.slice (some ⟨g0, 0, none⟩) l l) (R.set k (y + q * (cc : Int))) := fun w3 hg => by
              have h1 : OwnInts w3 g0 (.slice (some ⟨g0, 0, none⟩) l l) R := World.ownsRow.kept (show OwnInts wr.drew g0 _ R from hO) hg (.inr (by simp [Value.ownBlock]; omega))
              rw [← hRl] at h1
              have h2 := OwnInts.put h1 k (y + q * (cc : Int))
              rw [List.length_set, hRl] at h2
              rw [HV.out]
              exact h2
            exact this
          have HQ := Lib.hid hq
          have HCC := Lib.hid hcc
          have HY := Lib.hid hy
          have HYV := Lib.hid hyv
          have HO := Lib.hid hO
          have HZ1 : Hid ((l : Int) - 1 - (i : Int) = ((l - 1 - i : Nat) : Int)) := by
            have : (l : Int) - 1 - (i : Int) = ((l - 1 - i : Nat) : Int) := by omega
            exact this
          have HZ2 : Hid ((k : Int) - (i : Int) = ((k - i : Nat) : Int)) := by
            have : (k : Int) - (i : Int) = ((k - i : Nat) : Int) := by omega
            exact this
          rw [hq]
          have HCALL : Hid (Calls Try.prog 67 #[.int .i64 (IntKind.i64.wrap ((l : Int) - 1 - (i : Int))), .int .i64 (IntKind.i64.wrap ((k : Int) - (i : Int))), .pointer (some ⟨A, 0, none⟩), .pointer (some ⟨C, 0, none⟩)] wr.drew fun e w' => e = .returned (.int .i64 (cc : Int)) ∧ Rem w' A C M (480 * i + 60 * (k - i) + 60) ∧ wr.drew.grownBy w' (some M)) := by
            have : Calls Try.prog 67 #[.int .i64 (IntKind.i64.wrap ((l : Int) - 1 - (i : Int))), .int .i64 (IntKind.i64.wrap ((k : Int) - (i : Int))), .pointer (some ⟨A, 0, none⟩), .pointer (some ⟨C, 0, none⟩)] wr.drew fun e w' => e = .returned (.int .i64 (cc : Int)) ∧ Rem w' A C M (480 * i + 60 * (k - i) + 60) ∧ wr.drew.grownBy w' (some M) :=
              choose1_z A C M (l - 1 - i) (k - i) (480 * i + 60 * (k - i)) _ _ (by rw [IntWalk.i64_in _ (by omega)]; exact HZ1.out) (by rw [IntWalk.i64_in _ (by omega)]; exact HZ2.out) cc HCC.out wr.drew (by omega) (by omega) (by omega) HRM.out
            exact this
          have hgM : g0 ≠ M := by omega
          have hc3 : ∀ w3 : World, wr.drew.grownBy w3 (some M) → w3.cell? ⟨g0, k, none⟩ = some (.int .i64 y) := fun w3 hg => (World.cell?_of_block (w := wr.drew) (w' := w3) (a := ⟨g0, k, none⟩) (hg.block g0 hgl (by simpa using hgM))).trans hcell
          have hf3 : ∀ w3 : World, wr.drew.grownBy w3 (some M) → w3.frozen? ⟨g0, k, none⟩ = false := fun w3 hg => (World.frozen?_of_block (w := wr.drew) (w' := w3) (a := ⟨g0, k, none⟩) (hg.block g0 hgl (by simpa using hgM))).trans hfroz
          have HC3 := Lib.hid hc3
          have HF3 := Lib.hid hf3
          clear hO hRem hB hRR hRl hsum hpart hq hcc hy hyv hat e2 e3 hc3 hf3 HZ1 HZ2
          go_wp2_with fail
          go_region_law (first | (go_simp; go_at_fn 67; refine HCALL.out.mono ?_; rintro e w3 ⟨rfl, hR3, hg3⟩; have c3 := HC3.out w3 hg3; have f3 := HF3.out w3 hg3; have HR3 := Lib.hid hR3; have HG3 := Lib.hid hg3; clear hR3 hg3) | fail "arm")
          all_goals
            have hB3 : Below w.heap.size w (w3.setCell ⟨g0, k, none⟩ (.int .i64 (IntKind.i64.wrap (y + IntKind.i64.wrap (q * (cc : Int)))))) := ((HB.out.drew).grown HG3.out (by simp; omega) (fun g hg => by simp at hg; omega)).setCell (by dsimp only; omega) _
            have hO4 := HPUT.out w3 HG3.out
            have hR4 := HR3.out.away (Mem.but_setCell w3 g0 k (.int .i64 (IntKind.i64.wrap (y + IntKind.i64.wrap (q * (cc : Int)))))) (by simp; omega) (by simp; omega) (by simp; omega)
            simp only [IntWalk.i64_left] at hO4 hR4 hB3
            have HO4 := Lib.hid hO4
            have HR4 := Lib.hid hR4
            have HB4 := Lib.hid hB3
            clear hO4 hR4 hB3
            go_wp2
            go_roundw
            case rel => exact ⟨k + 1, R.set k (y + q * (cc : Int)), by omega, by omega, by go_num, by rw [HN.out], by rw [List.length_set]; exact HRL.out, HROW.out, HO4.out, HR4.out.mono (by omega), HB4.out⟩
            case measure => simp [intOf]; omega
        · have hkd : decide ((k : Int) ≤ (l : Int) - 1) = false := by simp; omega
          have E := Lib.hid (show k = l by omega)
          have HO := Lib.hid hO
          clear hO hRem hB hRR hRl
          go_wp2
          go_roundw
          case rel => exact ⟨i + 1, R, by omega, by go_num, HRL.out, fun j hj => by rw [HRR.out j hj, E.out, show mid i l j = min (i + 1) (j + 1) by unfold mid; rw [if_pos hj]], HO.out, HRM.out.mono (by have := E.out; omega), HB.out⟩
          case measure => simp [intOf]; omega
    · have E := Lib.hid (show i = l by omega)
      go_wp2
      go_ret
      have hR : R = hsums s L := HEND.out R HRL.out (fun j hj => by rw [HRR.out j hj, E.out])
      refine ⟨_, rfl, ?_, HB.out⟩
      rw [← hR]
      have h2 := HO.out.lower (by omega : w.heap.size ≤ g0)
      exact h2

end Go.Proofs.Ytcgfioakjmbciaa
