/-
  WALKS: impl's chapter 11: CascadeOf, one labelled loop whose search goes on by goto (written by gencasc.py).
-/
import Derived.Test.YtmonaiojejbhkaaWKkI1
import Derived.Test.YtmonaiojejbhkaaWKkS1
import Derived.Test.YtmonaiojejbhkaaJg8
import Derived.WalkMore
import Derived.ScopeJumps
namespace Go.Proofs.Ytmonaiojejbhkaa
open Go.RowKit
open Sets Hn Kk

theorem OwnInts.pastM {w w' : World} {base B : Nat} {v : Value} {xs : List Int} (h : OwnInts w base v xs) (hg : w.grownBy w' (some B)) (hB : B < base) : OwnInts w' base v xs := World.ownsRow.kept h hg (.inr (fun e => by have := (World.ownsRow.lt h B e).1; omega))
theorem casc_hit {i q a : Nat} {D C : List Nat} (hi1 : 1 ≤ i) (hq0 : 0 < q) (hq : q ≤ 1000) (h1 : ch a i ≤ q) (h2 : q < ch (a + 1) i) (h : D ++ casc i q = C) : (D ++ [a]) ++ casc (i - 1) (q - ch a i) = C := by
  have hg := gr_unique hi1 hq0 hq h1 h2
  rw [← h]
  obtain ⟨I, rfl⟩ : ∃ I, i = I + 1 := ⟨i - 1, by omega⟩
  rw [casc, if_neg (by omega), hg, List.append_assoc]
  rfl
theorem casc_left {i q a : Nat} (hi1 : 1 ≤ i) (h1 : ch a i ≤ q) (h2 : q < ch (a + 1) i) : 0 < q - ch a i → 1 ≤ i - 1 ∧ i - 1 ≤ i - 1 ∧ ch (i - 1) (i - 1) ≤ q - ch a i := by
  intro h
  refine ⟨?_, Nat.le_refl _, by rw [ch_full]; exact h⟩
  rcases Nat.lt_or_ge i 2 with e | e
  · obtain rfl : i = 1 := by omega
    rw [ch_one] at h1 h2 h
    omega
  · omega

/-- What holds at the loop's head and at every jump. -/
def CInv (w : World) (CS : List Nat) (k A C M g0 i q a j : Nat) (D : List Nat) (aa : Option Addr) (cc l : Nat) (wr : World) : Prop :=
  i ≤ 6 ∧ q ≤ 1000 ∧ a ≤ 1000 ∧ (0 < q → 1 ≤ i ∧ i ≤ a ∧ ch a i ≤ q) ∧ D ++ casc i q = CS ∧ l + i = k ∧ D.length = l ∧ OwnInts wr g0 (.slice aa l cc) (ofN D) ∧ Rem wr A C M j ∧ j + 20 * (i * 2000 + (1006 - a)) ≤ 1000000 ∧ Below w.heap.size w wr ∧ g0 ≤ wr.heap.size
/-- The places of what the function made ahead of the loop. -/
def CPl (w : World) (A C M g0 : Nat) : Prop := w.heap.size ≤ M ∧ A < g0 ∧ C < g0 ∧ M < g0 ∧ w.heap.size ≤ g0
/-- The choice, asked of the closure. -/
def CAsk (A C M a i y j : Nat) (W : World) : Prop :=
  Calls Try.prog 73 #[.int .i64 (a : Int), .int .i64 (i : Int), .pointer (some ⟨A, 0, none⟩), .pointer (some ⟨C, 0, none⟩)] W fun e w' => e = .returned (.int .i64 (y : Int)) ∧ Rem w' A C M (j + 7) ∧ W.grownBy w' (some M)

theorem casc_stop {w wr : World} {CS : List Nat} {k A C M g0 i a j : Nat} {D : List Nat} {aa : Option Addr} {cc l : Nat} (h : CInv w CS k A C M g0 i 0 a j D aa cc l wr) (hp : CPl w A C M g0) : OwnInts wr w.heap.size (.slice aa l cc) (ofN CS) ∧ Below w.heap.size w wr := by
  obtain ⟨_, _, _, _, hD, _, _, hO, _, _, hB, _⟩ := h
  have : D = CS := by rw [← hD, casc_zero, List.append_nil]
  rw [← this]
  exact ⟨hO.lower hp.2.2.2.2, hB⟩
theorem casc_round {w wr : World} {CS : List Nat} {k A C M g0 i q a j : Nat} {D : List Nat} {aa : Option Addr} {cc l : Nat} (hq0 : 0 < q) (hk6 : k ≤ 6) (h : CInv w CS k A C M g0 i q a j D aa cc l wr) (hp : CPl w A C M g0) :
    ∃ y x, q ≤ 1000 ∧ a ≤ 1000 ∧ i ≤ 6 ∧ 1 ≤ i ∧ l ≤ 7 ∧ x ≤ q ∧ Hid (CAsk A C M (a + 1) i y j wr) ∧
      Hid (y ≤ q → a + 1 ≤ 1000 ∧ ∀ w2, Rem w2 A C M (j + 7) → wr.grownBy w2 (some M) → CInv w CS k A C M g0 i q (a + 1) (j + 7) D aa cc l w2) ∧
      Hid (∀ W, Rem W A C M (j + 7) → CAsk A C M a i x (j + 7) W) ∧
      Hid (∀ w2, wr.grownBy w2 (some M) → w2.ownsRow g0 3 1 (.slice aa l cc) l ((ofN D).map (Value.int .i64)) ∧ Below w.heap.size w w2 ∧ g0 ≤ w2.heap.size) ∧
      Hid (q < y → ∀ (w3 w4 : World) (a2 : Option Addr) (c2 : Nat), OwnInts w3 g0 (.slice a2 (l + 1) c2) (ofN (D ++ [a])) → Rem w4 A C M (j + 7 + 7) → w3.grownBy w4 (some M) → Below w.heap.size w w3 → g0 ≤ w3.heap.size → CInv w CS k A C M g0 (i - 1) (q - x) (i - 1) (j + 7 + 7) (D ++ [a]) a2 c2 (l + 1) w4) := by
  obtain ⟨hi6, hq, ha, hpos, hD, hli, hDl, hO, hR, hj, hB, hgs⟩ := h
  obtain ⟨hwM, hA, hC, hM, hwg⟩ := hp
  obtain ⟨hi1, hia, hca⟩ := hpos hq0
  obtain ⟨hgd, _, hgd2⟩ := good_up i a q hi1 hi6 hca hq
  refine ⟨ch (a + 1) i, ch a i, hq, ha, hi6, hi1, by omega, hca, Lib.hid ?_, Lib.hid ?_, Lib.hid ?_, Lib.hid ?_, Lib.hid ?_⟩
  · exact choose1_g A C M (a + 1) i j _ _ rfl rfl _ rfl wr (by omega) hgd (by omega) hR
  · intro hy
    have ha1 := (good_up i (a + 1) q hi1 hi6 hy hq).2.1
    refine ⟨ha1, fun w2 hR2 hg2 => ⟨hi6, hq, ha1, fun _ => ⟨hi1, by omega, hy⟩, hD, hli, hDl, hO.pastM hg2 hM, hR2, by omega, hB.trans (Mem.below_of_but hg2 hwM hB.size), Nat.le_trans hgs hg2.size⟩⟩
  · exact fun W hW => choose1_g A C M a i (j + 7) _ _ rfl rfl _ rfl W hia hgd2 (by omega) hW
  · intro w2 hg2
    refine ⟨?_, hB.trans (Mem.below_of_but hg2 hwM hB.size), Nat.le_trans hgs hg2.size⟩
    have h := hO.pastM hg2 hM
    unfold OwnInts at h
    rw [ofN_length, hDl] at h
    exact h
  · intro hy w3 w4 a2 c2 hO3 hR4 hg4 hB3 hg3
    exact ⟨by omega, by omega, by omega, casc_left hi1 hca hy, casc_hit hi1 hq0 hq hca hy hD, by omega, by rw [List.length_append, hDl]; rfl, hO3.pastM hg4 hM, hR4, by omega, hB3.trans (Mem.below_of_but hg4 hwM hB3.size), Nat.le_trans hg3 hg4.size⟩

theorem casc_len {w wr : World} {CS : List Nat} {k A C M g0 i q a j : Nat} {D : List Nat} {aa : Option Addr} {cc l : Nat} (h : CInv w CS k A C M g0 i q a j D aa cc l wr) (x : Nat) : (ofN (D ++ [x])).length = l + 1 := by
  rw [ofN_length, List.length_append, h.2.2.2.2.2.2.1]; rfl
theorem casc_own {w wr w3 : World} {CS : List Nat} {k A C M g0 i q a j : Nat} {D : List Nat} {aa : Option Addr} {cc l x : Nat} {v' : Value} (h : CInv w CS k A C M g0 i q a j D aa cc l wr) (ho : w3.ownsRow g0 3 1 v' (l + 1) ((ofN D).map (Value.int .i64) ++ [.int .i64 (x : Int)])) : OwnInts w3 g0 v' (ofN (D ++ [x])) := by
  rw [ofN_snoc]
  unfold OwnInts
  rw [List.length_append, List.map_append, ofN_length, h.2.2.2.2.2.2.1]
  exact ho

set_option maxRecDepth 1000000 in
set_option maxHeartbeats 8000000 in
theorem implCasc_in (m k : Nat) (hk1 : 1 ≤ k) (hk6 : k ≤ 6) (hm : m ≤ 1000) (w : World) :
    Calls Try.prog 48 #[.int .i64 (m : Int), .int .i64 (k : Int)] w fun e w' => ∃ v, e = .returned v ∧ OwnInts w' w.heap.size v (ofN (casc k m)) ∧ Below w.heap.size w w' := by
  obtain ⟨i0, hi, hz0, hz1, hz2⟩ := info_parts info_int
  have eg : ∀ args w, (callFunc 73 args).run Try.prog w = .ok (.enter 73 args) w := enters_of Try.func73 (by kernel_rfl) rfl
  obtain ⟨CS, hCS⟩ : ∃ CS, casc k m = CS := ⟨_, rfl⟩
  have HCS := Lib.hid hCS
  have HFINE : Hid (fineB (m : Int) (k : Int) = true) := by
    have : fineB (m : Int) (k : Int) = true := (fineB_iff _ _).2 (by omega)
    exact this
  have HFULL := Lib.hid (ch_full k)
  rw [hCS]
  clear hCS
  go_enter Try.func48, Try.ntmps48
  go_wp2
  refine wp_scope_jumps 0 (fun a' w' => ∃ (A C M g0 i q a j : Nat) (D : List Nat) (aa : Option Addr) (cc l : Nat) (u2 u3 u4 u8 u9 u10 u11 u12 u13 u14 u15 u16 u17 u18 u19 u20 u21 u22 u23 u24 u25 u26 u27 u28 u29 u30 u31 u32 u33 u34 u35 u36 u37 u38 : Value), a' = { tmps := #[.int .i64 (q : Int), .int .i64 (i : Int), u2, u3, u4, .func (.func 73) #[] #[.pointer (some ⟨A, 0, none⟩), .pointer (some ⟨C, 0, none⟩)], .slice aa l cc, .int .i64 (a : Int), u8, u9, u10, u11, u12, u13, u14, u15, u16, u17, u18, u19, u20, u21, u22, u23, u24, u25, u26, u27, u28, u29, u30, u31, u32, u33, u34, u35, u36, u37, u38], defers := [] } ∧ CPl w A C M g0 ∧ CInv w CS k A C M g0 i q a j D aa cc l w') (fun a' _ => (intOf (a'.tmps.getD 1 undef)).toNat * 2000 + (1006 - (intOf (a'.tmps.getD 7 undef)).toNat)) rfl ?_ ?_
  · go_wp2_with fail
    refine (hasCas_b (m : Int) (k : Int) true HFINE.out _).mono ?_
    rintro e w' ⟨rfl, rfl⟩
    go_wp2_with fail
    refine (remember_any _).mono ?_
    rintro e w1 ⟨A, C, M, rfl, hA, hC, hM, hR, hb⟩
    have hpl : CPl w A C M w1.heap.size := ⟨hM, hR.2.2.1, hR.2.2.2.1, hR.map.lt, hb.size⟩
    have hinv : CInv w CS k A C M w1.heap.size k m k 0 [] none 0 0 w1 := ⟨hk6, hm, by omega, fun h => ⟨hk1, Nat.le_refl _, by rw [HFULL.out]; exact h⟩, HCS.out, by omega, rfl, OwnInts.nil _ _, hR, by omega, hb, Nat.le_refl _⟩
    obtain ⟨g0, hg0⟩ : ∃ g0, w1.heap.size = g0 := ⟨_, rfl⟩
    rw [hg0] at hpl hinv
    have HI0 := Lib.hid hinv
    have HPL := Lib.hid hpl
    obtain ⟨B0, hB0⟩ : ∃ B0, k * 2000 + (1006 - k) = B0 := ⟨_, rfl⟩
    have HB0 := Lib.hid (Nat.le_of_eq hB0)
    unfold remV
    clear hA hC hM hR hb hpl hinv hg0 hB0
    go_wp2
    go_step3
    go_wp2
    go_loopw [0, 1, 6, 7] (fun mv kv v nv wr => ∃ (i q a j : Nat) (D : List Nat) (aa : Option Addr) (cc l : Nat), kv = .int .i64 (i : Int) ∧ mv = .int .i64 (q : Int) ∧ nv = .int .i64 (a : Int) ∧ v = .slice aa l cc ∧ CInv w CS k A C M g0 i q a j D aa cc l wr ∧ i * 2000 + (1006 - a) ≤ B0) (fun _ kv _ nv _ => (intOf kv).toNat * 2000 + (1006 - (intOf nv).toNat))
    case atStart => exact ⟨_, _, _, _, _, _, _, _, rfl, rfl, rfl, rfl, HI0.out, HB0.out⟩
    case round =>
      clear HI0 HB0
      obtain ⟨i, q, a, j, D, aa, cc, l, rfl, rfl, rfl, rfl, hinv, hmu⟩ := hrel
      have HI := Lib.hid hinv
      have HMU := Lib.hid hmu
      clear hinv hmu
      by_cases hq0 : q = 0
      · subst hq0
        have hst := casc_stop HI.out HPL.out
        have HST := Lib.hid hst
        clear hst
        go_wp2
        try simp only [Exit.jump]
        go_ret
        exact ⟨_, rfl, HST.out⟩
      · have hdq : decide (0 < q) = true := by simp; omega
        obtain ⟨y, x, hq, ha, hi6, hi1, hl7, hxq, HCALL, HJUMP, HCALL2, HROW, HHIT⟩ := casc_round (by omega : 0 < q) hk6 HI.out HPL.out
        have HC1 : Hid (Calls Try.prog 73 #[.int .i64 ((a : Int) + 1), .int .i64 (i : Int), .pointer (some ⟨A, 0, none⟩), .pointer (some ⟨C, 0, none⟩)] wr fun e w' => e = .returned (.int .i64 (y : Int)) ∧ Rem w' A C M (j + 7) ∧ wr.grownBy w' (some M)) := by
          have h := HCALL.out
          unfold CAsk at h
          rw [show ((a + 1 : Nat) : Int) = (a : Int) + 1 by omega] at h
          exact h
        have HC2 : Hid (∀ W, Rem W A C M (j + 7) → Calls Try.prog 73 #[.int .i64 (a : Int), .int .i64 (i : Int), .pointer (some ⟨A, 0, none⟩), .pointer (some ⟨C, 0, none⟩)] W fun e w' => e = .returned (.int .i64 (x : Int)) ∧ Rem w' A C M (j + 7 + 7) ∧ W.grownBy w' (some M)) := HCALL2
        clear hq0 HCALL HCALL2
        by_cases hyq : y ≤ q
        · have hdy : decide (y ≤ q) = true := by simpa using hyq
          obtain ⟨ha1, hJ0⟩ := HJUMP.out hyq
          have HJ := Lib.hid hJ0
          clear hJ0 HJUMP HHIT HROW
          go_wp2_with (go_at_fn 73; refine HC1.out.mono ?_; rintro e w2 ⟨rfl, hR2, hg2⟩)
          go_step3
          have hJ := HJ.out w2 hR2 hg2
          have HE : (a : Int) + 1 = ((a + 1 : Nat) : Int) := by omega
          rw [HE]
          refine ⟨rfl, A, C, M, g0, i, q, a + 1, j + 7, D, aa, cc, l, _, _, _, _, _, _, _, _, _, _, _, _, _, _, _, _, _, _, _, _, _, _, _, _, _, _, _, _, _, _, _, _, _, _, rfl, HPL.out, hJ⟩
        · have hdy : decide (y ≤ q) = false := by simpa using hyq
          have HH := Lib.hid (HHIT.out (by omega))
          clear HJUMP HHIT
          go_wp2_with (first
            | (go_at_fn 73; refine HC1.out.mono ?_; rintro e w2 ⟨rfl, hR2, hg2⟩; have hrow := HROW.out w2 hg2; have HR2 := Lib.hid hR2; have HO2 := Lib.hid hrow.1; have HB2 := Lib.hid hrow.2.1; have hsz := HB2.out.size; have hg02 := hrow.2.2; clear hR2 hg2 hrow)
            | (at_builtin; refine wpList_append_own_at _ rfl _ _ 26 rfl g0 3 i0 (.int .i64 0) 1 8 Try.underlying26 hi hz0 hz1 hz2 rfl (by decide) _ _ _ rfl (HO2.out.alloc _) ⟨w2.heap.size, 0, none⟩ 1 1 [.int .i64 (a : Int)] rfl rfl ?c1 ?c2 ?c3 ?c4 ?c5 ?_))
          case c1 => intro p u hp; exact Mem.cell_new w2 _ _ p u hp
          case c2 => intro u hu; simp at hu; subst hu; rfl
          case c3 => unfold maxLen; omega
          case c4 => omega
          case c5 => simp; omega
          intro v' w3 hown1 hgrow _ hob
          have hlt2 := fun g hg => (HO2.out.lt g hg).1
          obtain ⟨p1, p2, p3, p4, p5⟩ := HPL.out
          have hB3 : Below w.heap.size w w3 := (HB2.out.alloc hsz _).grown hgrow (by simp; omega) (fun g hg => by have := hlt2 g hg; omega)
          have hR3 : Rem w3 A C M (j + 7) := (HR2.out.keeps ((Below.refl _ _).alloc (Nat.le_refl _) _)).away hgrow (fun e => by have := hlt2 A e.symm; omega) (fun e => by have := hlt2 C e.symm; omega) (fun e => by have := hlt2 M e.symm; omega)
          have hg03 : g0 ≤ w3.heap.size := by have := hgrow.size; rw [World.size_alloc] at this; omega
          have hDN : (ofN (D ++ [a])).length = l + 1 := casc_len HI.out a
          have hO3 : OwnInts w3 g0 v' (ofN (D ++ [a])) := casc_own HI.out hown1
          obtain ⟨a2, c2, _, rfl, _⟩ := hO3.at
          rw [hDN] at hO3
          rw [hDN]
          have HO3 := Lib.hid hO3
          have HB3 := Lib.hid hB3
          have HR3 := Lib.hid hR3
          have HQI : Hid ((q : Int) - (x : Int) = ((q - x : Nat) : Int)) := by
            have : (q : Int) - (x : Int) = ((q - x : Nat) : Int) := by omega
            exact this
          have HII : Hid ((i : Int) - 1 = ((i - 1 : Nat) : Int)) := by
            have : (i : Int) - 1 = ((i - 1 : Nat) : Int) := by omega
            exact this
          clear hown1 hgrow hob hO3 hB3 hDN hR3 hlt2 HO2 HR2 HB2 hsz p1 p2 p3 p4 p5
          go_wp2_with (go_at_fn 73; refine (HC2.out _ HR3.out).mono ?_; rintro e w4 ⟨rfl, hR4, hg4⟩)
          have hI4 := HH.out w3 w4 a2 c2 HO3.out hR4 hg4 HB3.out hg03
          go_roundw
          case rel => exact ⟨i - 1, q - x, i - 1, j + 7 + 7, D ++ [a], a2, c2, l + 1, by rw [HII.out], by rw [HQI.out], by rw [HII.out], rfl, hI4, by have := HMU.out; omega⟩
          case measure => simp [intOf]; omega
  · rintro a' w1 ⟨A, C, M, g0, i1, q1, a1, j1, D1, aa1, cc1, l1, u2, u3, u4, u8, u9, u10, u11, u12, u13, u14, u15, u16, u17, u18, u19, u20, u21, u22, u23, u24, u25, u26, u27, u28, u29, u30, u31, u32, u33, u34, u35, u36, u37, u38, rfl, hpl, hinv⟩
    have HI0 := Lib.hid hinv
    have HPL := Lib.hid hpl
    obtain ⟨B0, hB0⟩ : ∃ B0, i1 * 2000 + (1006 - a1) = B0 := ⟨_, rfl⟩
    have HB0 := Lib.hid (Nat.le_of_eq hB0)
    have HB1 := Lib.hid hB0
    have hmu0 : (fun a' (_ : World) => (intOf ((a' : Act).tmps.getD 1 undef)).toNat * 2000 + (1006 - (intOf (a'.tmps.getD 7 undef)).toNat)) = fun a' (_ : World) => (intOf ((a' : Act).tmps.getD 1 undef)).toNat * 2000 + (1006 - (intOf (a'.tmps.getD 7 undef)).toNat) := rfl
    clear hpl hinv hB0 hmu0
    go_wp2
    go_loopw [0, 1, 6, 7] (fun mv kv v nv wr => ∃ (i q a j : Nat) (D : List Nat) (aa : Option Addr) (cc l : Nat), kv = .int .i64 (i : Int) ∧ mv = .int .i64 (q : Int) ∧ nv = .int .i64 (a : Int) ∧ v = .slice aa l cc ∧ CInv w CS k A C M g0 i q a j D aa cc l wr ∧ i * 2000 + (1006 - a) ≤ B0) (fun _ kv _ nv _ => (intOf kv).toNat * 2000 + (1006 - (intOf nv).toNat))
    case atStart => exact ⟨_, _, _, _, _, _, _, _, rfl, rfl, rfl, rfl, HI0.out, HB0.out⟩
    case round =>
      clear HI0 HB0
      obtain ⟨i, q, a, j, D, aa, cc, l, rfl, rfl, rfl, rfl, hinv, hmu⟩ := hrel
      have HI := Lib.hid hinv
      have HMU := Lib.hid hmu
      clear hinv hmu
      by_cases hq0 : q = 0
      · subst hq0
        have hst := casc_stop HI.out HPL.out
        have HST := Lib.hid hst
        clear hst
        go_wp2
        try simp only [Exit.jump]
        go_ret
        exact ⟨_, rfl, HST.out⟩
      · have hdq : decide (0 < q) = true := by simp; omega
        obtain ⟨y, x, hq, ha, hi6, hi1, hl7, hxq, HCALL, HJUMP, HCALL2, HROW, HHIT⟩ := casc_round (by omega : 0 < q) hk6 HI.out HPL.out
        have HC1 : Hid (Calls Try.prog 73 #[.int .i64 ((a : Int) + 1), .int .i64 (i : Int), .pointer (some ⟨A, 0, none⟩), .pointer (some ⟨C, 0, none⟩)] wr fun e w' => e = .returned (.int .i64 (y : Int)) ∧ Rem w' A C M (j + 7) ∧ wr.grownBy w' (some M)) := by
          have h := HCALL.out
          unfold CAsk at h
          rw [show ((a + 1 : Nat) : Int) = (a : Int) + 1 by omega] at h
          exact h
        have HC2 : Hid (∀ W, Rem W A C M (j + 7) → Calls Try.prog 73 #[.int .i64 (a : Int), .int .i64 (i : Int), .pointer (some ⟨A, 0, none⟩), .pointer (some ⟨C, 0, none⟩)] W fun e w' => e = .returned (.int .i64 (x : Int)) ∧ Rem w' A C M (j + 7 + 7) ∧ W.grownBy w' (some M)) := HCALL2
        clear hq0 HCALL HCALL2
        by_cases hyq : y ≤ q
        · have hdy : decide (y ≤ q) = true := by simpa using hyq
          obtain ⟨ha1, hJ0⟩ := HJUMP.out hyq
          have HJ := Lib.hid hJ0
          clear hJ0 HJUMP HHIT HROW
          go_wp2_with (go_at_fn 73; refine HC1.out.mono ?_; rintro e w2 ⟨rfl, hR2, hg2⟩)
          go_step3
          have hJ := HJ.out w2 hR2 hg2
          have HE : (a : Int) + 1 = ((a + 1 : Nat) : Int) := by omega
          rw [HE]
          refine ⟨rfl, ⟨A, C, M, g0, i, q, a + 1, j + 7, D, aa, cc, l, _, _, _, _, _, _, _, _, _, _, _, _, _, _, _, _, _, _, _, _, _, _, _, _, _, _, _, _, _, _, _, _, _, _, rfl, HPL.out, hJ⟩, ?_⟩
          have h1 := HMU.out
          have h2 := HB1.out
          simp [intOf]
          omega
        · have hdy : decide (y ≤ q) = false := by simpa using hyq
          have HH := Lib.hid (HHIT.out (by omega))
          clear HJUMP HHIT
          go_wp2_with (first
            | (go_at_fn 73; refine HC1.out.mono ?_; rintro e w2 ⟨rfl, hR2, hg2⟩; have hrow := HROW.out w2 hg2; have HR2 := Lib.hid hR2; have HO2 := Lib.hid hrow.1; have HB2 := Lib.hid hrow.2.1; have hsz := HB2.out.size; have hg02 := hrow.2.2; clear hR2 hg2 hrow)
            | (at_builtin; refine wpList_append_own_at _ rfl _ _ 26 rfl g0 3 i0 (.int .i64 0) 1 8 Try.underlying26 hi hz0 hz1 hz2 rfl (by decide) _ _ _ rfl (HO2.out.alloc _) ⟨w2.heap.size, 0, none⟩ 1 1 [.int .i64 (a : Int)] rfl rfl ?c1 ?c2 ?c3 ?c4 ?c5 ?_))
          case c1 => intro p u hp; exact Mem.cell_new w2 _ _ p u hp
          case c2 => intro u hu; simp at hu; subst hu; rfl
          case c3 => unfold maxLen; omega
          case c4 => omega
          case c5 => simp; omega
          intro v' w3 hown1 hgrow _ hob
          have hlt2 := fun g hg => (HO2.out.lt g hg).1
          obtain ⟨p1, p2, p3, p4, p5⟩ := HPL.out
          have hB3 : Below w.heap.size w w3 := (HB2.out.alloc hsz _).grown hgrow (by simp; omega) (fun g hg => by have := hlt2 g hg; omega)
          have hR3 : Rem w3 A C M (j + 7) := (HR2.out.keeps ((Below.refl _ _).alloc (Nat.le_refl _) _)).away hgrow (fun e => by have := hlt2 A e.symm; omega) (fun e => by have := hlt2 C e.symm; omega) (fun e => by have := hlt2 M e.symm; omega)
          have hg03 : g0 ≤ w3.heap.size := by have := hgrow.size; rw [World.size_alloc] at this; omega
          have hDN : (ofN (D ++ [a])).length = l + 1 := casc_len HI.out a
          have hO3 : OwnInts w3 g0 v' (ofN (D ++ [a])) := casc_own HI.out hown1
          obtain ⟨a2, c2, _, rfl, _⟩ := hO3.at
          rw [hDN] at hO3
          rw [hDN]
          have HO3 := Lib.hid hO3
          have HB3 := Lib.hid hB3
          have HR3 := Lib.hid hR3
          have HQI : Hid ((q : Int) - (x : Int) = ((q - x : Nat) : Int)) := by
            have : (q : Int) - (x : Int) = ((q - x : Nat) : Int) := by omega
            exact this
          have HII : Hid ((i : Int) - 1 = ((i - 1 : Nat) : Int)) := by
            have : (i : Int) - 1 = ((i - 1 : Nat) : Int) := by omega
            exact this
          clear hown1 hgrow hob hO3 hB3 hDN hR3 hlt2 HO2 HR2 HB2 hsz p1 p2 p3 p4 p5
          go_wp2_with (go_at_fn 73; refine (HC2.out _ HR3.out).mono ?_; rintro e w4 ⟨rfl, hR4, hg4⟩)
          have hI4 := HH.out w3 w4 a2 c2 HO3.out hR4 hg4 HB3.out hg03
          go_roundw
          case rel => exact ⟨i - 1, q - x, i - 1, j + 7 + 7, D ++ [a], a2, c2, l + 1, by rw [HII.out], by rw [HQI.out], by rw [HII.out], rfl, hI4, by have := HMU.out; omega⟩
          case measure => simp [intOf]; omega

set_option maxRecDepth 100000 in
theorem implCasc_any (m k : Int) (w : World) : Calls Try.prog 48 #[.int .i64 m, .int .i64 k] w fun e w' => ∃ v, e = .returned v ∧ OwnInts w' w.heap.size v (cascZ m k) ∧ Below w.heap.size w w' := by
  cases hF : fineB m k with
  | false =>
    have e : cascZ m k = [] := by unfold cascZ; rw [if_neg (by rw [hF]; simp)]
    rw [e]
    have HF := Lib.hid hF
    clear hF
    go_enter Try.func48, Try.ntmps48
    go_wp2
    go_step3
    go_wp2_with fail
    refine (hasCas_b m k false HF.out _).mono ?_
    rintro e w' ⟨rfl, rfl⟩
    go_wp2
    try rw [Exit.noGoto_ret]
    go_ret
    exact ⟨_, rfl, OwnInts.nil _ _, Below.refl _ _⟩
  | true =>
    have e : cascZ m k = ofN (casc k.toNat m.toNat) := by unfold cascZ; rw [if_pos hF]
    rw [e]
    obtain ⟨h0, h1, h2, h3⟩ := (fineB_iff m k).1 hF
    obtain ⟨M, rfl⟩ : ∃ M : Nat, m = (M : Int) := ⟨m.toNat, by omega⟩
    obtain ⟨K, rfl⟩ : ∃ K : Nat, k = (K : Int) := ⟨k.toNat, by omega⟩
    exact implCasc_in M K (by omega) (by omega) (by omega) w

end Go.Proofs.Ytmonaiojejbhkaa
