/-
  TEXTS of one claim, put together: WDrawCx6, WDrawCx7, WDrawNam3, WDrawNam4.
-/
import Derived.Test.YtbkkdgmiokdbmaaGreatJg38
import Derived.Test.YtbkkdgmiokdbmaaGreatJg15
import Derived.Test.YtbkkdgmiokdbmaaGreatDual3
/-! WALKS: a complex with a set that is often a face is drawn. -/

namespace Go.Proofs.YtbkkdgmiokdbmaaGreat
open Go.RowKit
open Sets

end Go.Proofs.YtbkkdgmiokdbmaaGreat

/-! WALKS: the draws of chapter 5. -/

namespace Go.Proofs.YtbkkdgmiokdbmaaGreat
open Go.RowKit
open Sets

theorem results_cell_cell {fn : Func} {p q : Tmp} {ty ty2 : TypeId} (h : fn.results = #[.cell p ty, .cell q ty2]) (tmps : Array Value) (P : Program) (w : World) :
    (results fn tmps).run P w =
      ((asAddr (tmps.getD p undef)).run P w).andThen fun a w₁ => ((loadVar ty a).run P w₁).andThen fun v w₂ => ((asAddr (tmps.getD q undef)).run P w₂).andThen fun a2 w₃ => ((loadVar ty2 a2).run P w₃).andThen fun v2 w₄ => .ok (.tuple #[v, v2]) w₄ := by
  simp only [results, h]
  simp [Sem.run_bind, Result.andThen]

/-- Two complexes are handed back. -/
theorem ret_cxcx {fn : Func} {p q : Tmp} {R : Ending → World → Prop} {a : Act} {w : World} {x y x2 y2 : Value} (b d : Nat) (h : fn.results = #[.cell p 26, .cell q 26]) (hp : a.tmps.getD p undef = .pointer (some ⟨b, 0, none⟩)) (hq : a.tmps.getD q undef = .pointer (some ⟨d, 0, none⟩))
    (h0 : w.cell? ⟨b, 0, none⟩ = some x) (h1 : w.cell? ⟨b, 1, none⟩ = some y) (g0 : w.cell? ⟨d, 0, none⟩ = some x2) (g1 : w.cell? ⟨d, 1, none⟩ = some y2) (hd : a.defers = []) (hR : R (.returned (.tuple #[.agg #[x, y], .agg #[x2, y2]])) w) : bodyPost Tryz.prog fn R .ret a w :=
  bodyPost_ret (by rw [results_cell_cell h, hp, hq]; simp [asAddr, Result.andThen, cx_load w b x y h0 h1, cx_load w d x2 y2 g0 g1]) hd hR

def Drawn22 (w : World) (e : Ending) (w' : World) : Prop :=
  ∃ (N M : Int) (v u : Value) (xs ys : List Int), e = .returned (.tuple #[cx N v, cx M u]) ∧ xs.length ≤ 449 ∧ ys.length ≤ 449 ∧ OwnInts w' w.heap.size v xs ∧ OwnInts w' w.heap.size u ys ∧ Below w.heap.size w w'

theorem l1Min_any (a b : Int) (w : World) : Calls Tryz.prog 32 #[.int .i64 a, .int .i64 b] w fun e w' => e = .returned (.int .i64 (if a < b then a else b)) ∧ w = w' := by
  by_cases h : a < b
  · rw [if_pos h]
    go_enter Tryz.func32, Tryz.ntmps32
    go_wp2
    go_ret
    exact ⟨rfl, rfl⟩
  · rw [if_neg h]
    go_enter Tryz.func32, Tryz.ntmps32
    go_wp2
    go_ret
    exact ⟨rfl, rfl⟩

theorem l1Max_any (a b : Int) (w : World) : Calls Tryz.prog 31 #[.int .i64 a, .int .i64 b] w fun e w' => e = .returned (.int .i64 (if b < a then a else b)) ∧ w = w' := by
  by_cases h : b < a
  · rw [if_pos h]
    go_enter Tryz.func31, Tryz.ntmps31
    go_wp2
    go_ret
    exact ⟨rfl, rfl⟩
  · rw [if_neg h]
    go_enter Tryz.func31, Tryz.ntmps31
    go_wp2
    go_ret
    exact ⟨rfl, rfl⟩

theorem Two.cells {w : World} {b : Nat} {x y : Value} (h : Two w b x y) : b < w.heap.size := h.1

end Go.Proofs.YtbkkdgmiokdbmaaGreat

/-! WALKS: the draws of chapter 9: DrawRenameSet, DrawRenameComplex (written by gendrawnam.py). -/

namespace Go.Proofs.YtbkkdgmiokdbmaaGreat
open Go.RowKit
open Sets Nam

theorem OwnInts.bare {w : World} {base g l c : Nat} {xs : List Int} (h : OwnInts w base (.slice (some ⟨g, 0, none⟩) l c) xs) (hl : xs.length = l) (z : Int) : OwnInts (w.setCell ⟨g, 0, none⟩ (.int .i64 z)) base (.slice (some ⟨g, 0, none⟩) l c) (xs.set 0 z) := by
  subst hl; exact h.set0 z
theorem own_some {w : World} {base q : Nat} {v : Value} {xs : List Int} (h : OwnInts w base v xs) (hl : xs.length = q) (hq : 0 < q) : ∃ g c, v = .slice (some ⟨g, 0, none⟩) q c ∧ base ≤ g ∧ g < w.heap.size := by
  unfold OwnInts at h
  rw [hl] at h
  exact h.form hq
theorem pow_arg (q : Nat) (hq : q < 7) : wrap64 (wrap64 (2 ^ q) + 1) = ((2 ^ q + 1 : Nat) : Int) := by
  have hqq : q = 0 ∨ q = 1 ∨ q = 2 ∨ q = 3 ∨ q = 4 ∨ q = 5 ∨ q = 6 := by omega
  rcases hqq with rfl | rfl | rfl | rfl | rfl | rfl | rfl <;> simp [wrap64]


def DrawnNms (w : World) (e : Ending) (w' : World) : Prop :=
  ∃ (s : Int) (v : Value) (xs : List Int), e = .returned (.tuple #[.int .i64 s, v]) ∧ xs.length ≤ 6 ∧ OwnInts w' w.heap.size v xs ∧ Below w.heap.size w w'

set_option maxRecDepth 100000 in
set_option maxHeartbeats 8000000 in
theorem drawRenSet_any (a : Option Addr) (n c : Nat) (hn : n ≤ 140737488355328) (w : World) (hc : Code w a n) :
    Calls Tryz.prog 8 #[.slice a n c] w fun e w' => DrawnNms w e w' := by
  have HC := Lib.hid hc
  clear hc
  go_enter Tryz.func8, Tryz.ntmps8
  go_wp2_with fail
  refine (new_any a n c hn _ HC.out).mono ?_
  rintro e w1 ⟨rfl, hcur, hz1, hb1⟩
  obtain ⟨BB, hBBe⟩ : ∃ BB, w.heap.size = BB := ⟨_, rfl⟩
  have HBE := Lib.hid hBBe
  have hbl1 : w.heap.size ≤ BB := by omega
  have hbl2 : BB ≤ w.heap.size := by omega
  rw [hBBe] at hcur
  rw [hBBe]
  have HOLD := Lib.hid hcur.old
  have K1 := Lib.hid hcur
  have B1 := Lib.hid hb1
  have hBw : BB < w1.heap.size := by omega
  clear hcur hb1
  go_wp2_with fail
  refine (below_lit BB a n c hn _ 7 rfl (by omega) (by omega) _ K1.out).mono ?_
  rintro e w2 ⟨q, hq, rfl, hd⟩
  have K2 := Lib.hid hd.1
  have hs2 := hd.2.size
  have B2 : Hid (Below w.heap.size w w2) := B1.out.trans (Mem.below_of_but hd.2 (by omega) (by omega))
  clear hd K1 B1
  go_wp2_with fail
  refine (shuffle_any a n c hn q (by omega) BB w2 (by omega) K2.out).mono ?_
  rintro e w3 ⟨nv, ns, rfl, hN, hO, hK, hG⟩
  have K3 := Lib.hid hK
  have hs3 := hG.size
  have HL : Hid ((Zs ns).length = q) := (Zs_len ns).trans hN.len
  have B3 : Hid (Below w.heap.size w w3) := B2.out.trans (Mem.below_of_but hG (by omega) (by omega))
  have hBB : BB < w2.heap.size := by omega
  have O3 := Lib.hid hO
  clear hN hO hK hG K2 B2 hBBe
  by_cases hq0 : 0 < q
  · obtain ⟨g, cap, rfl, hgb, hgw⟩ := own_some O3.out HL.out hq0
    have hqp : decide ((0 : Int) < (q : Int)) = true := decide_eq_true (by omega)
    go_wp2_with fail
    refine (once_b BB a n c hn _ 10 rfl (by omega) (by omega) _ K3.out).mono ?_
    rintro e w4 ⟨b, rfl, hd⟩
    have K4 := Lib.hid hd.1
    have O4 := Lib.hid (O3.out.away hd.2 hBB)
    have hs4 := hd.2.size
    have B4 : Hid (Below w.heap.size w w4) := B3.out.trans (Mem.below_of_but hd.2 (by omega) (by have := B3.out.size; omega))
    clear hd
    cases b with
    | true =>
      have hb5 : Below w4.heap.size w4 (w4.alloc (.cells #[.int .i64 (-1), .int .i64 0, .int .i64 6] 3)) := (Below.refl _ _).alloc (Nat.le_refl _) _
      have K5 := Lib.hid (K4.out.keeps (by omega) hb5)
      have O5 := Lib.hid (O4.out.keeps hb5)
      have R5 : Hid (IntRow (w4.alloc (.cells #[.int .i64 (-1), .int .i64 0, .int .i64 6] 3)) w4.heap.size 0 [-1, 0, 6]) := row_ints w4 [-1, 0, 6] 3
      have hz5 : (w4.alloc (.cells #[.int .i64 (-1), .int .i64 0, .int .i64 6] 3)).heap.size = w4.heap.size + 1 := by simp
      have HZ5 := Lib.hid hz5
      have B5 : Hid (Below w.heap.size w (w4.alloc (.cells #[.int .i64 (-1), .int .i64 0, .int .i64 6] 3))) := B4.out.alloc B4.out.size _
      clear hb5 hz5
      go_wp2_with fail
      refine (pickInt_any BB a n c hn w4.heap.size 0 3 [-1, 0, 6] (by decide) (by decide) _ K5.out (by omega) R5.out).mono ?_
      rintro e w6 ⟨rr, hrr, rfl, hd⟩
      obtain ⟨x, hx⟩ : ∃ x, ([-1, 0, 6] : List Int).getD rr 0 = x := ⟨_, rfl⟩
      rw [hx]
      clear hx
      have K6 := Lib.hid hd.1
      have O6 := Lib.hid (O5.out.away hd.2 hBB)
      have hs6 : w4.heap.size + 1 ≤ w6.heap.size := by have h := hd.2.size; rw [HZ5.out] at h; exact h
      have B6 : Hid (Below w.heap.size w w6) := B5.out.trans (Mem.below_of_but hd.2 (by omega) (by rw [HZ5.out]; omega))
      obtain ⟨-, -, hi6, -⟩ := O6.out.known
      obtain ⟨-, -, n2, n4⟩ := hi6 0 (by rw [HL.out]; exact hq0)
      have O7 := Lib.hid (O6.out.bare HL.out x)
      have HL7 : Hid (((Zs ns).set 0 x).length = q) := by
        have : ((Zs ns).set 0 x).length = q := by rw [List.length_set]; exact HL.out
        exact this
      have hb7 : Below g w6 (w6.setCell ⟨g, 0, none⟩ (.int .i64 x)) := (Below.refl _ _).setCell (p := ⟨g, 0, none⟩) (Nat.le_refl _) _
      have K7 := Lib.hid (K6.out.below (b := g) (by omega) hb7 (fun j hj g0 o0 e0 => by have := HOLD.out j hj g0 o0 e0; omega))
      have B7 : Hid (Below w.heap.size w (w6.setCell ⟨g, 0, none⟩ (.int .i64 x))) := B6.out.trans (hb7.mono (by omega))
      have hs7 : (w6.setCell ⟨g, 0, none⟩ (.int .i64 x)).heap.size = w6.heap.size := by simp [World.setCell]
      have HS7 := Lib.hid hs7
      obtain ⟨x0, hx0⟩ : ∃ x0, (Zs ns).getD 0 0 = x0 := ⟨_, rfl⟩
      rw [hx0] at n2
      clear hd hi6 hb7 hx0 hs7
      have HWS : Hid (w.heap.size = BB) := HBE.out
      go_wp2_with fail
      refine (below_lit BB a n c hn _ (2 ^ q + 1) (pow_arg q (by omega)) (Nat.succ_pos _) (by have h := Nat.pow_le_pow_right (n := 2) (by decide) (show q ≤ 6 by omega); omega) _ K7.out).mono ?_
      rintro e w8 ⟨r8, hr8, rfl, hd⟩
      have K8 := Lib.hid hd.1
      have O8 := Lib.hid (O7.out.away hd.2 hBB)
      have B8 : Hid (Below w.heap.size w w8) := B7.out.trans (Mem.below_of_but hd.2 (by have := HWS.out; omega) (by have := B7.out.size; omega))
      have hs8 := hd.2.size
      clear hd
      go_wp2_with fail
      refine (once_b BB a n c hn _ 12 rfl (by omega) (by omega) _ K8.out).mono ?_
      rintro e w9 ⟨b9, rfl, hd⟩
      have O9 := Lib.hid (O8.out.away hd.2 hBB)
      have B9 : Hid (Below w.heap.size w w9) := B8.out.trans (Mem.below_of_but hd.2 (by have := HWS.out; omega) B8.out.size)
      clear hd
      go_wp2_with fail
      refine (l1Bit_b b9 _).mono ?_
      rintro e w10 ⟨rfl, rfl⟩
      go_wp2
      all_goals
        go_ret2
        exact ⟨_, _, ((Zs ns).set 0 x), rfl, by rw [HL7.out]; omega, O9.out.lower (by have := HWS.out; omega), B9.out⟩
    | false =>
      have HWS : Hid (w.heap.size = BB) := HBE.out
      go_wp2_with fail
      refine (below_lit BB a n c hn _ (2 ^ q + 1) (pow_arg q (by omega)) (Nat.succ_pos _) (by have h := Nat.pow_le_pow_right (n := 2) (by decide) (show q ≤ 6 by omega); omega) _ K4.out).mono ?_
      rintro e w8 ⟨r8, hr8, rfl, hd⟩
      have K8 := Lib.hid hd.1
      have O8 := Lib.hid (O4.out.away hd.2 hBB)
      have B8 : Hid (Below w.heap.size w w8) := B4.out.trans (Mem.below_of_but hd.2 (by have := HWS.out; omega) (by have := B4.out.size; omega))
      have hs8 := hd.2.size
      clear hd
      go_wp2_with fail
      refine (once_b BB a n c hn _ 12 rfl (by omega) (by omega) _ K8.out).mono ?_
      rintro e w9 ⟨b9, rfl, hd⟩
      have O9 := Lib.hid (O8.out.away hd.2 hBB)
      have B9 : Hid (Below w.heap.size w w9) := B8.out.trans (Mem.below_of_but hd.2 (by have := HWS.out; omega) B8.out.size)
      clear hd
      go_wp2_with fail
      refine (l1Bit_b b9 _).mono ?_
      rintro e w10 ⟨rfl, rfl⟩
      go_wp2
      all_goals
        go_ret2
        exact ⟨_, _, (Zs ns), rfl, by rw [HL.out]; omega, O9.out.lower (by have := HWS.out; omega), B9.out⟩
  · have hqp : decide ((0 : Int) < (q : Int)) = false := decide_eq_false (by omega)
    obtain ⟨av, cv, gv, hnv, -, hgv, -⟩ := OwnInts.atc O3.out
    have hl0 : (Zs ns).length = 0 := by rw [HL.out]; omega
    rw [hl0] at hnv
    subst hnv
    have K4 := K3
    have O4 := O3
    have B4 := B3
    have HWS : Hid (w.heap.size = BB) := HBE.out
    go_wp2_with fail
    refine (below_lit BB a n c hn _ (2 ^ q + 1) (pow_arg q (by omega)) (Nat.succ_pos _) (by have h := Nat.pow_le_pow_right (n := 2) (by decide) (show q ≤ 6 by omega); omega) _ K4.out).mono ?_
    rintro e w8 ⟨r8, hr8, rfl, hd⟩
    have K8 := Lib.hid hd.1
    have O8 := Lib.hid (O4.out.away hd.2 hBB)
    have B8 : Hid (Below w.heap.size w w8) := B4.out.trans (Mem.below_of_but hd.2 (by have := HWS.out; omega) (by have := B4.out.size; omega))
    have hs8 := hd.2.size
    clear hd
    go_wp2_with fail
    refine (once_b BB a n c hn _ 12 rfl (by omega) (by omega) _ K8.out).mono ?_
    rintro e w9 ⟨b9, rfl, hd⟩
    have O9 := Lib.hid (O8.out.away hd.2 hBB)
    have B9 : Hid (Below w.heap.size w w9) := B8.out.trans (Mem.below_of_but hd.2 (by have := HWS.out; omega) B8.out.size)
    clear hd
    go_wp2_with fail
    refine (l1Bit_b b9 _).mono ?_
    rintro e w10 ⟨rfl, rfl⟩
    go_wp2
    all_goals
      go_ret2
      exact ⟨_, _, (Zs ns), rfl, by rw [HL.out]; omega, O9.out.lower (by have := HWS.out; omega), B9.out⟩


def DrawnRen (w : World) (e : Ending) (w' : World) : Prop :=
  ∃ (N : Int) (v u : Value) (xs ys : List Int), e = .returned (.tuple #[cx N v, u]) ∧ xs.length ≤ 449 ∧ ys.length ≤ 6 ∧ OwnInts w' w.heap.size v xs ∧ OwnInts w' w.heap.size u ys ∧ Below w.heap.size w w'

set_option maxRecDepth 100000 in
set_option maxHeartbeats 8000000 in
theorem drawRenC_any (a : Option Addr) (n c : Nat) (hn : n ≤ 140737488355328) (w : World) (hc : Code w a n) :
    Calls Tryz.prog 5 #[.slice a n c] w fun e w' => DrawnRen w e w' := by
  have hb0 : Below w.heap.size w (w.alloc (.cells #[.int .i64 0, .slice none 0 0] 26)) := (Below.refl _ _).alloc (Nat.le_refl _) _
  have HC0 := Lib.hid (hc.keeps hb0)
  have HB0 := Lib.hid hb0
  have HT0 := Lib.hid (Two.new w (.int .i64 0) (.slice none 0 0) 26)
  clear hc hb0
  go_enter Tryz.func5, Tryz.ntmps5
  go_wp2_with fail
  refine (new_any a n c hn _ HC0.out).mono ?_
  rintro e w1 ⟨rfl, hcur, hz1, hb1⟩
  simp only [World.size_alloc] at hcur hz1
  obtain ⟨BB, hBBe⟩ : ∃ BB, w.heap.size + 1 = BB := ⟨_, rfl⟩
  rw [hBBe] at hcur hz1
  try rw [World.size_alloc]
  try rw [hBBe]
  have hbl1 : w.heap.size + 1 ≤ BB := by omega
  have hbl2 : BB ≤ w.heap.size + 1 := by omega
  clear hBBe
  have HOLD := Lib.hid hcur.old
  have K1 := Lib.hid hcur
  have B1 : Hid (Below w.heap.size w w1) := HB0.out.trans (hb1.mono (by simp))
  have T1 := Lib.hid (HT0.out.keeps hb1)
  clear hcur hb1 HC0 HB0 HT0
  go_wp2_with fail
  refine (l3Bent_any a n c hn BB w1 hz1 K1.out).mono ?_
  rintro e w2 ⟨N, v, xs, rfl, hl, hO, hK, hG⟩
  obtain ⟨a5, c5, g5, rfl, hc5, hg5, hr5, _⟩ := OwnInts.ata hO hG.size
  have hb2 : Below w2.heap.size w2 (w2.alloc (.cells #[.int .i64 N, .slice a5 xs.length c5] 26)) := (Below.refl _ _).alloc (Nat.le_refl _) _
  have hs2 := hG.size
  have F2 := Lib.hid (hO.keeps hb2)
  have HGF : Hid (∀ b, (Value.slice a5 xs.length c5).ownBlock = some b → b < w2.heap.size) := fun b e => (World.ownsRow.lt hO b e).2
  have K2 := Lib.hid (hK.keeps (by omega) hb2)
  have T2 := Lib.hid ((Two.far T1.out hG (by omega)).keeps hb2)
  have X2 := Lib.hid (Two.new w2 (.int .i64 N) (.slice a5 xs.length c5) 26)
  have hz2 : (w2.alloc (.cells #[.int .i64 N, .slice a5 xs.length c5] 26)).heap.size = w2.heap.size + 1 := by simp
  have HZ2 := Lib.hid hz2
  have B2 : Hid (Below w.heap.size w (w2.alloc (.cells #[.int .i64 N, .slice a5 xs.length c5] 26))) := (B1.out.trans (Mem.below_of_but hG (by omega) (by omega))).alloc (by have := B1.out.size; omega) _
  obtain ⟨q, hqe, hq6⟩ : ∃ q : Nat, (if (if 6 < N then 6 else N) < 0 then 0 else (if 6 < N then 6 else N)) = (q : Int) ∧ q ≤ 6 := by
    by_cases h6 : 6 < N
    · exact ⟨6, by rw [if_pos h6]; rfl, by omega⟩
    · rw [if_neg h6]
      by_cases h0 : N < 0
      · exact ⟨0, by rw [if_pos h0]; rfl, by omega⟩
      · exact ⟨N.toNat, by rw [if_neg h0]; omega, by omega⟩
  obtain ⟨mn, hmn⟩ : ∃ mn, (if 6 < N then 6 else N) = mn := ⟨_, rfl⟩
  rw [hmn] at hqe
  have HMIN : Hid (∀ W, Calls Tryz.prog 32 #[.int .i64 6, .int .i64 N] W fun e w' => e = .returned (.int .i64 mn) ∧ W = w') := fun W => by rw [← hmn]; exact l1Min_any 6 N W
  have HMAX : Hid (∀ W, Calls Tryz.prog 31 #[.int .i64 0, .int .i64 mn] W fun e w' => e = .returned (.int .i64 (q : Int)) ∧ W = w') := fun W => by rw [← hqe]; exact l1Max_any 0 mn W
  clear hmn
  obtain ⟨bx, hbx⟩ : ∃ bx, w2.heap.size = bx := ⟨_, rfl⟩
  rw [hbx] at X2
  obtain ⟨t0, t1, t2, t3, t4⟩ := X2.out
  clear hO hK hG hr5 hb2 K1 T1 B1 hqe hz2
  go_wp2_with fail
  refine (HMIN.out _).mono ?_
  rintro e w2b ⟨rfl, rfl⟩
  go_wp2_with fail
  refine (HMAX.out _).mono ?_
  rintro e w2b ⟨rfl, rfl⟩
  go_wp2_with fail
  refine (shuffle_any a n c hn q hq6 BB _ (by rw [HZ2.out]; omega) K2.out).mono ?_
  rintro e w3 ⟨nv, ns, rfl, hN, hO, hK, hG⟩
  have K3 := Lib.hid hK
  have hs3 : w2.heap.size + 1 ≤ w3.heap.size := by have h := hG.size; rw [HZ2.out] at h; exact h
  have HL : Hid ((Zs ns).length = q) := (Zs_len ns).trans hN.len
  have B3 : Hid (Below w.heap.size w w3) := B2.out.trans (Mem.below_of_but hG (by omega) (by have := B2.out.size; omega))
  have F3 := Lib.hid (F2.out.away hG (by omega))
  have T3 := Lib.hid (Two.far T2.out hG (by omega))
  have X3 := Lib.hid (Two.far X2.out hG (by omega))
  rw [HZ2.out] at hO
  have O3 := Lib.hid hO
  have hBB : BB < w2.heap.size + 1 := by omega
  clear hN hO hK hG K2 B2 F2 T2 X2 t0 t1 t2 t3 t4
  try rw [hbx]
  by_cases hq0 : 0 < q
  · obtain ⟨g, cap, rfl, hgb, hgw⟩ := own_some O3.out HL.out hq0
    have hqp : decide ((0 : Int) < (q : Int)) = true := decide_eq_true (by omega)
    go_wp2_with fail
    refine (once_b BB a n c hn _ 10 rfl (by omega) (by omega) _ K3.out).mono ?_
    rintro e w4 ⟨b, rfl, hd⟩
    have K4 := Lib.hid hd.1
    have O4 := Lib.hid (O3.out.away hd.2 hBB)
    have hs4 := hd.2.size
    have F4 := Lib.hid (F3.out.away hd.2 (by omega))
    have T4 := Lib.hid (Two.far T3.out hd.2 (by omega))
    have X4 := Lib.hid (Two.far X3.out hd.2 (by omega))
    have B4 : Hid (Below w.heap.size w w4) := B3.out.trans (Mem.below_of_but hd.2 (by omega) (by have := B3.out.size; omega))
    clear hd
    cases b with
    | true =>
      have hb5 : Below w4.heap.size w4 (w4.alloc (.cells #[.int .i64 (-1), .int .i64 0, .int .i64 6] 3)) := (Below.refl _ _).alloc (Nat.le_refl _) _
      have K5 := Lib.hid (K4.out.keeps (by omega) hb5)
      have O5 := Lib.hid (O4.out.keeps hb5)
      have F5 := Lib.hid (F4.out.keeps hb5)
      have T5 := Lib.hid (T4.out.keeps hb5)
      have X5 := Lib.hid (X4.out.keeps hb5)
      have R5 : Hid (IntRow (w4.alloc (.cells #[.int .i64 (-1), .int .i64 0, .int .i64 6] 3)) w4.heap.size 0 [-1, 0, 6]) := row_ints w4 [-1, 0, 6] 3
      have hz5 : (w4.alloc (.cells #[.int .i64 (-1), .int .i64 0, .int .i64 6] 3)).heap.size = w4.heap.size + 1 := by simp
      have HZ5 := Lib.hid hz5
      have B5 : Hid (Below w.heap.size w (w4.alloc (.cells #[.int .i64 (-1), .int .i64 0, .int .i64 6] 3))) := B4.out.alloc B4.out.size _
      clear hb5 hz5
      go_wp2_with fail
      refine (pickInt_any BB a n c hn w4.heap.size 0 3 [-1, 0, 6] (by decide) (by decide) _ K5.out (by omega) R5.out).mono ?_
      rintro e w6 ⟨rr, hrr, rfl, hd⟩
      obtain ⟨x, hx⟩ : ∃ x, ([-1, 0, 6] : List Int).getD rr 0 = x := ⟨_, rfl⟩
      rw [hx]
      clear hx
      have K6 := Lib.hid hd.1
      have O6 := Lib.hid (O5.out.away hd.2 hBB)
      have hs6 : w4.heap.size + 1 ≤ w6.heap.size := by have h := hd.2.size; rw [HZ5.out] at h; exact h
      have F6 := Lib.hid (F5.out.away hd.2 (by omega))
      have T6 := Lib.hid (Two.far T5.out hd.2 (by omega))
      have X6 := Lib.hid (Two.far X5.out hd.2 (by omega))
      have B6 : Hid (Below w.heap.size w w6) := B5.out.trans (Mem.below_of_but hd.2 (by omega) (by rw [HZ5.out]; omega))
      obtain ⟨-, -, hi6, -⟩ := O6.out.known
      obtain ⟨-, -, n2, n4⟩ := hi6 0 (by rw [HL.out]; exact hq0)
      have O7 := Lib.hid (O6.out.bare HL.out x)
      have HL7 : Hid (((Zs ns).set 0 x).length = q) := by
        have : ((Zs ns).set 0 x).length = q := by rw [List.length_set]; exact HL.out
        exact this
      have hb7 : Below g w6 (w6.setCell ⟨g, 0, none⟩ (.int .i64 x)) := (Below.refl _ _).setCell (p := ⟨g, 0, none⟩) (Nat.le_refl _) _
      have K7 := Lib.hid (K6.out.below (b := g) (by omega) hb7 (fun j hj g0 o0 e0 => by have := HOLD.out j hj g0 o0 e0; omega))
      have F7 := Lib.hid (OwnInts.setNe (b := g) F6.out (fun e => by have := HGF.out _ e; omega) 0 (.int .i64 x))
      have T7 := Lib.hid (Two.under T6.out hb7 (by omega))
      have X7 := Lib.hid (Two.under X6.out hb7 (by omega))
      have B7 : Hid (Below w.heap.size w (w6.setCell ⟨g, 0, none⟩ (.int .i64 x))) := B6.out.trans (hb7.mono (by omega))
      have hs7 : (w6.setCell ⟨g, 0, none⟩ (.int .i64 x)).heap.size = w6.heap.size := by simp [World.setCell]
      have HS7 := Lib.hid hs7
      obtain ⟨x0, hx0⟩ : ∃ x0, (Zs ns).getD 0 0 = x0 := ⟨_, rfl⟩
      rw [hx0] at n2
      clear hd hi6 hb7 hx0 hs7
      obtain ⟨t0, t1, t2, t3, t4⟩ := X7.out
      obtain ⟨r0, r1, r2, r3, r4⟩ := T7.out
      go_wp2_with fail
      refine ret_cx2 w.heap.size rfl rfl rfl (x := .int .i64 N) (y := .slice a5 xs.length c5) (by go_simp) (by go_simp) rfl ?_
      exact ⟨N, _, _, xs, ((Zs ns).set 0 x), rfl, hl, by rw [HL7.out]; exact hq6, (OwnInts.set (OwnInts.set F7.out _ _ _ (by omega)) _ _ _ (by omega)).lower (by omega), (OwnInts.set (OwnInts.set O7.out _ _ _ (by omega)) _ _ _ (by omega)).lower (by omega), (B7.out.setCell (Nat.le_refl _) _).setCell (Nat.le_refl _) _⟩
    | false =>
      obtain ⟨t0, t1, t2, t3, t4⟩ := X4.out
      obtain ⟨r0, r1, r2, r3, r4⟩ := T4.out
      go_wp2_with fail
      refine ret_cx2 w.heap.size rfl rfl rfl (x := .int .i64 N) (y := .slice a5 xs.length c5) (by go_simp) (by go_simp) rfl ?_
      exact ⟨N, _, _, xs, (Zs ns), rfl, hl, by rw [HL.out]; exact hq6, (OwnInts.set (OwnInts.set F4.out _ _ _ (by omega)) _ _ _ (by omega)).lower (by omega), (OwnInts.set (OwnInts.set O4.out _ _ _ (by omega)) _ _ _ (by omega)).lower (by omega), (B4.out.setCell (Nat.le_refl _) _).setCell (Nat.le_refl _) _⟩
  · have hqp : decide ((0 : Int) < (q : Int)) = false := decide_eq_false (by omega)
    obtain ⟨av, cv, gv, hnv, -, hgv, -⟩ := OwnInts.atc O3.out
    have hl0 : (Zs ns).length = 0 := by rw [HL.out]; omega
    rw [hl0] at hnv
    subst hnv
    have F4 := F3
    have T4 := T3
    have X4 := X3
    have K4 := K3
    have O4 := O3
    have B4 := B3
    obtain ⟨t0, t1, t2, t3, t4⟩ := X4.out
    obtain ⟨r0, r1, r2, r3, r4⟩ := T4.out
    go_wp2_with fail
    refine ret_cx2 w.heap.size rfl rfl rfl (x := .int .i64 N) (y := .slice a5 xs.length c5) (by go_simp) (by go_simp) rfl ?_
    exact ⟨N, _, _, xs, (Zs ns), rfl, hl, by rw [HL.out]; exact hq6, (OwnInts.set (OwnInts.set F4.out _ _ _ (by omega)) _ _ _ (by omega)).lower (by omega), (OwnInts.set (OwnInts.set O4.out _ _ _ (by omega)) _ _ _ (by omega)).lower (by omega), (B4.out.setCell (Nat.le_refl _) _).setCell (Nat.le_refl _) _⟩

end Go.Proofs.YtbkkdgmiokdbmaaGreat

/-! WALKS: the draws of chapter 9: DrawAreAlike (written by gendrawnam4.py). -/

namespace Go.Proofs.YtbkkdgmiokdbmaaGreat
open Go.RowKit
open Sets Nam

theorem OwnInts.intsOf {w : World} {base : Nat} {a : Option Addr} {l c : Nat} {xs : List Int} (h : OwnInts w base (.slice a l c) xs) : Ints w a xs := by
  obtain ⟨a', c', g, hv, _, _, hI⟩ := h.atc
  obtain ⟨rfl, -, -⟩ := Value.slice.inj hv
  exact hI.ints

set_option maxRecDepth 100000 in
set_option maxHeartbeats 8000000 in
theorem drawAlike_any (a : Option Addr) (n c : Nat) (hn : n ≤ 140737488355328) (w : World) (hc : Code w a n) :
    Calls Tryz.prog 14 #[.slice a n c] w fun e w' => Drawn22 w e w' := by
  have hb0 : Below w.heap.size w ((w.alloc (.cells #[.int .i64 0, .slice none 0 0] 26)).alloc (.cells #[.int .i64 0, .slice none 0 0] 26)) := ((Below.refl _ _).alloc (Nat.le_refl _) _).alloc (by simp) _
  have HC0 := Lib.hid (hc.keeps hb0)
  have HB0 := Lib.hid hb0
  have HT0 := Lib.hid ((Two.new w (.int .i64 0) (.slice none 0 0) 26).alloc (.cells #[.int .i64 0, .slice none 0 0] 26))
  have hu := Two.new (w.alloc (.cells #[.int .i64 0, .slice none 0 0] 26)) (.int .i64 0) (.slice none 0 0) 26
  obtain ⟨bb, hbb⟩ : ∃ bb, w.heap.size + 1 = bb := ⟨_, rfl⟩
  rw [World.size_alloc, hbb] at hu
  have HU0 := Lib.hid hu
  clear hc hb0 hu
  go_enter Tryz.func14, Tryz.ntmps14
  go_wp2_with fail
  try rw [hbb]
  refine (new_any a n c hn _ HC0.out).mono ?_
  rintro e w1 ⟨rfl, hcur, hz1, hb1⟩
  simp only [World.size_alloc, hbb] at hcur hz1
  obtain ⟨BB, hBBe⟩ : ∃ BB, bb + 1 = BB := ⟨_, rfl⟩
  rw [hBBe] at hcur hz1
  try rw [World.size_alloc, World.size_alloc, hbb, hBBe]
  try rw [World.size_alloc, hbb, hBBe]
  try rw [hbb, hBBe]
  try rw [hBBe]
  have HOLD := Lib.hid hcur.old
  have K1 := Lib.hid hcur
  have B1 : Hid (Below w.heap.size w w1) := HB0.out.trans (hb1.mono (by simp; omega))
  have T1 := Lib.hid (HT0.out.keeps hb1)
  have U1 := Lib.hid (HU0.out.keeps hb1)
  have hq1 : w.heap.size < bb := by omega
  have hq2 : bb < BB := by omega
  clear hcur hb1 HC0 HB0 HT0 HU0 hbb hBBe
  go_wp2_with fail
  refine (few_any a n c hn BB w1 hz1 K1.out).mono ?_
  rintro e w2 ⟨N, v, xs, rfl, hl, hO, hK, hG⟩
  obtain ⟨a5, c5, g5, rfl, hc5, hg5, hr5, _⟩ := OwnInts.ata hO hG.size
  have hb2 : Below w2.heap.size w2 (w2.alloc (.cells #[.int .i64 N, .slice a5 xs.length c5] 26)) := (Below.refl _ _).alloc (Nat.le_refl _) _
  have hs2 := hG.size
  have O2 := Lib.hid ((OwnInts.lower hO (show BB + 1 ≤ w1.heap.size by omega)).keeps hb2)
  have K2 := Lib.hid (hK.keeps (by omega) hb2)
  have T2 := Lib.hid ((Two.far T1.out hG (by omega)).keeps hb2)
  have U2 := Lib.hid ((Two.far U1.out hG (by omega)).keeps hb2)
  have hx2 := Two.new w2 (.int .i64 N) (.slice a5 xs.length c5) 26
  have hz2 : (w2.alloc (.cells #[.int .i64 N, .slice a5 xs.length c5] 26)).heap.size = w2.heap.size + 1 := by simp
  have HZ2 := Lib.hid hz2
  have B2 : Hid (Below w.heap.size w (w2.alloc (.cells #[.int .i64 N, .slice a5 xs.length c5] 26))) := (B1.out.trans (Mem.below_of_but hG (by omega) (by omega))).alloc (by have := B1.out.size; omega) _
  obtain ⟨bx, hbx⟩ : ∃ bx, w2.heap.size = bx := ⟨_, rfl⟩
  rw [hbx] at hx2
  have X2 := Lib.hid hx2
  have hq3 : BB < bx := by omega
  obtain ⟨t0, t1, t2, t3, t4⟩ := X2.out
  clear hO hK hG hr5 hb2 K1 T1 U1 B1 hz2 hx2
  go_wp2_with fail
  try rw [hbx]
  refine (once_b BB a n c hn _ 3 rfl (by omega) (by omega) _ K2.out).mono ?_
  rintro e w3 ⟨b, rfl, hd⟩
  have K3 := Lib.hid hd.1
  have O3 := Lib.hid (O2.out.away hd.2 (by omega))
  have T3 := Lib.hid (Two.far T2.out hd.2 (by omega))
  have U3 := Lib.hid (Two.far U2.out hd.2 (by omega))
  have X3 := Lib.hid (Two.far X2.out hd.2 (by omega))
  have B3 : Hid (Below w.heap.size w w3) := B2.out.trans (Mem.below_of_but hd.2 (by omega) (by rw [HZ2.out]; omega))
  have hs3 : bx + 1 ≤ w3.heap.size := by have h := hd.2.size; rw [HZ2.out] at h; omega
  clear hd K2 O2 T2 U2 X2 B2 HZ2 t0 t1 t2 t3 t4 hbx hs2 hg5
  cases b with
  | true =>
    obtain ⟨s0, s1, s2, s3, s4⟩ := T3.out
    obtain ⟨r0, r1, r2, r3, r4⟩ := U3.out
    obtain ⟨x0, x1, x2, x3, x4⟩ := X3.out
    have HCALL := Lib.hid (few_any a n c hn BB w3.drew (by show BB < w3.heap.size; omega) K3.out.drw)
    go_wp2_with fail
    go_region_law (go_simp; go_at_call 46; refine HCALL.out.mono ?_; rintro e w6 ⟨M, u, ys, rfl, hly, hOy, hKy, hGy⟩; obtain ⟨a6, c6, g6, rfl, hc6, hg6, hr6, _⟩ := OwnInts.ata hOy hGy.size; have O6 := Lib.hid (O3.out.away (w := w3.drew) hGy (by omega)); have P6 := Lib.hid (OwnInts.lower hOy (show BB + 1 ≤ w3.drew.heap.size by show BB + 1 ≤ w3.heap.size; omega)); have B6 : Hid (Below w.heap.size w w6) := B3.out.drew.trans (Mem.below_of_but hGy (by omega) (by show w.heap.size ≤ w3.heap.size; omega)); have hs6 : w3.heap.size ≤ w6.heap.size := hGy.size; obtain ⟨s0, s1, s2, s3, s4⟩ := Two.far (w := w3.drew) T3.out hGy (by omega); obtain ⟨r0, r1, r2, r3, r4⟩ := Two.far (w := w3.drew) U3.out hGy (by omega); obtain ⟨x0, x1, x2, x3, x4⟩ := Two.far (w := w3.drew) X3.out hGy (by omega); clear hOy hKy hGy hr6)
    all_goals
      go_wp2
      first
      | refine ret_cxcx w.heap.size bb rfl rfl rfl (x := .int .i64 N) (y := .slice a5 xs.length c5) (x2 := .int .i64 M) (y2 := .slice a6 ys.length c6) (by go_simp) (by go_simp) (by go_simp) (by go_simp) rfl ?_
      exact ⟨N, M, _, _, xs, ys, rfl, hl, hly, (OwnInts.set (OwnInts.set (OwnInts.set (OwnInts.set O6.out _ _ _ (by omega)) _ _ _ (by omega)) _ _ _ (by omega)) _ _ _ (by omega)).lower (by omega), (OwnInts.set (OwnInts.set (OwnInts.set (OwnInts.set P6.out _ _ _ (by omega)) _ _ _ (by omega)) _ _ _ (by omega)) _ _ _ (by omega)).lower (by omega), ((((B6.out.setCell (by dsimp only; omega) _).setCell (by dsimp only; omega) _).setCell (by dsimp only; omega) _).setCell (by dsimp only; omega) _)⟩
  | false =>
    obtain ⟨t0, t1, t2, t3, t4⟩ := X3.out
    go_wp2_with fail
    refine (specIsC_any N a5 c5 xs (by omega) _ O3.out.intsOf).mono ?_
    rintro e w4 ⟨rfl, hb4⟩
    have K4 := Lib.hid (K3.out.keeps (by omega) hb4)
    have O4 := Lib.hid (O3.out.keeps hb4)
    have T4 := Lib.hid (T3.out.keeps hb4)
    have U4 := Lib.hid (U3.out.keeps hb4)
    have X4 := Lib.hid (X3.out.keeps hb4)
    have B4 : Hid (Below w.heap.size w w4) := B3.out.trans (hb4.mono (by omega))
    have hs4 := hb4.size
    obtain ⟨g, hgE⟩ : ∃ g, isC N xs = g := ⟨_, rfl⟩
    have HISC0 := Lib.hid hgE
    rw [hgE]
    clear hb4 K3 O3 T3 U3 X3 B3 t0 t1 t2 t3 t4 hgE
    cases g with
    | false =>
      obtain ⟨s0, s1, s2, s3, s4⟩ := T4.out
      obtain ⟨r0, r1, r2, r3, r4⟩ := U4.out
      obtain ⟨x0, x1, x2, x3, x4⟩ := X4.out
      have HCALL := Lib.hid (few_any a n c hn BB w4.drew (by show BB < w4.heap.size; omega) K4.out.drw)
      go_wp2_with fail
      go_region_law (go_simp; go_at_call 46; refine HCALL.out.mono ?_; rintro e w6 ⟨M, u, ys, rfl, hly, hOy, hKy, hGy⟩; obtain ⟨a6, c6, g6, rfl, hc6, hg6, hr6, _⟩ := OwnInts.ata hOy hGy.size; have O6 := Lib.hid (O4.out.away (w := w4.drew) hGy (by omega)); have P6 := Lib.hid (OwnInts.lower hOy (show BB + 1 ≤ w4.drew.heap.size by show BB + 1 ≤ w4.heap.size; omega)); have B6 : Hid (Below w.heap.size w w6) := B4.out.drew.trans (Mem.below_of_but hGy (by omega) (by show w.heap.size ≤ w4.heap.size; omega)); have hs6 : w4.heap.size ≤ w6.heap.size := hGy.size; obtain ⟨s0, s1, s2, s3, s4⟩ := Two.far (w := w4.drew) T4.out hGy (by omega); obtain ⟨r0, r1, r2, r3, r4⟩ := Two.far (w := w4.drew) U4.out hGy (by omega); obtain ⟨x0, x1, x2, x3, x4⟩ := Two.far (w := w4.drew) X4.out hGy (by omega); clear hOy hKy hGy hr6)
      all_goals
        go_wp2
        first
        | refine ret_cxcx w.heap.size bb rfl rfl rfl (x := .int .i64 N) (y := .slice a5 xs.length c5) (x2 := .int .i64 M) (y2 := .slice a6 ys.length c6) (by go_simp) (by go_simp) (by go_simp) (by go_simp) rfl ?_
        exact ⟨N, M, _, _, xs, ys, rfl, hl, hly, (OwnInts.set (OwnInts.set (OwnInts.set (OwnInts.set O6.out _ _ _ (by omega)) _ _ _ (by omega)) _ _ _ (by omega)) _ _ _ (by omega)).lower (by omega), (OwnInts.set (OwnInts.set (OwnInts.set (OwnInts.set P6.out _ _ _ (by omega)) _ _ _ (by omega)) _ _ _ (by omega)) _ _ _ (by omega)).lower (by omega), ((((B6.out.setCell (by dsimp only; omega) _).setCell (by dsimp only; omega) _).setCell (by dsimp only; omega) _).setCell (by dsimp only; omega) _)⟩
    | true =>
      obtain ⟨m, hNm, hm1, hm6⟩ := isC_cast HISC0.out
      subst hNm
      have HISC := Lib.hid HISC0.out
      obtain ⟨s0, s1, s2, s3, s4⟩ := T4.out
      obtain ⟨r0, r1, r2, r3, r4⟩ := U4.out
      obtain ⟨x0, x1, x2, x3, x4⟩ := X4.out
      have HCALL := Lib.hid (shuffle_any a n c hn m hm6 BB w4.drew (by show BB < w4.heap.size; omega) K4.out.drw)
      have HCX := Lib.hid (fun (W : World) (h : Ints W a5 xs) (b2 : Option Addr) (c2 : Nat) (ns : List Nat) (hN : Names m ns) (hb : Ints W b2 (Zs ns)) => l9Complex_any (m : Int) a5 c5 xs b2 c2 (Zs ns) m (Nms.of_names hm1 hm6 hN) (isC_ok HISC.out) (isC_le HISC.out) W h hb)
      go_wp2_with fail
      go_region_law (first
        | (go_simp; go_at_call 30; refine HCALL.out.mono ?_; rintro e w6 ⟨nv, ns, rfl, hN, hOy, hKy, hGy⟩; obtain ⟨a6, c6, g6, hnv, hc6, hg6, hr6, _⟩ := OwnInts.ata hOy hGy.size; rw [(Zs_len ns).trans hN.len] at hnv; subst hnv; have O6 := Lib.hid (O4.out.away (w := w4.drew) hGy (by omega)); have I6 := Lib.hid hr6.ints; have NS := Lib.hid hN; have B6 : Hid (Below w.heap.size w w6) := B4.out.drew.trans (Mem.below_of_but hGy (by omega) (by show w.heap.size ≤ w4.heap.size; omega)); have hs6 : w4.heap.size ≤ w6.heap.size := hGy.size; have T6 := Lib.hid (Two.far (w := w4.drew) T4.out hGy (by omega)); have U6 := Lib.hid (Two.far (w := w4.drew) U4.out hGy (by omega)); have X6 := Lib.hid (Two.far (w := w4.drew) X4.out hGy (by omega)); obtain ⟨s0, s1, s2, s3, s4⟩ := T6.out; obtain ⟨r0, r1, r2, r3, r4⟩ := U6.out; obtain ⟨x0, x1, x2, x3, x4⟩ := X6.out; clear hN hOy hKy hGy hr6)
        | (go_simp; go_at_call 39; refine (HCX.out w6 O6.out.intsOf _ _ ns NS.out I6.out).mono ?_; rintro e w7 ⟨u, rfl, hOy, hb7⟩; rw [toN_Zs] at hOy; have hly : (renL ns xs).length ≤ 449 := by rw [renL_length NS.out HISC.out]; exact hl
           generalize renL ns xs = ys at *; obtain ⟨a7, c7, g7, rfl, hc7, hg7, hr7, _⟩ := OwnInts.ata hOy hb7.size; have O7 := Lib.hid (O6.out.keeps hb7); have P7 := Lib.hid (OwnInts.lower hOy (show BB + 1 ≤ w6.heap.size by omega)); have B7 : Hid (Below w.heap.size w w7) := B6.out.trans (hb7.mono (by omega)); have hs7 := hb7.size; obtain ⟨s0, s1, s2, s3, s4⟩ := T6.out.keeps hb7; obtain ⟨r0, r1, r2, r3, r4⟩ := U6.out.keeps hb7; obtain ⟨x0, x1, x2, x3, x4⟩ := X6.out.keeps hb7; clear hOy hb7 hr7))
      all_goals
        go_wp2
        first
        | refine ret_cxcx w.heap.size bb rfl rfl rfl (x := .int .i64 (m : Int)) (y := .slice a5 xs.length c5) (x2 := .int .i64 (m : Int)) (y2 := .slice a7 ys.length c7) (by go_simp) (by go_simp) (by go_simp) (by go_simp) rfl ?_
        exact ⟨(m : Int), (m : Int), _, _, xs, ys, rfl, hl, hly, (OwnInts.set (OwnInts.set (OwnInts.set (OwnInts.set O7.out _ _ _ (by omega)) _ _ _ (by omega)) _ _ _ (by omega)) _ _ _ (by omega)).lower (by omega), (OwnInts.set (OwnInts.set (OwnInts.set (OwnInts.set P7.out _ _ _ (by omega)) _ _ _ (by omega)) _ _ _ (by omega)) _ _ _ (by omega)).lower (by omega), ((((B7.out.setCell (by dsimp only; omega) _).setCell (by dsimp only; omega) _).setCell (by dsimp only; omega) _).setCell (by dsimp only; omega) _)⟩

end Go.Proofs.YtbkkdgmiokdbmaaGreat
