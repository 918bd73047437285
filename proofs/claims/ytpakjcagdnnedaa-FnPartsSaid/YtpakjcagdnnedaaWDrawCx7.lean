/-
  WALKS: the draws of chapter 5.
-/
import Derived.Test.YtpakjcagdnnedaaDrawB
import Derived.Test.YtpakjcagdnnedaaWCnt1
namespace Go.Proofs.Ytpakjcagdnnedaa
open Go.RowKit
open Sets

set_option maxRecDepth 100000 in
set_option maxHeartbeats 4000000 in
theorem drawSkeleton_any (a : Option Addr) (n c : Nat) (hn : n ≤ 140737488355328) (w : World) (hc : Code w a n) :
    Calls Try.prog 19 #[.slice a n c] w fun e w' => Drawn2 w e w' := by
  have hb0 : Below w.heap.size w (w.alloc (.cells #[.int .i64 0, .slice none 0 0] 26)) := (Below.refl _ _).alloc (Nat.le_refl _) _
  have HC0 := Lib.hid (hc.keeps hb0)
  have HB0 := Lib.hid hb0
  have HT0 := Lib.hid (Two.new w (.int .i64 0) (.slice none 0 0) 26)
  clear hc hb0
  go_enter Try.func19, Try.ntmps19
  go_wp2_with fail
  refine (new_any a n c hn _ HC0.out).mono ?_
  rintro e w1 ⟨rfl, hcur, hz1, hb1⟩
  simp only [World.size_alloc] at hcur hz1
  have K1 := Lib.hid hcur
  have B1 : Hid (Below w.heap.size w w1) := HB0.out.trans (hb1.mono (by simp))
  have T1 := Lib.hid (Two.keeps HT0.out hb1)
  clear hcur hb1 HC0 HB0 HT0
  go_wp2_with fail
  refine (l3Bent_any a n c hn (w.heap.size + 1) w1 hz1 K1.out).mono ?_
  rintro e w2 ⟨N, v, xs, rfl, hl, hO, hK, hG⟩
  obtain ⟨a5, c5, g5, rfl, hc5, hg5, hr5, _⟩ := OwnInts.ata hO hG.size
  have hs2 := hG.size
  have hnb := hO.own_lt w2.heap.size (Nat.le_refl _)
  have hba : Below w2.heap.size w2 (w2.alloc (.cells #[.int .i64 N, .slice a5 xs.length c5] 26)) := (Below.refl _ _).alloc (Nat.le_refl _) _
  have ho := OwnInts.lower (hO.alloc (.cells #[.int .i64 N, .slice a5 xs.length c5] 26)) (show w.heap.size + 2 ≤ w1.heap.size by omega)
  have hb : Below w.heap.size w (w2.alloc (.cells #[.int .i64 N, .slice a5 xs.length c5] 26)) := (B1.out.trans (Mem.below_of_but hG (by omega) (by omega))).trans (hba.mono (by omega))
  have ht := Two.keeps (Two.far T1.out hG (by omega)) hba
  have hx := Two.new w2 (.int .i64 N) (.slice a5 xs.length c5) 26
  have hk := hK.keeps (by omega) hba
  have hs3 : (w2.alloc (.cells #[.int .i64 N, .slice a5 xs.length c5] 26)).heap.size = w2.heap.size + 1 := by simp
  go_wp2_with fail
  generalize w2.alloc (.cells #[.int .i64 N, .slice a5 xs.length c5] 26) = w3 at *
  have HO := Lib.hid ho
  have HB := Lib.hid hb
  have HT := Lib.hid ht
  have HX := Lib.hid hx
  have HK := Lib.hid hk
  have HNB := Lib.hid hnb
  obtain ⟨t0, t1, t2, t3, t4⟩ := ht
  obtain ⟨x0, x1, x2, x3, x4⟩ := hx
  clear hO hK hG hr5 K1 T1 B1 hba ho hb hk hnb
  have hwb : w.heap.size ≠ w2.heap.size := by omega
  have hbw : w2.heap.size ≠ w.heap.size := by omega
  go_region_law (first | (go_simp; go_at_call 51; refine (below_lit (w.heap.size + 1) a n c hn _ 9 (by decide) (by decide) (by decide) _ (by first | exact HK.out.drw | exact HK.out)).mono ?_; rintro e w4 ⟨q, hq, rfl, hd⟩; have O4 := Lib.hid (OwnInts.away (show OwnInts w3.drew _ _ _ from HO.out) hd.2 (by omega)); have hT4 := Two.far (show Two w3.drew _ _ _ from HT.out) hd.2 (by omega); have hX4 := Two.far (show Two w3.drew _ _ _ from HX.out) hd.2 (by omega); have B4 : Hid (Below w.heap.size w w4) := HB.out.drew.trans (Mem.below_of_but hd.2 (by omega) HB.out.drew.size); obtain ⟨s0, s1, s2, s3, s4⟩ := hT4; obtain ⟨y0, y1, y2, y3, y4⟩ := hX4; clear hd))
  all_goals
    go_wp2
    refine ret_cx2 w.heap.size rfl rfl rfl (x := .int .i64 N) (y := .slice a5 xs.length c5) (by go_simp) (by go_simp) rfl ?_
    exact ⟨N, _, xs, _, rfl, hl, (OwnInts.set (OwnInts.set O4.out _ _ _ (by omega)) _ _ _ (by omega)).lower (by omega), (B4.out.setCell (by simp) _).setCell (by simp) _⟩

set_option maxRecDepth 100000 in
set_option maxHeartbeats 4000000 in
theorem drawStar_any (a : Option Addr) (n c : Nat) (hn : n ≤ 140737488355328) (w : World) (hc : Code w a n) :
    Calls Try.prog 12 #[.slice a n c] w fun e w' => Drawn2 w e w' := by
  have hb0 : Below w.heap.size w (w.alloc (.cells #[.int .i64 0, .slice none 0 0] 26)) := (Below.refl _ _).alloc (Nat.le_refl _) _
  have HC0 := Lib.hid (hc.keeps hb0)
  have HB0 := Lib.hid hb0
  have HT0 := Lib.hid (Two.new w (.int .i64 0) (.slice none 0 0) 26)
  clear hc hb0
  go_enter Try.func12, Try.ntmps12
  go_wp2_with fail
  refine (l3Case_any a n c hn _ HC0.out).mono ?_
  rintro e w2 ⟨N, v, xs, k, rfl, hl, hO, hb⟩
  simp only [World.size_alloc] at hO
  have hs2 := hb.size
  simp only [World.size_alloc] at hs2
  obtain ⟨a5, c5, g5, rfl, hc5, hg5, hr5, _⟩ := OwnInts.ata hO hs2
  have O2 := Lib.hid hO
  have B2 : Hid (Below w.heap.size w w2) := HB0.out.trans (hb.mono (by simp))
  obtain ⟨t0, t1, t2, t3, t4⟩ := Two.keeps HT0.out hb
  clear hO hb hr5 HC0 HB0 HT0
  go_wp2
  refine ret_cx2 w.heap.size rfl rfl rfl (x := .int .i64 N) (y := .slice a5 xs.length c5) (by go_simp) (by go_simp) rfl ?_
  exact ⟨N, _, xs, _, rfl, hl, ((OwnInts.set (OwnInts.set O2.out _ _ _ (by omega)) _ _ _ (by omega)).lower (by omega)).alloc _, ((B2.out.setCell (by simp) _).setCell (by simp) _).alloc (by simp [World.setCell]; omega) _⟩

theorem results_cell_cell {fn : Func} {p q : Tmp} {ty ty2 : TypeId} (h : fn.results = #[.cell p ty, .cell q ty2]) (tmps : Array Value) (P : Program) (w : World) :
    (results fn tmps).run P w =
      ((asAddr (tmps.getD p undef)).run P w).andThen fun a w₁ => ((loadVar ty a).run P w₁).andThen fun v w₂ => ((asAddr (tmps.getD q undef)).run P w₂).andThen fun a2 w₃ => ((loadVar ty2 a2).run P w₃).andThen fun v2 w₄ => .ok (.tuple #[v, v2]) w₄ := by
  simp only [results, h]
  simp [Sem.run_bind, Result.andThen]

/-- Two complexes are handed back. -/
theorem ret_cxcx {fn : Func} {p q : Tmp} {R : Ending → World → Prop} {a : Act} {w : World} {x y x2 y2 : Value} (b d : Nat) (h : fn.results = #[.cell p 26, .cell q 26]) (hp : a.tmps.getD p undef = .pointer (some ⟨b, 0, none⟩)) (hq : a.tmps.getD q undef = .pointer (some ⟨d, 0, none⟩))
    (h0 : w.cell? ⟨b, 0, none⟩ = some x) (h1 : w.cell? ⟨b, 1, none⟩ = some y) (g0 : w.cell? ⟨d, 0, none⟩ = some x2) (g1 : w.cell? ⟨d, 1, none⟩ = some y2) (hd : a.defers = []) (hR : R (.returned (.tuple #[.agg #[x, y], .agg #[x2, y2]])) w) : bodyPost Try.prog fn R .ret a w :=
  bodyPost_ret (by rw [results_cell_cell h, hp, hq]; simp [asAddr, Result.andThen, cx_load w b x y h0 h1, cx_load w d x2 y2 g0 g1]) hd hR

def Drawn22 (w : World) (e : Ending) (w' : World) : Prop :=
  ∃ (N M : Int) (v u : Value) (xs ys : List Int), e = .returned (.tuple #[cx N v, cx M u]) ∧ xs.length ≤ 449 ∧ ys.length ≤ 449 ∧ OwnInts w' w.heap.size v xs ∧ OwnInts w' w.heap.size u ys ∧ Below w.heap.size w w'

theorem l1Min_any (a b : Int) (w : World) : Calls Try.prog 60 #[.int .i64 a, .int .i64 b] w fun e w' => e = .returned (.int .i64 (if a < b then a else b)) ∧ w = w' := by
  by_cases h : a < b
  · rw [if_pos h]
    go_enter Try.func60, Try.ntmps60
    go_wp2
    go_ret
    exact ⟨rfl, rfl⟩
  · rw [if_neg h]
    go_enter Try.func60, Try.ntmps60
    go_wp2
    go_ret
    exact ⟨rfl, rfl⟩

theorem l1Max_any (a b : Int) (w : World) : Calls Try.prog 59 #[.int .i64 a, .int .i64 b] w fun e w' => e = .returned (.int .i64 (if b < a then a else b)) ∧ w = w' := by
  by_cases h : b < a
  · rw [if_pos h]
    go_enter Try.func59, Try.ntmps59
    go_wp2
    go_ret
    exact ⟨rfl, rfl⟩
  · rw [if_neg h]
    go_enter Try.func59, Try.ntmps59
    go_wp2
    go_ret
    exact ⟨rfl, rfl⟩

theorem Two.cells {w : World} {b : Nat} {x y : Value} (h : Two w b x y) : b < w.heap.size := h.1

set_option maxRecDepth 100000 in
set_option maxHeartbeats 8000000 in
theorem l5Two_any (a : Option Addr) (n c : Nat) (hn : n ≤ 140737488355328) (w : World) (hc : Code w a n) :
    Calls Try.prog 65 #[.slice a n c] w fun e w' => Drawn22 w e w' := by
  have hb0 : Below w.heap.size w ((w.alloc (.cells #[.int .i64 0, .slice none 0 0] 26)).alloc (.cells #[.int .i64 0, .slice none 0 0] 26)) := ((Below.refl _ _).alloc (Nat.le_refl _) _).alloc (by simp) _
  have HC0 := Lib.hid (hc.keeps hb0)
  have HB0 := Lib.hid hb0
  have HT0 := Lib.hid ((Two.new w (.int .i64 0) (.slice none 0 0) 26).alloc (.cells #[.int .i64 0, .slice none 0 0] 26))
  have hu := Two.new (w.alloc (.cells #[.int .i64 0, .slice none 0 0] 26)) (.int .i64 0) (.slice none 0 0) 26
  obtain ⟨bb, hbb⟩ : ∃ bb, w.heap.size + 1 = bb := ⟨_, rfl⟩
  rw [World.size_alloc, hbb] at hu
  have HU0 := Lib.hid hu
  clear hc hb0 hu
  go_enter Try.func65, Try.ntmps65
  go_wp2_with fail
  try rw [hbb]
  refine (new_any a n c hn _ HC0.out).mono ?_
  rintro e w1 ⟨rfl, hcur, hz1, hb1⟩
  simp only [World.size_alloc] at hcur hz1
  rw [hbb] at hcur hz1
  try rw [World.size_alloc, World.size_alloc, hbb]
  have K1 := Lib.hid hcur
  have B1 : Hid (Below w.heap.size w w1) := HB0.out.trans (hb1.mono (by simp; omega))
  have T1 := Lib.hid (Two.keeps HT0.out hb1)
  have U1 := Lib.hid (Two.keeps HU0.out hb1)
  clear hcur hb1 HC0 HB0 HT0 HU0
  go_wp2_with fail
  refine (l3Bent_any a n c hn (bb + 1) w1 hz1 K1.out).mono ?_
  rintro e w2 ⟨N, v, xs, rfl, hl, hO, hK, hG⟩
  obtain ⟨a5, c5, g5, rfl, hc5, hg5, hr5, _⟩ := OwnInts.ata hO hG.size
  have hs2 := hG.size
  have hba : Below w2.heap.size w2 (w2.alloc (.cells #[.int .i64 N, .slice a5 xs.length c5] 26)) := (Below.refl _ _).alloc (Nat.le_refl _) _
  have ho := OwnInts.lower (hO.alloc (.cells #[.int .i64 N, .slice a5 xs.length c5] 26)) (show bb + 2 ≤ w1.heap.size by omega)
  have hb : Below w.heap.size w (w2.alloc (.cells #[.int .i64 N, .slice a5 xs.length c5] 26)) := (B1.out.trans (Mem.below_of_but hG (by omega) B1.out.size)).trans (hba.mono (by omega))
  have ht := Two.keeps (Two.far T1.out hG (by omega)) hba
  have hu := Two.keeps (Two.far U1.out hG (by omega)) hba
  have hx := Two.new w2 (.int .i64 N) (.slice a5 xs.length c5) 26
  have hk := hK.keeps (by omega) hba
  obtain ⟨bx, hbx⟩ : ∃ bx, w2.heap.size = bx := ⟨_, rfl⟩
  have hbxl : bb + 1 < bx := by omega
  rw [hbx] at hx
  go_wp2_with fail
  try rw [hbx]
  generalize w2.alloc (.cells #[.int .i64 N, .slice a5 xs.length c5] 26) = w3 at *
  have O3 := Lib.hid ho
  have B3 := Lib.hid hb
  have T3 := Lib.hid ht
  have U3 := Lib.hid hu
  have X3 := Lib.hid hx
  have K3 := Lib.hid hk
  clear hO hK hG hr5 K1 T1 U1 B1 hba ho hb ht hu hx hk hbx hs2
  refine (once_b (bb + 1) a n c hn _ 8 rfl (by omega) (by omega) _ K3.out).mono ?_
  rintro e w5 ⟨b, rfl, hd⟩
  have K5 := Lib.hid hd.1
  have O5 := Lib.hid (OwnInts.away O3.out hd.2 (by omega))
  have T5 := Lib.hid (Two.far T3.out hd.2 (by omega))
  have U5 := Lib.hid (Two.far U3.out hd.2 (by omega))
  have X5 := Lib.hid (Two.far X3.out hd.2 (by omega))
  have B5 : Hid (Below w.heap.size w w5) := B3.out.trans (Mem.below_of_but hd.2 (by omega) B3.out.size)
  have hs5 : bx < w5.heap.size := X5.out.1
  clear hd K3 O3 T3 U3 X3 B3
  obtain ⟨x0, x1, x2, x3, x4⟩ := X5.out
  have q1 : w.heap.size ≠ bb := by omega
  have q2 : w.heap.size ≠ bx := by omega
  have q3 : bb ≠ bx := by omega
  cases b with
  | true =>
    go_wp2_with fail
    go_region_law (first | (go_simp; go_at_call 50; refine (l3Bent_any a n c hn (bb + 1) _ (by first | omega | (simp; omega)) (by first | exact K5.out.drw | exact K5.out)).mono ?_; rintro e w6 ⟨M, u, ys, rfl, hly, hOy, hKy, hGy⟩; have O6 := Lib.hid (OwnInts.away (show OwnInts w5.drew _ _ _ from O5.out) hGy (by omega)); have hT6 := Two.far (show Two w5.drew _ _ _ from T5.out) hGy (by omega); have hU6 := Two.far (show Two w5.drew _ _ _ from U5.out) hGy (by omega); have hX6 := Two.far (show Two w5.drew _ _ _ from X5.out) hGy (by omega); have B6 : Hid (Below w.heap.size w w6) := B5.out.drew.trans (Mem.below_of_but hGy (by omega) B5.out.drew.size); obtain ⟨a6, c6, g6, rfl, hc6, hg6, hr6, _⟩ := OwnInts.ata hOy hGy.size; obtain ⟨s0, s1, s2, s3, s4⟩ := hT6; obtain ⟨r0, r1, r2, r3, r4⟩ := hU6; obtain ⟨y0, y1, y2, y3, y4⟩ := hX6))
    all_goals
      go_wp2
      refine ret_cxcx w.heap.size bb rfl rfl rfl (x := .int .i64 N) (y := .slice a5 xs.length c5) (x2 := .int .i64 M) (y2 := .slice a6 ys.length c6) (by go_simp) (by go_simp) (by go_simp) (by go_simp) rfl ?_
      exact ⟨N, _, _, _, xs, ys, rfl, hl, hly, (OwnInts.set (OwnInts.set (OwnInts.set (OwnInts.set O6.out _ _ _ (by omega)) _ _ _ (by omega)) _ _ _ (by omega)) _ _ _ (by omega)).lower (by omega), (OwnInts.set (OwnInts.set (OwnInts.set (OwnInts.set hOy _ _ _ (by dsimp only [World.drew]; omega)) _ _ _ (by dsimp only [World.drew]; omega)) _ _ _ (by dsimp only [World.drew]; omega)) _ _ _ (by dsimp only [World.drew]; omega)).lower (by dsimp only [World.drew]; omega), (((B6.out.setCell (by dsimp only; omega) _).setCell (by dsimp only; omega) _).setCell (by dsimp only; omega) _).setCell (by dsimp only; omega) _⟩
  | false =>
    obtain ⟨mn, hmn⟩ : ∃ mn : Int, (if 6 < N then 6 else N) = mn := ⟨_, rfl⟩
    have hm6 : mn ≤ 6 := by subst hmn; split <;> omega
    obtain ⟨nn, hnn, h1, h6⟩ : ∃ nn : Nat, (if mn < 1 then 1 else mn) = (nn : Int) ∧ 1 ≤ nn ∧ nn ≤ 6 := ⟨(if mn < 1 then 1 else mn).toNat, by split <;> omega, by split <;> omega, by split <;> omega⟩
    have HMIN := Lib.hid (fun W => hmn ▸ l1Min_any 6 N W)
    have HMAX := Lib.hid (fun W => hnn ▸ l1Max_any 1 mn W)
    clear hmn hnn
    go_wp2_with fail
    go_region_law (first | (go_simp; go_at_call 60; refine (HMIN.out _).mono ?_; rintro e w' ⟨rfl, rfl⟩) | (go_simp; go_at_call 59; refine (HMAX.out _).mono ?_; rintro e w' ⟨rfl, rfl⟩) | (go_simp; go_at_call 92; refine (l3Size_any a n c hn nn h1 h6 (bb + 1) _ (by first | omega | (simp; omega)) (by first | exact K5.out.drw | exact K5.out)).mono ?_; rintro e w6 ⟨u, ys, rfl, hly, hOy, hKy, hGy⟩; have O6 := Lib.hid (OwnInts.away (show OwnInts w5.drew _ _ _ from O5.out) hGy (by omega)); have hT6 := Two.far (show Two w5.drew _ _ _ from T5.out) hGy (by omega); have hU6 := Two.far (show Two w5.drew _ _ _ from U5.out) hGy (by omega); have hX6 := Two.far (show Two w5.drew _ _ _ from X5.out) hGy (by omega); have B6 : Hid (Below w.heap.size w w6) := B5.out.drew.trans (Mem.below_of_but hGy (by omega) B5.out.drew.size); obtain ⟨a6, c6, g6, rfl, hc6, hg6, hr6, _⟩ := OwnInts.ata hOy hGy.size; obtain ⟨s0, s1, s2, s3, s4⟩ := hT6; obtain ⟨r0, r1, r2, r3, r4⟩ := hU6; obtain ⟨y0, y1, y2, y3, y4⟩ := hX6))
    all_goals
      go_wp2
      refine ret_cxcx w.heap.size bb rfl rfl rfl (x := .int .i64 N) (y := .slice a5 xs.length c5) (x2 := .int .i64 (nn : Int)) (y2 := .slice a6 ys.length c6) (by go_simp) (by go_simp) (by go_simp) (by go_simp) rfl ?_
      exact ⟨N, _, _, _, xs, ys, rfl, hl, Nat.le_trans hly (by decide), (OwnInts.set (OwnInts.set (OwnInts.set (OwnInts.set O6.out _ _ _ (by omega)) _ _ _ (by omega)) _ _ _ (by omega)) _ _ _ (by omega)).lower (by omega), (OwnInts.set (OwnInts.set (OwnInts.set (OwnInts.set hOy _ _ _ (by dsimp only [World.drew]; omega)) _ _ _ (by dsimp only [World.drew]; omega)) _ _ _ (by dsimp only [World.drew]; omega)) _ _ _ (by dsimp only [World.drew]; omega)).lower (by dsimp only [World.drew]; omega), (((B6.out.setCell (by dsimp only; omega) _).setCell (by dsimp only; omega) _).setCell (by dsimp only; omega) _).setCell (by dsimp only; omega) _⟩

end Go.Proofs.Ytpakjcagdnnedaa
