/-
  WALKS of chapter 14 (spec), for all numbers: the list of holes, their count, none, like a sphere.
-/
import Derived.Test.YtenpcjmhlnalcaaWHol2
namespace Go.Proofs.Ytenpcjmhlnalcaa
open Go.RowKit
open Sets Lin

/-- HolesMod. -/
def holZ (n : Int) (xs : List Int) (p : Int) : List Int := if primeB p = true then holF p.toNat (faces n xs) (top (faces n xs)) else []
theorem primeH_nat {p : Int} (h : primeB p = true) : (p.toNat = 2 ∨ p.toNat = 3 ∨ p.toNat = 5) ∧ p = (p.toNat : Int) := by
  have := of_decide_eq_true h
  omega
theorem holZ_yes {n : Int} {xs : List Int} {p : Int} (h : primeB p = true) : holZ n xs p = holF p.toNat (faces n xs) (top (faces n xs)) := if_pos h
theorem holZ_no {n : Int} {xs : List Int} {p : Int} (h : primeB p = false) : holZ n xs p = [] := if_neg (by rw [h]; simp)
theorem holZ_le (n : Int) (xs : List Int) (p : Int) : (holZ n xs p).length ≤ 7 := by
  unfold holZ
  split
  · rw [holF_length]; exact top_le _
  · exact Nat.zero_le _
theorem holZ_bound (n : Int) (xs : List Int) (p : Int) (j : Nat) (h : j < (holZ n xs p).length) : -200 ≤ (holZ n xs p).getD j 0 ∧ (holZ n xs p).getD j 0 ≤ 200 := by
  unfold holZ at h ⊢
  by_cases hp : primeB p = true
  · rw [if_pos hp] at h ⊢
    exact holF_bound (primeH_nat hp).1 n xs _ j h
  · rw [if_neg hp] at h
    exact absurd h (Nat.not_lt_zero _)

set_option maxRecDepth 100000 in
set_option maxHeartbeats 2000000 in
theorem specHoles_all (n : Int) (a : Option Addr) (c : Nat) (xs : List Int) (hlen : xs.length ≤ 1099511627776) (p : Int) (w : World) (h : Ints w a xs) :
    Calls Try.prog 9 #[cx n (.slice a xs.length c), .int .i64 p] w fun e w' => ∃ v, e = .returned v ∧ OwnInts w' w.heap.size v (holZ n xs p) ∧ Below w.heap.size w w' := by
  cases hP : primeB p with
  | true =>
    obtain ⟨h1, h2⟩ := primeH_nat hP
    rw [holZ_yes hP]
    have hc := holesMod_any p.toNat h1 n a c xs hlen w h
    rw [← h2] at hc
    exact hc
  | false =>
    rw [holZ_no hP]
    have hb0 : Below w.heap.size w ((w.alloc (Obj.cells #[Value.int IntKind.i64 n, Value.slice a xs.length c] 27)).alloc (.cells #[] 3)) := ((Below.refl _ _).alloc (Nat.le_refl _) _).alloc (by simp) _
    have hO0 := OwnInts.lit (w.alloc (Obj.cells #[Value.int IntKind.i64 n, Value.slice a xs.length c] 27)) w.heap.size [] (by simp) (by simp)
    have htwo := (Two.new w (.int .i64 n) (.slice a xs.length c) 27).alloc (.cells #[] 3)
    have H := Lib.hid (h.keeps hb0)
    have HB0 := Lib.hid hb0
    have HO0 := Lib.hid hO0
    have HT := Lib.hid htwo
    have HPR := Lib.hid hP
    clear h hb0 hO0 htwo hP
    go_enter Try.func9, Try.ntmps9
    obtain ⟨t0, t1, t2, _, _⟩ := HT.out
    go_wp2_with fail
    refine (specCounts_any n a c xs hlen _ H.out).mono ?_
    rintro e w1 ⟨v1, rfl, hO1, hb1⟩
    have HB1 : Hid (Below w.heap.size w w1) := HB0.out.trans (hb1.mono HB0.out.size)
    have HO1 := Lib.hid (OwnInts.keeps HO0.out hb1)
    rw [World.size_alloc] at HO1
    clear hO1 hb1 t0 t1 t2
    go_wp2_with fail
    refine (isPrime_any _ _).mono ?_
    rw [HPR.out]
    rintro e w' ⟨rfl, rfl⟩
    go_wp2
    go_ret
    exact ⟨_, rfl, HO1.out, HB1.out⟩

set_option maxRecDepth 100000 in
set_option maxHeartbeats 4000000 in
theorem specCountH_all (n : Int) (a : Option Addr) (c : Nat) (xs : List Int) (hlen : xs.length ≤ 1099511627776) (p : Int) (w : World) (h : Ints w a xs) :
    Calls Try.prog 17 #[cx n (.slice a xs.length c), .int .i64 p] w fun e w' => e = .returned (.int .i64 (tot (holZ n xs p))) ∧ Below w.heap.size w w' := by
  have hb0 : Below w.heap.size w (w.alloc (Obj.cells #[Value.int IntKind.i64 n, Value.slice a xs.length c] 27)) := (Below.refl _ _).alloc (Nat.le_refl _) _
  have htwo := Two.new w (.int .i64 n) (.slice a xs.length c) 27
  have H := Lib.hid (h.keeps hb0)
  have HB0 := Lib.hid hb0
  have HT := Lib.hid htwo
  have HC := Lib.hid (fun W (hh : Ints W a xs) => specHoles_all n a c xs hlen p W hh)
  have HBD := Lib.hid (tot_bound _ (holZ_bound n xs p))
  have HBJ := Lib.hid (holZ_bound n xs p)
  have htl := holZ_le n xs p
  obtain ⟨L, hL⟩ : ∃ L, holZ n xs p = L := ⟨_, rfl⟩
  rw [hL] at HC HBD HBJ htl
  rw [hL]
  clear h hb0 htwo hL
  go_enter Try.func17, Try.ntmps17
  obtain ⟨t0, t1, t2, _, _⟩ := HT.out
  go_wp2_with fail
  refine (HC.out _ H.out).mono ?_
  rintro e w1 ⟨v1, rfl, hO1, hb1⟩
  obtain ⟨al, dl, gl, rfl, -, hrl⟩ := hO1.at
  have HB1 : Hid (Below w.heap.size w w1) := HB0.out.trans (hb1.mono HB0.out.size)
  have HR := Lib.hid hrl
  clear hO1 hrl hb1 t0 t1 t2
  go_wp2
  go_loop [5, 7] (fun s i => ∃ k : Nat, k ≤ L.length ∧ i = .int .i64 (k : Int) ∧ s = .int .i64 (tot (L.take k))) (fun _ i => L.length - (intOf i).toNat)
  case atStart => exact ⟨0, Nat.zero_le _, rfl, rfl⟩
  case round =>
    obtain ⟨k, hk, rfl, rfl⟩ := hrel
    by_cases hlt : k < L.length
    · obtain ⟨ea, hg1, hc1, _⟩ := HR.out k hlt
      have hbd := HBD.out k hk
      have hbj := HBJ.out k hlt
      have HTT := Lib.hid (tot_take L k hlt)
      obtain ⟨x, hx⟩ : ∃ x, L.getD k 0 = x := ⟨_, rfl⟩
      obtain ⟨s, hs⟩ : ∃ s, tot (L.take k) = s := ⟨_, rfl⟩
      rw [hx] at hc1 hbj HTT
      rw [hs] at hbd HTT
      rw [hs]
      obtain rfl := ea
      clear hx hs
      go_wp2
      go_round
      case rel => exact ⟨k + 1, by omega, by go_num, by rw [HTT.out]⟩
      case measure => simp [intOf]; omega
    · have E := Lib.hid (show k = L.length by omega)
      go_wp2
      go_ret
      exact ⟨ret_int (by rw [E.out, List.take_length]), HB1.out⟩

/-- HasNoHoles. -/
def noneZ (L : List Int) : Bool := decide (0 < L.length) && decide (tot L = 0)

set_option maxRecDepth 100000 in
set_option maxHeartbeats 4000000 in
theorem specNoHoles_all (n : Int) (a : Option Addr) (c : Nat) (xs : List Int) (hlen : xs.length ≤ 1099511627776) (p : Int) (w : World) (h : Ints w a xs) :
    Calls Try.prog 19 #[cx n (.slice a xs.length c), .int .i64 p] w fun e w' => e = .returned (.bool (noneZ (holZ n xs p))) ∧ Below w.heap.size w w' := by
  have hb0 : Below w.heap.size w (w.alloc (Obj.cells #[Value.int IntKind.i64 n, Value.slice a xs.length c] 27)) := (Below.refl _ _).alloc (Nat.le_refl _) _
  have htwo := Two.new w (.int .i64 n) (.slice a xs.length c) 27
  have H := Lib.hid (h.keeps hb0)
  have HB0 := Lib.hid hb0
  have HT := Lib.hid htwo
  have HC := Lib.hid (fun W (hh : Ints W a xs) => specHoles_all n a c xs hlen p W hh)
  have HD := Lib.hid (fun W (hh : Ints W a xs) => specCountH_all n a c xs hlen p W hh)
  obtain ⟨L, hL⟩ : ∃ L, holZ n xs p = L := ⟨_, rfl⟩
  have h7 := holZ_le n xs p
  rw [hL] at HC HD h7
  rw [hL]
  obtain ⟨t, ht⟩ : ∃ t, tot L = t := ⟨_, rfl⟩
  have hN : Hid (noneZ L = (decide (0 < L.length) && decide (t = 0))) := by rw [← ht]; exact rfl
  rw [ht] at HD
  obtain ⟨m, hm⟩ : ∃ m, L.length = m := ⟨_, rfl⟩
  have HM := Lib.hid hm
  rw [hm] at hN h7
  clear h hb0 htwo hL ht hm
  go_enter Try.func19, Try.ntmps19
  obtain ⟨t0, t1, t2, _, _⟩ := HT.out
  go_wp2_with fail
  refine (HC.out _ H.out).mono ?_
  rintro e w1 ⟨v1, rfl, hO1, hb1⟩
  obtain ⟨al, dl, gl, rfl, -, -⟩ := hO1.at
  rw [HM.out]
  have HB1 : Hid (Below w.heap.size w w1) := HB0.out.trans (hb1.mono HB0.out.size)
  have HT1 := Lib.hid (HT.out.keeps hb1)
  have H1 := Lib.hid (H.out.keeps hb1)
  have hz1 := HB1.out.size
  clear hO1 hb1 t0 t1 t2
  obtain ⟨t0, t1, t2, _, _⟩ := HT1.out
  by_cases h0 : 0 < m
  · have hdp : decide ((0 : Int) < (m : Int)) = true := by simpa using h0
    go_wp2_with fail
    refine (HD.out _ H1.out).mono ?_
    rintro e w2 ⟨rfl, hb2⟩
    have HB2 : Hid (Below w.heap.size w w2) := HB1.out.trans (hb2.mono hz1)
    clear hb2 t0 t1 t2
    by_cases ht0 : t = 0
    · have htd : (t == 0) = true := by simpa using ht0
      go_wp2
      go_ret
      exact ⟨by rw [hN.out, decide_eq_true h0, decide_eq_true ht0]; rfl, HB2.out⟩
    · have htd : (t == 0) = false := by simpa using ht0
      go_wp2
      go_ret
      exact ⟨by rw [hN.out, decide_eq_true h0, decide_eq_false ht0]; rfl, HB2.out⟩
  · have hdp : decide ((0 : Int) < (m : Int)) = false := by simpa using h0
    go_wp2
    go_ret
    exact ⟨by rw [hN.out, decide_eq_false h0]; rfl, HB1.out⟩

/-- IsSphereLike. -/
def sphereZ (L : List Int) : Bool := decide (0 < L.length) && (decide (L.getD (L.length - 1) 0 = 1) && decide (tot L = 1))

set_option maxRecDepth 100000 in
set_option maxHeartbeats 4000000 in
theorem specSphere_all (n : Int) (a : Option Addr) (c : Nat) (xs : List Int) (hlen : xs.length ≤ 1099511627776) (p : Int) (w : World) (h : Ints w a xs) :
    Calls Try.prog 21 #[cx n (.slice a xs.length c), .int .i64 p] w fun e w' => e = .returned (.bool (sphereZ (holZ n xs p))) ∧ Below w.heap.size w w' := by
  have hb0 : Below w.heap.size w (w.alloc (Obj.cells #[Value.int IntKind.i64 n, Value.slice a xs.length c] 27)) := (Below.refl _ _).alloc (Nat.le_refl _) _
  have htwo := Two.new w (.int .i64 n) (.slice a xs.length c) 27
  have H := Lib.hid (h.keeps hb0)
  have HB0 := Lib.hid hb0
  have HT := Lib.hid htwo
  have HC := Lib.hid (fun W (hh : Ints W a xs) => specHoles_all n a c xs hlen p W hh)
  have HD := Lib.hid (fun W (hh : Ints W a xs) => specCountH_all n a c xs hlen p W hh)
  obtain ⟨L, hL⟩ : ∃ L, holZ n xs p = L := ⟨_, rfl⟩
  have h7 := holZ_le n xs p
  rw [hL] at HC HD h7
  rw [hL]
  obtain ⟨t, ht⟩ : ∃ t, tot L = t := ⟨_, rfl⟩
  obtain ⟨l, hl⟩ : ∃ l, L.getD (L.length - 1) 0 = l := ⟨_, rfl⟩
  have hN : Hid (sphereZ L = (decide (0 < L.length) && (decide (l = 1) && decide (t = 1)))) := by rw [← ht, ← hl]; exact rfl
  rw [ht] at HD
  obtain ⟨m, hm⟩ : ∃ m, L.length = m := ⟨_, rfl⟩
  have HM := Lib.hid hm
  have HLL := Lib.hid hl
  rw [hm] at hN h7 HLL
  clear h hb0 htwo hL ht hm hl
  go_enter Try.func21, Try.ntmps21
  obtain ⟨t0, t1, t2, _, _⟩ := HT.out
  go_wp2_with fail
  refine (HC.out _ H.out).mono ?_
  rintro e w1 ⟨v1, rfl, hO1, hb1⟩
  obtain ⟨al, dl, gl, rfl, -, hrl⟩ := hO1.at
  rw [HM.out]
  have HB1 : Hid (Below w.heap.size w w1) := HB0.out.trans (hb1.mono HB0.out.size)
  have HT1 := Lib.hid (HT.out.keeps hb1)
  have H1 := Lib.hid (H.out.keeps hb1)
  have hz1 := HB1.out.size
  have HRL := Lib.hid hrl
  clear hO1 hb1 t0 t1 t2 hrl
  obtain ⟨t0, t1, t2, _, _⟩ := HT1.out
  by_cases h0 : 0 < m
  · have hdp : decide ((0 : Int) < (m : Int)) = true := by simpa using h0
    obtain ⟨m1, hm1⟩ : ∃ m1 : Nat, m = m1 + 1 := ⟨m - 1, by omega⟩
    subst hm1
    obtain ⟨ea, hg1, hc1, _⟩ := HRL.out m1 (by rw [HM.out]; omega)
    have hll := HLL.out
    rw [Nat.add_sub_cancel] at hll
    rw [hll] at hc1
    subst ea
    clear hll
    by_cases hl1 : l = 1
    · have hld : (l == 1) = true := by simpa using hl1
      go_wp2_with fail
      refine (HD.out _ H1.out).mono ?_
      rintro e w2 ⟨rfl, hb2⟩
      have HB2 : Hid (Below w.heap.size w w2) := HB1.out.trans (hb2.mono hz1)
      clear hb2 t0 t1 t2
      by_cases ht0 : t = 1
      · have htd : (t == 1) = true := by simpa using ht0
        go_wp2
        go_ret
        exact ⟨by rw [hN.out, decide_eq_true h0, decide_eq_true hl1, decide_eq_true ht0]; rfl, HB2.out⟩
      · have htd : (t == 1) = false := by simpa using ht0
        go_wp2
        go_ret
        exact ⟨by rw [hN.out, decide_eq_true h0, decide_eq_true hl1, decide_eq_false ht0]; rfl, HB2.out⟩
    · have hld : (l == 1) = false := by simpa using hl1
      go_wp2
      go_ret
      exact ⟨by rw [hN.out, decide_eq_true h0, decide_eq_false hl1]; rfl, HB1.out⟩
  · have hdp : decide ((0 : Int) < (m : Int)) = false := by simpa using h0
    go_wp2
    go_ret
    exact ⟨by rw [hN.out, decide_eq_false h0]; rfl, HB1.out⟩

end Go.Proofs.Ytenpcjmhlnalcaa
