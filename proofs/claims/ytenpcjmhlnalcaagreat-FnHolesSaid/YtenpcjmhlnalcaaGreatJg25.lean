/-
  TEXTS of one claim, put together: WHol2, WHlS1, Hom2, Hom3.
-/
import Derived.Test.YtenpcjmhlnalcaaGreatWHol
import Derived.Test.YtenpcjmhlnalcaaGreatJg4
/-! WALKS of chapter 14 (spec): holes counted; no holes; like a sphere. -/

namespace Go.Proofs.YtenpcjmhlnalcaaGreat
open Go.RowKit
open Sets Lin

def tot (L : List Int) : Int := L.foldl (fun a x => a + x) 0
theorem tot_take (L : List Int) (k : Nat) (h : k < L.length) : tot (L.take (k + 1)) = tot (L.take k) + L.getD k 0 := by
  unfold tot
  rw [List.take_add_one, List.foldl_append]
  simp [List.getD, List.getElem?_eq_getElem h]
theorem tot_bound (L : List Int) (h : ∀ j, j < L.length → -200 ≤ L.getD j 0 ∧ L.getD j 0 ≤ 200) : ∀ k, k ≤ L.length → -(200 * (k : Int)) ≤ tot (L.take k) ∧ tot (L.take k) ≤ 200 * (k : Int)
  | 0, _ => by simp [tot]
  | k + 1, hk => by
    have ih := tot_bound L h k (by omega)
    have hb := h k (by omega)
    rw [tot_take L k (by omega)]
    omega
theorem tot_zero (L : List Int) (h : ∀ x, x ∈ L → x = 0) : tot L = 0 := by
  unfold tot
  have : ∀ (l : List Int) (a : Int), (∀ x, x ∈ l → x = 0) → l.foldl (fun a x => a + x) a = a := by
    intro l
    induction l with
    | nil => intro a _; rfl
    | cons x l ih => intro a hh; rw [List.foldl_cons, hh x (List.mem_cons_self ..), ih _ fun y hy => hh y (List.mem_cons_of_mem _ hy)]; omega
  exact this L 0 h
theorem holF_bound {p : Nat} (hp : p = 2 ∨ p = 3 ∨ p = 5) (n : Int) (xs : List Int) (m j : Nat) (h : j < (holF p (faces n xs) m).length) : -200 ≤ (holF p (faces n xs) m).getD j 0 ∧ (holF p (faces n xs) m).getD j 0 ≤ 200 := by
  rw [holF_length] at h
  have hr : ∀ k, rkF p (faces n xs) k ≤ 64 := fun k => Nat.le_trans (rank_le_cols hp (borM_wide _ _)) (sized_le n xs _)
  have h1 := hr j
  have h2 := hr (j + 1)
  have h3 := Nat.le_trans (cnt_le j (faces n xs)) (faces_le n xs)
  unfold holF
  simp only [List.getD, List.getElem?_map, List.getElem?_range h, Option.map_some, Option.getD_some]
  unfold loR hiR
  split <;> split <;> omega

set_option maxRecDepth 100000 in
set_option maxHeartbeats 4000000 in
theorem countHoles_any (p : Nat) (hp : p = 2 ∨ p = 3 ∨ p = 5) (n : Int) (a : Option Addr) (c : Nat) (xs : List Int) (hlen : xs.length ≤ 1099511627776) (w : World) (h : Ints w a xs) :
    Calls Tryz.prog 38 #[cx n (.slice a xs.length c), .int .i64 (p : Int)] w fun e w' => e = .returned (.int .i64 (tot (holF p (faces n xs) (top (faces n xs))))) ∧ Below w.heap.size w w' := by
  have hb0 : Below w.heap.size w (w.alloc (Obj.cells #[Value.int IntKind.i64 n, Value.slice a xs.length c] 26)) := (Below.refl _ _).alloc (Nat.le_refl _) _
  have htwo := Two.new w (.int .i64 n) (.slice a xs.length c) 26
  have H := Lib.hid (h.keeps hb0)
  have HB0 := Lib.hid hb0
  have HT := Lib.hid htwo
  have HC := Lib.hid (fun W (hh : Ints W a xs) => holesMod_any p hp n a c xs hlen W hh)
  have HBD := Lib.hid (tot_bound _ (holF_bound hp n xs (top (faces n xs))))
  have HBJ := Lib.hid (holF_bound hp n xs (top (faces n xs)))
  have htl : (holF p (faces n xs) (top (faces n xs))).length ≤ 7 := by rw [holF_length]; exact top_le _
  obtain ⟨L, hL⟩ : ∃ L, holF p (faces n xs) (top (faces n xs)) = L := ⟨_, rfl⟩
  rw [hL] at HC HBD HBJ htl
  rw [hL]
  clear h hb0 htwo hp hL
  go_enter Tryz.func38, Tryz.ntmps38
  obtain ⟨t0, t1, t2, _, _⟩ := HT.out
  go_wp2_with fail
  refine (HC.out _ H.out).mono ?_
  rintro e w1 ⟨v1, rfl, hO1, hb1⟩
  obtain ⟨al, dl, gl, rfl, -, hrl⟩ := hO1.at
  have HB1 : Hid (Below w.heap.size w w1) := HB0.out.trans (hb1.mono HB0.out.size)
  have HR := Lib.hid hrl
  clear hO1 hrl hb1 t0 t1 t2
  go_wp2
  go_loop [5, 7] (fun s i => ∃ k : Nat, k ≤ L.length ∧ i = .int .i64 (k : Int) ∧ s = .int .i64 (tot (L.take k))) (fun _ i => L.length - (intOf i).toNat)
  case atStart => exact ⟨0, Nat.zero_le _, rfl, rfl⟩
  case round =>
    obtain ⟨k, hk, rfl, rfl⟩ := hrel
    by_cases hlt : k < L.length
    · obtain ⟨ea, hg1, hc1, _⟩ := HR.out k hlt
      have hbd := HBD.out k hk
      have hbj := HBJ.out k hlt
      have HTT := Lib.hid (tot_take L k hlt)
      obtain ⟨x, hx⟩ : ∃ x, L.getD k 0 = x := ⟨_, rfl⟩
      obtain ⟨s, hs⟩ : ∃ s, tot (L.take k) = s := ⟨_, rfl⟩
      rw [hx] at hc1 hbj HTT
      rw [hs] at hbd HTT
      rw [hs]
      obtain rfl := ea
      clear hx hs
      go_wp2
      go_round
      case rel => exact ⟨k + 1, by omega, by go_num, by rw [HTT.out]⟩
      case measure => simp [intOf]; omega
    · have E := Lib.hid (show k = L.length by omega)
      go_wp2
      go_ret
      exact ⟨ret_int (by rw [E.out, List.take_length]), HB1.out⟩

set_option maxRecDepth 100000 in
set_option maxHeartbeats 4000000 in
theorem noHoles_any (p : Nat) (hp : p = 2 ∨ p = 3 ∨ p = 5) (n : Int) (a : Option Addr) (c : Nat) (xs : List Int) (hlen : xs.length ≤ 1099511627776) (w : World) (h : Ints w a xs) (hpos : 0 < top (faces n xs)) (htot : tot (holF p (faces n xs) (top (faces n xs))) = 0) :
    Calls Tryz.prog 15 #[cx n (.slice a xs.length c), .int .i64 (p : Int)] w fun e w' => e = .returned (.bool true) ∧ Below w.heap.size w w' := by
  have hb0 : Below w.heap.size w (w.alloc (Obj.cells #[Value.int IntKind.i64 n, Value.slice a xs.length c] 26)) := (Below.refl _ _).alloc (Nat.le_refl _) _
  have htwo := Two.new w (.int .i64 n) (.slice a xs.length c) 26
  have H := Lib.hid (h.keeps hb0)
  have HB0 := Lib.hid hb0
  have HT := Lib.hid htwo
  have HC := Lib.hid (fun W (hh : Ints W a xs) => holesMod_any p hp n a c xs hlen W hh)
  have HD := Lib.hid (fun W (hh : Ints W a xs) => countHoles_any p hp n a c xs hlen W hh)
  rw [htot] at HD
  have hL7 := holF_length p (faces n xs) (top (faces n xs))
  obtain ⟨m, hm⟩ : ∃ m, top (faces n xs) = m := ⟨_, rfl⟩
  rw [hm] at hL7 hpos HC
  obtain ⟨L, hL⟩ : ∃ L, holF p (faces n xs) m = L := ⟨_, rfl⟩
  rw [hL] at hL7 HC
  have HL7 := Lib.hid hL7
  clear h hb0 htwo hp hL htot hm hL7
  have hdp : decide ((0 : Int) < (m : Int)) = true := by simp; omega
  go_enter Tryz.func15, Tryz.ntmps15
  obtain ⟨t0, t1, t2, _, _⟩ := HT.out
  go_wp2_with fail
  refine (HC.out _ H.out).mono ?_
  rintro e w1 ⟨v1, rfl, hO1, hb1⟩
  obtain ⟨al, dl, gl, rfl, -, -⟩ := hO1.at
  rw [HL7.out]
  have HB1 : Hid (Below w.heap.size w w1) := HB0.out.trans (hb1.mono HB0.out.size)
  have HT1 := Lib.hid (HT.out.keeps hb1)
  have H1 := Lib.hid (H.out.keeps hb1)
  have hz1 := HB1.out.size
  clear hO1 hb1 t0 t1 t2
  obtain ⟨t0, t1, t2, _, _⟩ := HT1.out
  go_wp2_with fail
  refine (HD.out _ H1.out).mono ?_
  rintro e w2 ⟨rfl, hb2⟩
  have HB2 : Hid (Below w.heap.size w w2) := HB1.out.trans (hb2.mono hz1)
  clear hb2 t0 t1 t2
  go_wp2
  go_ret
  exact ⟨rfl, HB2.out⟩

end Go.Proofs.YtenpcjmhlnalcaaGreat

/-! WALKS of chapter 14 (spec), for all numbers: the list of holes, their count, none, like a sphere. -/

namespace Go.Proofs.YtenpcjmhlnalcaaGreat
open Go.RowKit
open Sets Lin

/-- HolesMod. -/
def holZ (n : Int) (xs : List Int) (p : Int) : List Int := if primeB p = true then holF p.toNat (faces n xs) (top (faces n xs)) else []
theorem primeH_nat {p : Int} (h : primeB p = true) : (p.toNat = 2 ∨ p.toNat = 3 ∨ p.toNat = 5) ∧ p = (p.toNat : Int) := by
  have := of_decide_eq_true h
  omega
theorem holZ_yes {n : Int} {xs : List Int} {p : Int} (h : primeB p = true) : holZ n xs p = holF p.toNat (faces n xs) (top (faces n xs)) := if_pos h
theorem holZ_no {n : Int} {xs : List Int} {p : Int} (h : primeB p = false) : holZ n xs p = [] := if_neg (by rw [h]; simp)
theorem holZ_le (n : Int) (xs : List Int) (p : Int) : (holZ n xs p).length ≤ 7 := by
  unfold holZ
  split
  · rw [holF_length]; exact top_le _
  · exact Nat.zero_le _
theorem holZ_bound (n : Int) (xs : List Int) (p : Int) (j : Nat) (h : j < (holZ n xs p).length) : -200 ≤ (holZ n xs p).getD j 0 ∧ (holZ n xs p).getD j 0 ≤ 200 := by
  unfold holZ at h ⊢
  by_cases hp : primeB p = true
  · rw [if_pos hp] at h ⊢
    exact holF_bound (primeH_nat hp).1 n xs _ j h
  · rw [if_neg hp] at h
    exact absurd h (Nat.not_lt_zero _)

set_option maxRecDepth 100000 in
set_option maxHeartbeats 2000000 in
theorem specHoles_all (n : Int) (a : Option Addr) (c : Nat) (xs : List Int) (hlen : xs.length ≤ 1099511627776) (p : Int) (w : World) (h : Ints w a xs) :
    Calls Tryz.prog 11 #[cx n (.slice a xs.length c), .int .i64 p] w fun e w' => ∃ v, e = .returned v ∧ OwnInts w' w.heap.size v (holZ n xs p) ∧ Below w.heap.size w w' := by
  cases hP : primeB p with
  | true =>
    obtain ⟨h1, h2⟩ := primeH_nat hP
    rw [holZ_yes hP]
    have hc := holesMod_any p.toNat h1 n a c xs hlen w h
    rw [← h2] at hc
    exact hc
  | false =>
    rw [holZ_no hP]
    have hb0 : Below w.heap.size w ((w.alloc (Obj.cells #[Value.int IntKind.i64 n, Value.slice a xs.length c] 26)).alloc (.cells #[] 3)) := ((Below.refl _ _).alloc (Nat.le_refl _) _).alloc (by simp) _
    have hO0 := OwnInts.lit (w.alloc (Obj.cells #[Value.int IntKind.i64 n, Value.slice a xs.length c] 26)) w.heap.size [] (by simp) (by simp)
    have htwo := (Two.new w (.int .i64 n) (.slice a xs.length c) 26).alloc (.cells #[] 3)
    have H := Lib.hid (h.keeps hb0)
    have HB0 := Lib.hid hb0
    have HO0 := Lib.hid hO0
    have HT := Lib.hid htwo
    have HPR := Lib.hid hP
    clear h hb0 hO0 htwo hP
    go_enter Tryz.func11, Tryz.ntmps11
    obtain ⟨t0, t1, t2, _, _⟩ := HT.out
    go_wp2_with fail
    refine (specCounts_any n a c xs hlen _ H.out).mono ?_
    rintro e w1 ⟨v1, rfl, hO1, hb1⟩
    have HB1 : Hid (Below w.heap.size w w1) := HB0.out.trans (hb1.mono HB0.out.size)
    have HO1 := Lib.hid (OwnInts.keeps HO0.out hb1)
    rw [World.size_alloc] at HO1
    clear hO1 hb1 t0 t1 t2
    go_wp2_with fail
    refine (isPrime_any _ _).mono ?_
    rw [HPR.out]
    rintro e w' ⟨rfl, rfl⟩
    go_wp2
    go_ret
    exact ⟨_, rfl, HO1.out, HB1.out⟩

set_option maxRecDepth 100000 in
set_option maxHeartbeats 4000000 in
theorem specCountH_all (n : Int) (a : Option Addr) (c : Nat) (xs : List Int) (hlen : xs.length ≤ 1099511627776) (p : Int) (w : World) (h : Ints w a xs) :
    Calls Tryz.prog 38 #[cx n (.slice a xs.length c), .int .i64 p] w fun e w' => e = .returned (.int .i64 (tot (holZ n xs p))) ∧ Below w.heap.size w w' := by
  have hb0 : Below w.heap.size w (w.alloc (Obj.cells #[Value.int IntKind.i64 n, Value.slice a xs.length c] 26)) := (Below.refl _ _).alloc (Nat.le_refl _) _
  have htwo := Two.new w (.int .i64 n) (.slice a xs.length c) 26
  have H := Lib.hid (h.keeps hb0)
  have HB0 := Lib.hid hb0
  have HT := Lib.hid htwo
  have HC := Lib.hid (fun W (hh : Ints W a xs) => specHoles_all n a c xs hlen p W hh)
  have HBD := Lib.hid (tot_bound _ (holZ_bound n xs p))
  have HBJ := Lib.hid (holZ_bound n xs p)
  have htl := holZ_le n xs p
  obtain ⟨L, hL⟩ : ∃ L, holZ n xs p = L := ⟨_, rfl⟩
  rw [hL] at HC HBD HBJ htl
  rw [hL]
  clear h hb0 htwo hL
  go_enter Tryz.func38, Tryz.ntmps38
  obtain ⟨t0, t1, t2, _, _⟩ := HT.out
  go_wp2_with fail
  refine (HC.out _ H.out).mono ?_
  rintro e w1 ⟨v1, rfl, hO1, hb1⟩
  obtain ⟨al, dl, gl, rfl, -, hrl⟩ := hO1.at
  have HB1 : Hid (Below w.heap.size w w1) := HB0.out.trans (hb1.mono HB0.out.size)
  have HR := Lib.hid hrl
  clear hO1 hrl hb1 t0 t1 t2
  go_wp2
  go_loop [5, 7] (fun s i => ∃ k : Nat, k ≤ L.length ∧ i = .int .i64 (k : Int) ∧ s = .int .i64 (tot (L.take k))) (fun _ i => L.length - (intOf i).toNat)
  case atStart => exact ⟨0, Nat.zero_le _, rfl, rfl⟩
  case round =>
    obtain ⟨k, hk, rfl, rfl⟩ := hrel
    by_cases hlt : k < L.length
    · obtain ⟨ea, hg1, hc1, _⟩ := HR.out k hlt
      have hbd := HBD.out k hk
      have hbj := HBJ.out k hlt
      have HTT := Lib.hid (tot_take L k hlt)
      obtain ⟨x, hx⟩ : ∃ x, L.getD k 0 = x := ⟨_, rfl⟩
      obtain ⟨s, hs⟩ : ∃ s, tot (L.take k) = s := ⟨_, rfl⟩
      rw [hx] at hc1 hbj HTT
      rw [hs] at hbd HTT
      rw [hs]
      obtain rfl := ea
      clear hx hs
      go_wp2
      go_round
      case rel => exact ⟨k + 1, by omega, by go_num, by rw [HTT.out]⟩
      case measure => simp [intOf]; omega
    · have E := Lib.hid (show k = L.length by omega)
      go_wp2
      go_ret
      exact ⟨ret_int (by rw [E.out, List.take_length]), HB1.out⟩

/-- HasNoHoles. -/
def noneZ (L : List Int) : Bool := decide (0 < L.length) && decide (tot L = 0)

set_option maxRecDepth 100000 in
set_option maxHeartbeats 4000000 in
theorem specNoHoles_all (n : Int) (a : Option Addr) (c : Nat) (xs : List Int) (hlen : xs.length ≤ 1099511627776) (p : Int) (w : World) (h : Ints w a xs) :
    Calls Tryz.prog 15 #[cx n (.slice a xs.length c), .int .i64 p] w fun e w' => e = .returned (.bool (noneZ (holZ n xs p))) ∧ Below w.heap.size w w' := by
  have hb0 : Below w.heap.size w (w.alloc (Obj.cells #[Value.int IntKind.i64 n, Value.slice a xs.length c] 26)) := (Below.refl _ _).alloc (Nat.le_refl _) _
  have htwo := Two.new w (.int .i64 n) (.slice a xs.length c) 26
  have H := Lib.hid (h.keeps hb0)
  have HB0 := Lib.hid hb0
  have HT := Lib.hid htwo
  have HC := Lib.hid (fun W (hh : Ints W a xs) => specHoles_all n a c xs hlen p W hh)
  have HD := Lib.hid (fun W (hh : Ints W a xs) => specCountH_all n a c xs hlen p W hh)
  obtain ⟨L, hL⟩ : ∃ L, holZ n xs p = L := ⟨_, rfl⟩
  have h7 := holZ_le n xs p
  rw [hL] at HC HD h7
  rw [hL]
  obtain ⟨t, ht⟩ : ∃ t, tot L = t := ⟨_, rfl⟩
  have hN : Hid (noneZ L = (decide (0 < L.length) && decide (t = 0))) := by rw [← ht]; exact rfl
  rw [ht] at HD
  obtain ⟨m, hm⟩ : ∃ m, L.length = m := ⟨_, rfl⟩
  have HM := Lib.hid hm
  rw [hm] at hN h7
  clear h hb0 htwo hL ht hm
  go_enter Tryz.func15, Tryz.ntmps15
  obtain ⟨t0, t1, t2, _, _⟩ := HT.out
  go_wp2_with fail
  refine (HC.out _ H.out).mono ?_
  rintro e w1 ⟨v1, rfl, hO1, hb1⟩
  obtain ⟨al, dl, gl, rfl, -, -⟩ := hO1.at
  rw [HM.out]
  have HB1 : Hid (Below w.heap.size w w1) := HB0.out.trans (hb1.mono HB0.out.size)
  have HT1 := Lib.hid (HT.out.keeps hb1)
  have H1 := Lib.hid (H.out.keeps hb1)
  have hz1 := HB1.out.size
  clear hO1 hb1 t0 t1 t2
  obtain ⟨t0, t1, t2, _, _⟩ := HT1.out
  by_cases h0 : 0 < m
  · have hdp : decide ((0 : Int) < (m : Int)) = true := by simpa using h0
    go_wp2_with fail
    refine (HD.out _ H1.out).mono ?_
    rintro e w2 ⟨rfl, hb2⟩
    have HB2 : Hid (Below w.heap.size w w2) := HB1.out.trans (hb2.mono hz1)
    clear hb2 t0 t1 t2
    by_cases ht0 : t = 0
    · have htd : (t == 0) = true := by simpa using ht0
      go_wp2
      go_ret
      exact ⟨by rw [hN.out, decide_eq_true h0, decide_eq_true ht0]; rfl, HB2.out⟩
    · have htd : (t == 0) = false := by simpa using ht0
      go_wp2
      go_ret
      exact ⟨by rw [hN.out, decide_eq_true h0, decide_eq_false ht0]; rfl, HB2.out⟩
  · have hdp : decide ((0 : Int) < (m : Int)) = false := by simpa using h0
    go_wp2
    go_ret
    exact ⟨by rw [hN.out, decide_eq_false h0]; rfl, HB1.out⟩

/-- IsSphereLike. -/
def sphereZ (L : List Int) : Bool := decide (0 < L.length) && (decide (L.getD (L.length - 1) 0 = 1) && decide (tot L = 1))

set_option maxRecDepth 100000 in
set_option maxHeartbeats 4000000 in
theorem specSphere_all (n : Int) (a : Option Addr) (c : Nat) (xs : List Int) (hlen : xs.length ≤ 1099511627776) (p : Int) (w : World) (h : Ints w a xs) :
    Calls Tryz.prog 17 #[cx n (.slice a xs.length c), .int .i64 p] w fun e w' => e = .returned (.bool (sphereZ (holZ n xs p))) ∧ Below w.heap.size w w' := by
  have hb0 : Below w.heap.size w (w.alloc (Obj.cells #[Value.int IntKind.i64 n, Value.slice a xs.length c] 26)) := (Below.refl _ _).alloc (Nat.le_refl _) _
  have htwo := Two.new w (.int .i64 n) (.slice a xs.length c) 26
  have H := Lib.hid (h.keeps hb0)
  have HB0 := Lib.hid hb0
  have HT := Lib.hid htwo
  have HC := Lib.hid (fun W (hh : Ints W a xs) => specHoles_all n a c xs hlen p W hh)
  have HD := Lib.hid (fun W (hh : Ints W a xs) => specCountH_all n a c xs hlen p W hh)
  obtain ⟨L, hL⟩ : ∃ L, holZ n xs p = L := ⟨_, rfl⟩
  have h7 := holZ_le n xs p
  rw [hL] at HC HD h7
  rw [hL]
  obtain ⟨t, ht⟩ : ∃ t, tot L = t := ⟨_, rfl⟩
  obtain ⟨l, hl⟩ : ∃ l, L.getD (L.length - 1) 0 = l := ⟨_, rfl⟩
  have hN : Hid (sphereZ L = (decide (0 < L.length) && (decide (l = 1) && decide (t = 1)))) := by rw [← ht, ← hl]; exact rfl
  rw [ht] at HD
  obtain ⟨m, hm⟩ : ∃ m, L.length = m := ⟨_, rfl⟩
  have HM := Lib.hid hm
  have HLL := Lib.hid hl
  rw [hm] at hN h7 HLL
  clear h hb0 htwo hL ht hm hl
  go_enter Tryz.func17, Tryz.ntmps17
  obtain ⟨t0, t1, t2, _, _⟩ := HT.out
  go_wp2_with fail
  refine (HC.out _ H.out).mono ?_
  rintro e w1 ⟨v1, rfl, hO1, hb1⟩
  obtain ⟨al, dl, gl, rfl, -, hrl⟩ := hO1.at
  rw [HM.out]
  have HB1 : Hid (Below w.heap.size w w1) := HB0.out.trans (hb1.mono HB0.out.size)
  have HT1 := Lib.hid (HT.out.keeps hb1)
  have H1 := Lib.hid (H.out.keeps hb1)
  have hz1 := HB1.out.size
  have HRL := Lib.hid hrl
  clear hO1 hb1 t0 t1 t2 hrl
  obtain ⟨t0, t1, t2, _, _⟩ := HT1.out
  by_cases h0 : 0 < m
  · have hdp : decide ((0 : Int) < (m : Int)) = true := by simpa using h0
    obtain ⟨m1, hm1⟩ : ∃ m1 : Nat, m = m1 + 1 := ⟨m - 1, by omega⟩
    subst hm1
    obtain ⟨ea, hg1, hc1, _⟩ := HRL.out m1 (by rw [HM.out]; omega)
    have hll := HLL.out
    rw [Nat.add_sub_cancel] at hll
    rw [hll] at hc1
    subst ea
    clear hll
    by_cases hl1 : l = 1
    · have hld : (l == 1) = true := by simpa using hl1
      go_wp2_with fail
      refine (HD.out _ H1.out).mono ?_
      rintro e w2 ⟨rfl, hb2⟩
      have HB2 : Hid (Below w.heap.size w w2) := HB1.out.trans (hb2.mono hz1)
      clear hb2 t0 t1 t2
      by_cases ht0 : t = 1
      · have htd : (t == 1) = true := by simpa using ht0
        go_wp2
        go_ret
        exact ⟨by rw [hN.out, decide_eq_true h0, decide_eq_true hl1, decide_eq_true ht0]; rfl, HB2.out⟩
      · have htd : (t == 1) = false := by simpa using ht0
        go_wp2
        go_ret
        exact ⟨by rw [hN.out, decide_eq_true h0, decide_eq_true hl1, decide_eq_false ht0]; rfl, HB2.out⟩
    · have hld : (l == 1) = false := by simpa using hl1
      go_wp2
      go_ret
      exact ⟨by rw [hN.out, decide_eq_true h0, decide_eq_false hl1]; rfl, HB1.out⟩
  · have hdp : decide ((0 : Int) < (m : Int)) = false := by simpa using h0
    go_wp2
    go_ret
    exact ⟨by rw [hN.out, decide_eq_false h0]; rfl, HB1.out⟩

end Go.Proofs.YtenpcjmhlnalcaaGreat

/-! HOLES of cones and of suspensions, of no program. -/

namespace Go.Proofs.YtenpcjmhlnalcaaGreat
namespace Hom
open Sets Lin

def sg (t : Nat) : Int := 1 - 2 * ((pc t % 2 : Nat) : Int)
theorem blk0 : ∀ n : Fin 6, ∀ t s : Fin 64, t.val < 2 ^ n.val → s.val < 2 ^ n.val → sgn t.val (2 ^ n.val + s.val) = (if s = t then sg t.val else 0) ∧ sgn (2 ^ n.val + t.val) (2 ^ n.val + s.val) = sgn t.val s.val ∧ sgn (2 ^ n.val + t.val) s.val = 0 := by decide +kernel
theorem pc_blk0 : ∀ n : Fin 6, ∀ s : Fin 64, s.val < 2 ^ n.val → pc (2 ^ n.val + s.val) = pc s.val + 1 := by decide +kernel
theorem pow64 {n : Nat} (hn : n ≤ 6) : 2 ^ n ≤ 64 := Nat.pow_le_pow_right (by decide) hn
theorem pow_two (n : Nat) : 2 ^ (n + 1) = 2 ^ n + 2 ^ n := by rw [Nat.pow_succ]; omega
theorem blk1 {n t s : Nat} (hn : n ≤ 5) (ht : t < 2 ^ n) (hs : s < 2 ^ n) : sgn t (2 ^ n + s) = if s = t then sg t else 0 := by
  have h64 := pow64 (n := n) (by omega)
  have := (blk0 ⟨n, by omega⟩ ⟨t, by omega⟩ ⟨s, by omega⟩ ht hs).1
  simpa using this
theorem blk2 {n t s : Nat} (hn : n ≤ 5) (ht : t < 2 ^ n) (hs : s < 2 ^ n) : sgn (2 ^ n + t) (2 ^ n + s) = sgn t s := by
  have h64 := pow64 (n := n) (by omega)
  exact (blk0 ⟨n, by omega⟩ ⟨t, by omega⟩ ⟨s, by omega⟩ ht hs).2.1
theorem blk3 {n t s : Nat} (hn : n ≤ 5) (ht : t < 2 ^ n) (hs : s < 2 ^ n) : sgn (2 ^ n + t) s = 0 := by
  have h64 := pow64 (n := n) (by omega)
  exact (blk0 ⟨n, by omega⟩ ⟨t, by omega⟩ ⟨s, by omega⟩ ht hs).2.2
theorem pc_blk {n s : Nat} (hn : n ≤ 5) (hs : s < 2 ^ n) : pc (2 ^ n + s) = pc s + 1 := by
  have h64 := pow64 (n := n) (by omega)
  exact pc_blk0 ⟨n, by omega⟩ ⟨s, by omega⟩ hs
theorem sg_sq (t : Nat) : sg t * sg t = 1 := by unfold sg; rcases Nat.mod_two_eq_zero_or_one (pc t) with h | h <;> rw [h] <;> decide

theorem S_low {N : Nat} (hN : N ≤ 64) {f : Nat → Int} (h : ∀ s, N ≤ s → s < 64 → f s = 0) : S f = sm (List.range N) f := by
  unfold S
  rw [show 64 = N + (64 - N) by omega, sm_range_add, sm_zero (List.range (64 - N)) _ fun s hs => h _ (by omega) (by rw [List.mem_range] at hs; omega)]; omega
theorem S_two {N : Nat} (hN : N + N ≤ 64) {f : Nat → Int} (h : ∀ s, N + N ≤ s → s < 64 → f s = 0) : S f = sm (List.range N) f + sm (List.range N) fun s => f (N + s) := by
  rw [S_low hN h, sm_range_add]
theorem S_three {N : Nat} (hN : N + N + N ≤ 64) {f : Nat → Int} (h : ∀ s, N + N + N ≤ s → s < 64 → f s = 0) : S f = sm (List.range N) f + (sm (List.range N) fun s => f (N + s)) + sm (List.range N) fun s => f (N + N + s) := by
  rw [S_low hN h, sm_range_add, sm_range_add]

/-- The sets of n points. -/
def Low (n : Nat) (q : Nat → Bool) : Prop := ∀ s, s < 64 → q s = true → s < 2 ^ n
/-- The faces of a join. -/
def joinQ (n : Nat) (q r : Nat → Bool) (s : Nat) : Bool := q (s % 2 ^ n) && r (s / 2 ^ n)

theorem vec_zero {p : Nat} {q : Nat → Bool} {k : Nat} {y : Nat → Int} (h : Vec p (J q k) y) {s : Nat} (hs : s < 64 → ¬(pc s = k ∧ q s = true)) : y s = 0 := h.2 s fun hm => by
  have := (mem_J q k s).1 hm; exact hs this.1 this.2

/-- A vector's piece of N numbers from b on. -/
def cut (N b : Nat) (y : Nat → Int) (s : Nat) : Int := if s < N then y (b + s) else 0
theorem cut_lt {N b : Nat} {y : Nat → Int} {s : Nat} (h : s < N) : cut N b y s = y (b + s) := if_pos h
theorem cut_ge {N b : Nat} {y : Nat → Int} {s : Nat} (h : ¬s < N) : cut N b y s = 0 := if_neg h
theorem bd_cut {N b : Nat} (hN : N ≤ 64) (y : Nat → Int) (t : Nat) : bd (cut N b y) t = sm (List.range N) fun s => sgn t s * y (b + s) := by
  unfold bd
  rw [S_low hN fun s h _ => by rw [cut_ge (by omega)]; simp]
  exact sm_congr _ _ _ fun s hs => by rw [cut_lt (List.mem_range.1 hs)]

/-- A piece of a chain is a chain of the faces that lie in the piece. -/
theorem vec_cut {p n b k j : Nat} {q' q : Nat → Bool} {y : Nat → Int} (hn : b + 2 ^ n ≤ 64) (hlow : Low n q) (hq : ∀ s, s < 2 ^ n → (q' (b + s) = true ∧ pc (b + s) = k ↔ q s = true ∧ pc s = j)) (h : Vec p (J q' k) y) : Vec p (J q j) (cut (2 ^ n) b y) := by
  refine ⟨fun s hs => ?_, fun s hs => ?_⟩
  · obtain ⟨h1, h2, h3⟩ := (mem_J q j s).1 hs
    have hl := hlow s h1 h3
    rw [cut_lt hl]
    have := (hq s hl).2 ⟨h3, h2⟩
    exact h.1 _ ((mem_J q' k _).2 ⟨by omega, this.2, this.1⟩)
  · by_cases hl : s < 2 ^ n
    · rw [cut_lt hl]
      exact h.2 _ fun hm => by
        obtain ⟨_, h2, h3⟩ := (mem_J q' k _).1 hm
        have := (hq s hl).1 ⟨h3, h2⟩
        exact hs ((mem_J q j s).2 ⟨by omega, this.2, this.1⟩)
    · exact cut_ge hl

theorem emod_vec {p : Nat} (hp : 0 < p) {l : List Nat} {f : Nat → Int} (h : ∀ s, s ∉ l → (p : Int) ∣ f s) : Vec p l fun s => f s % p :=
  ⟨fun s _ => ⟨Int.emod_nonneg _ (by omega), Int.emod_lt_of_pos _ (by omega)⟩, fun s hs => Int.emod_eq_zero_of_dvd (h s hs)⟩
theorem vec_mod {p : Nat} {l : List Nat} {x : Nat → Int} (h : Vec p l x) (s : Nat) : x s % p = x s := by
  by_cases e : s ∈ l
  · exact Int.emod_eq_of_lt (h.1 s e).1 (h.1 s e).2
  · rw [h.2 s e]; simp
theorem vec_ext {p : Nat} {l m : List Nat} {x y : Nat → Int} (h : Vec p l x) (k : Vec p m y) (s : Nat) (hd : (p : Int) ∣ x s - y s) : x s = y s := by
  rw [← vec_mod h s, ← vec_mod k s]
  exact Int.emod_eq_emod_iff_emod_sub_eq_zero.2 (Int.emod_eq_zero_of_dvd hd)
theorem bd_emod (p : Int) (f : Nat → Int) (t : Nat) : p ∣ bd (fun s => f s % p) t - bd f t := by
  unfold bd S
  refine sm_dvd p _ _ _ fun s _ => ?_
  obtain ⟨m, hm⟩ := dvd_emod_sub (f s) p
  exact ⟨sgn t s * m, by dsimp only; grind⟩
theorem bd_add (f g : Nat → Int) (t : Nat) : bd (fun s => f s + g s) t = bd f t + bd g t := by
  unfold bd S
  rw [← sm_add]
  exact sm_congr _ _ _ fun s _ => by grind
theorem bd_mul (c : Int) (f : Nat → Int) (t : Nat) : bd (fun s => c * f s) t = c * bd f t := by
  unfold bd S
  rw [← sm_mul]
  exact sm_congr _ _ _ fun s _ => by grind
theorem bd_congr {f g : Nat → Int} (t : Nat) (h : ∀ s, s < 64 → sub t s = true → pc s = pc t + 1 → f s = g s) : bd f t = bd g t := by
  unfold bd S
  refine sm_congr _ _ _ fun s hs => ?_
  by_cases e : sub t s = true ∧ pc s = pc t + 1
  · rw [h s (List.mem_range.1 hs) e.1 e.2]
  · rw [sgn_zero e]; simp
theorem bd_out (f : Nat → Int) {t : Nat} (ht : 64 ≤ t) : bd f t = 0 := by
  unfold bd S
  refine sm_zero _ _ fun s hs => ?_
  rw [sgn_zero fun h => by have := sub_le h.1; rw [List.mem_range] at hs; omega]; simp

end Hom
end Go.Proofs.YtenpcjmhlnalcaaGreat

/-! HOLES of a complex with one point more, of no program: its cycles are relative cycles; cones have no holes, suspensions have those of the complex, one size up. -/

namespace Go.Proofs.YtenpcjmhlnalcaaGreat
namespace Hom
open Sets Lin

/-- The complex q with the point n, whose link is l. -/
def addQ (n : Nat) (q l : Nat → Bool) (s : Nat) : Bool := if s < 2 ^ n then q s else l (s - 2 ^ n)
def Rel (p : Nat) (q l : Nat → Bool) (k : Nat) (u : Nat → Int) : Prop := Vec p (J q k) u ∧ ∀ t, t < 64 → l t = false → (p : Int) ∣ bd u t
def sgK (k : Nat) : Int := 1 - 2 * ((k % 2 : Nat) : Int)
theorem sgK_sq (k : Nat) : sgK k * sgK k = 1 := by unfold sgK; rcases Nat.mod_two_eq_zero_or_one k with h | h <;> rw [h] <;> decide
theorem sg_K {t k : Nat} (h : pc t = k) : sg t = sgK k := by unfold sg sgK; rw [h]

theorem addQ_lo {n : Nat} {q l : Nat → Bool} {s : Nat} (h : s < 2 ^ n) : addQ n q l s = q s := if_pos h
theorem addQ_hi {n : Nat} {q l : Nat → Bool} (s : Nat) : addQ n q l (2 ^ n + s) = l s := by unfold addQ; rw [if_neg (by omega), Nat.add_sub_cancel_left]
theorem low_false {n : Nat} {q : Nat → Bool} (h : Low n q) {s : Nat} (hs : s < 64) (hn : 2 ^ n ≤ s) : q s = false := by
  rw [Bool.eq_false_iff]; intro e; have := h s hs e; omega
theorem addQ_low {n : Nat} {q l : Nat → Bool} (hl : Low n l) : Low (n + 1) (addQ n q l) := by
  intro s hs h
  rw [pow_two]
  unfold addQ at h
  split at h
  · omega
  · have := hl _ (by have := Nat.two_pow_pos n; omega) h; omega

def glue (N : Nat) (u v : Nat → Int) (s : Nat) : Int := if s < N then u s else if s < N + N then v (s - N) else 0
theorem glue_lo {N : Nat} {u v : Nat → Int} {s : Nat} (h : s < N) : glue N u v s = u s := if_pos h
theorem glue_hi {N : Nat} {u v : Nat → Int} {s : Nat} (h : s < N) : glue N u v (N + s) = v s := by unfold glue; rw [if_neg (by omega), if_pos (by omega), Nat.add_sub_cancel_left]
theorem glue_out {N : Nat} {u v : Nat → Int} {s : Nat} (h : N + N ≤ s) : glue N u v s = 0 := by unfold glue; rw [if_neg (by omega), if_neg (by omega)]

/-- The border of a vector of two pieces. -/
theorem bd_lo {n : Nat} (hn : n ≤ 5) {y : Nat → Int} (hy : ∀ s, 2 ^ n + 2 ^ n ≤ s → s < 64 → y s = 0) {t : Nat} (ht : t < 2 ^ n) : bd y t = bd (cut (2 ^ n) 0 y) t + sg t * y (2 ^ n + t) := by
  have h64 := pow64 (n := n + 1) (by omega)
  rw [pow_two] at h64
  rw [bd_cut (by omega)]
  unfold bd
  rw [S_two h64 fun s h1 h2 => by rw [hy s h1 h2]; simp]
  congr 1
  · exact sm_congr _ _ _ fun s _ => by rw [Nat.zero_add]
  · rw [sm_congr _ _ (fun s => if s = t then sg t * y (2 ^ n + s) else 0) fun s hs => by
      rw [blk1 hn ht (List.mem_range.1 hs)]; split <;> simp]
    rw [sm_one t _ _ List.nodup_range (List.mem_range.2 ht) fun s _ hne => if_neg hne, if_pos rfl]
theorem bd_hi {n : Nat} (hn : n ≤ 5) {y : Nat → Int} (hy : ∀ s, 2 ^ n + 2 ^ n ≤ s → s < 64 → y s = 0) {t : Nat} (ht : t < 2 ^ n) : bd y (2 ^ n + t) = bd (cut (2 ^ n) (2 ^ n) y) t := by
  have h64 := pow64 (n := n + 1) (by omega)
  rw [pow_two] at h64
  rw [bd_cut (by omega)]
  unfold bd
  rw [S_two h64 fun s h1 h2 => by rw [hy s h1 h2]; simp, sm_zero _ _ fun s hs => by rw [blk3 hn ht (List.mem_range.1 hs)]; simp]
  rw [Int.zero_add]
  exact sm_congr _ _ _ fun s hs => by rw [blk2 hn ht (List.mem_range.1 hs)]

theorem add_zero_at {p n k : Nat} {q l : Nat → Bool} (hl : Low n l) {y : Nat → Int} (hy : Vec p (J (addQ n q l) k) y) : ∀ s, 2 ^ n + 2 ^ n ≤ s → s < 64 → y s = 0 := fun s h1 h2 =>
  vec_zero hy fun _ h => by
    have := addQ_low (q := q) hl s h2 h.2
    rw [pow_two] at this; omega

theorem cut_lo_vec {p n k : Nat} (hn : n ≤ 5) {q l : Nat → Bool} (hq : Low n q) {y : Nat → Int} (hy : Vec p (J (addQ n q l) k) y) : Vec p (J q k) (cut (2 ^ n) 0 y) :=
  vec_cut (by have := pow64 (n := n) (by omega); omega) hq (fun s hs => by rw [Nat.zero_add, addQ_lo hs]) hy
theorem cut_hi_vec {p n k : Nat} (hn : n ≤ 5) {q l : Nat → Bool} (hl : Low n l) {y : Nat → Int} (hy : Vec p (J (addQ n q l) (k + 1)) y) : Vec p (J l k) (cut (2 ^ n) (2 ^ n) y) := by
  have h64 := pow64 (n := n + 1) (by omega)
  rw [pow_two] at h64
  exact vec_cut h64 hl (fun s hs => by rw [addQ_hi, pc_blk hn hs]; exact and_congr_right fun _ => by omega) hy

theorem glue_vec {p n k : Nat} (hn : n ≤ 5) {q l : Nat → Bool} (hl : Low n l) {u v : Nat → Int} (hu : Vec p (J q (k + 1)) u) (hv : Vec p (J l k) v) : Vec p (J (addQ n q l) (k + 1)) (glue (2 ^ n) u v) := by
  have h64 := pow64 (n := n + 1) (by omega)
  rw [pow_two] at h64
  refine ⟨fun s hs => ?_, fun s hs => ?_⟩
  · obtain ⟨h1, h2, h3⟩ := (mem_J _ _ s).1 hs
    by_cases e : s < 2 ^ n
    · rw [glue_lo e]; rw [addQ_lo e] at h3
      exact hu.1 s ((mem_J q _ s).2 ⟨h1, h2, h3⟩)
    · obtain ⟨t, rfl⟩ : ∃ t, s = 2 ^ n + t := ⟨s - 2 ^ n, by omega⟩
      rw [addQ_hi] at h3
      have ht := hl t (by have := Nat.two_pow_pos n; omega) h3
      rw [glue_hi ht]; rw [pc_blk hn ht] at h2
      exact hv.1 t ((mem_J l _ t).2 ⟨by omega, by omega, h3⟩)
  · by_cases e : s < 2 ^ n
    · rw [glue_lo e]
      exact hu.2 s fun hm => hs (by
        obtain ⟨h1, h2, h3⟩ := (mem_J q _ s).1 hm
        exact (mem_J _ _ s).2 ⟨h1, h2, by rw [addQ_lo e]; exact h3⟩)
    · by_cases e2 : s < 2 ^ n + 2 ^ n
      · obtain ⟨t, rfl⟩ : ∃ t, s = 2 ^ n + t := ⟨s - 2 ^ n, by omega⟩
        rw [glue_hi (by omega)]
        exact hv.2 t fun hm => hs (by
          obtain ⟨h1, h2, h3⟩ := (mem_J l _ t).1 hm
          exact (mem_J _ _ _).2 ⟨by omega, by rw [pc_blk hn (by omega), h2], by rw [addQ_hi]; exact h3⟩)
      · exact glue_out (by omega)

theorem low_vec {p n k : Nat} {q : Nat → Bool} (hq : Low n q) {u : Nat → Int} (hu : Vec p (J q k) u) {s : Nat} (hs : 2 ^ n ≤ s) : u s = 0 := vec_zero hu fun h64 h => by
  have := hq s h64 h.2; omega
theorem cut_glue_lo {p n k : Nat} {q : Nat → Bool} (hq : Low n q) {u v : Nat → Int} (hu : Vec p (J q k) u) : cut (2 ^ n) 0 (glue (2 ^ n) u v) = u := by
  funext s
  by_cases e : s < 2 ^ n
  · rw [cut_lt e, Nat.zero_add, glue_lo e]
  · rw [cut_ge e, low_vec hq hu (by omega)]
theorem cut_glue_hi {p n k : Nat} {l : Nat → Bool} (hl : Low n l) {u v : Nat → Int} (hv : Vec p (J l k) v) : cut (2 ^ n) (2 ^ n) (glue (2 ^ n) u v) = v := by
  funext s
  by_cases e : s < 2 ^ n
  · rw [cut_lt e, glue_hi e]
  · rw [cut_ge e, low_vec hl hv (by omega)]
theorem glue_cut {p n k : Nat} {q l : Nat → Bool} (hn : n ≤ 5) (hl : Low n l) {y : Nat → Int} (hy : Vec p (J (addQ n q l) k) y) : glue (2 ^ n) (cut (2 ^ n) 0 y) (cut (2 ^ n) (2 ^ n) y) = y := by
  have h64 := pow64 (n := n + 1) (by omega)
  rw [pow_two] at h64
  funext s
  by_cases e : s < 2 ^ n
  · rw [glue_lo e, cut_lt e, Nat.zero_add]
  · by_cases e2 : s < 2 ^ n + 2 ^ n
    · obtain ⟨t, rfl⟩ : ∃ t, s = 2 ^ n + t := ⟨s - 2 ^ n, by omega⟩
      rw [glue_hi (by omega), cut_lt (by omega)]
    · rw [glue_out (by omega)]
      by_cases e3 : s < 64
      · exact (add_zero_at hl hy s (by omega) e3).symm
      · exact (hy.2 s fun hm => e3 ((mem_J _ _ s).1 hm).1).symm

theorem addQ_down {n : Nat} {q l : Nat → Bool} (hq : Down q) (hl : Down l) (hlow : Low n l) (hlq : ∀ s, s < 64 → l s = true → q s = true) : Down (addQ n q l) := by
  intro s t hs ht h k
  by_cases e : t < 2 ^ n
  · have := sub_le h
    rw [addQ_lo e] at k
    rw [addQ_lo (by omega)]
    exact hq s t hs ht h k
  · obtain ⟨t', rfl⟩ : ∃ t', t = 2 ^ n + t' := ⟨t - 2 ^ n, by omega⟩
    rw [addQ_hi] at k
    have h2p := Nat.two_pow_pos n
    have ht' := hlow t' (by omega) k
    by_cases e2 : s < 2 ^ n
    · rw [addQ_lo e2]
      refine hlq s hs (hl s t' hs (by omega) ?_ k)
      rw [sub_iff] at h ⊢
      intro i hi
      have h1 := h i hi
      have hin : i < n := Nat.lt_of_not_le fun hh => by
        rw [Nat.testBit_lt_two_pow (Nat.lt_of_lt_of_le e2 (Nat.pow_le_pow_right (by decide) hh))] at hi; exact absurd hi (by decide)
      rwa [Nat.testBit_two_pow_add_gt hin] at h1
    · obtain ⟨s', rfl⟩ : ∃ s', s = 2 ^ n + s' := ⟨s - 2 ^ n, by omega⟩
      rw [addQ_hi]
      have hs' : s' < 2 ^ n := by have := sub_le h; omega
      refine hl s' t' (by omega) (by omega) ?_ k
      rw [sub_iff] at h ⊢
      intro i hi
      have hin : i < n := Nat.lt_of_not_le fun hh => by
        rw [Nat.testBit_lt_two_pow (Nat.lt_of_lt_of_le hs' (Nat.pow_le_pow_right (by decide) hh))] at hi; exact absurd hi (by decide)
      have h1 := h i (by rw [Nat.testBit_two_pow_add_gt hin]; exact hi)
      rwa [Nat.testBit_two_pow_add_gt hin] at h1

/-- THE CYCLES OF A COMPLEX WITH ONE POINT MORE are the relative cycles. -/
theorem card_add {p : Nat} (hp : 0 < p) {n : Nat} (hn : n ≤ 5) {q l : Nat → Bool} (hq : Low n q) (hl : Low n l) (dq : Down q) (dl : Down l) (hlq : ∀ s, s < 64 → l s = true → q s = true) {k c : Nat}
    (h : Card (Rel p q l (k + 1)) c) : Card (Cyc p (addQ n q l) (k + 1)) c := by
  have h64 := pow64 (n := n + 1) (by omega)
  rw [pow_two] at h64
  have hdown := addQ_down dq dl hl hlq
  have hv : ∀ u, Rel p q l (k + 1) u → Vec p (J l k) fun s => (-sgK k * bd u s) % p := fun u hu => emod_vec hp fun s hs => by
    by_cases e : s < 64
    · by_cases e2 : l s = true
      · by_cases e3 : pc s = k
        · exact absurd ((mem_J l k s).2 ⟨e, e3, e2⟩) hs
        · rw [bd_off dq hu.1 e (by omega)]; exact ⟨0, by simp⟩
      · obtain ⟨m, hm⟩ := hu.2 s e (by simpa using e2)
        exact ⟨-sgK k * m, by rw [hm]; grind⟩
    · rw [bd_out _ (by omega)]; exact ⟨0, by simp⟩
  refine h.bij (fun u => glue (2 ^ n) u fun s => (-sgK k * bd u s) % p) (fun y => cut (2 ^ n) 0 y) ?_ ?_ ?_ ?_
  · intro u hu
    have hg := glue_vec hn hl hu.1 (hv u hu)
    refine ⟨hg, fun t ht => ?_⟩
    have hz := add_zero_at hl hg
    by_cases e : t < 2 ^ n
    · rw [bd_lo hn hz e, cut_glue_lo hq hu.1, glue_hi e]
      by_cases e3 : pc t = k
      · rw [sg_K e3]
        obtain ⟨m, hm⟩ := dvd_emod_sub (-sgK k * bd u t) p
        have := sgK_sq k
        exact ⟨sgK k * m, by grind⟩
      · rw [bd_off dq hu.1 ht (by omega)]; exact ⟨0, by simp⟩
    · by_cases e2 : t < 2 ^ n + 2 ^ n
      · obtain ⟨t, rfl⟩ : ∃ t', t = 2 ^ n + t' := ⟨t - 2 ^ n, by omega⟩
        rw [bd_hi hn hz (by omega), cut_glue_hi hl (hv u hu)]
        rw [dvd_of_emod (bd_emod p _ t), bd_mul, bd_bd u (by omega)]; exact ⟨0, by simp⟩
      · have : addQ n q l t = false := low_false (addQ_low hl) ht (by rw [pow_two]; omega)
        rw [bd_off hdown hg ht (by rw [this]; simp)]; exact ⟨0, by simp⟩
  · intro y hy
    refine ⟨cut_lo_vec hn hq hy.1, fun t ht hlt => ?_⟩
    by_cases e : t < 2 ^ n
    · have := hy.2 t ht
      rw [bd_lo hn (add_zero_at hl hy.1) e] at this
      have hz : cut (2 ^ n) (2 ^ n) y t = 0 := vec_zero (cut_hi_vec hn hl hy.1) fun _ h => by rw [hlt] at h; exact absurd h.2 (by decide)
      rw [cut_lt e] at hz
      rw [hz] at this
      simpa using this
    · rw [bd_off dq (cut_lo_vec hn hq hy.1) ht (by rw [low_false hq ht (by omega)]; simp)]; exact ⟨0, by simp⟩
  · intro u hu
    exact cut_glue_lo hq hu.1
  · intro y hy
    have hu := cut_lo_vec hn hq hy.1
    have hv' := cut_hi_vec hn hl hy.1
    have hrel : Rel p q l (k + 1) (cut (2 ^ n) 0 y) := by
      refine ⟨hu, fun t ht hlt => ?_⟩
      by_cases e : t < 2 ^ n
      · have := hy.2 t ht
        rw [bd_lo hn (add_zero_at hl hy.1) e] at this
        have hz : cut (2 ^ n) (2 ^ n) y t = 0 := vec_zero hv' fun _ h => by rw [hlt] at h; exact absurd h.2 (by decide)
        rw [cut_lt e] at hz
        rw [hz] at this
        simpa using this
      · rw [bd_off dq hu ht (by rw [low_false hq ht (by omega)]; simp)]; exact ⟨0, by simp⟩
    rw [show (fun s => (-sgK k * bd (cut (2 ^ n) 0 y) s) % (p : Int)) = cut (2 ^ n) (2 ^ n) y from ?_]
    · exact glue_cut hn hl hy.1
    · funext s
      refine vec_ext (hv _ hrel) hv' s ?_
      by_cases e : s < 2 ^ n
      · rw [cut_lt e]
        by_cases e3 : pc s = k
        · have h1 := hy.2 s (by omega)
          rw [bd_lo hn (add_zero_at hl hy.1) e, sg_K e3] at h1
          obtain ⟨a, ha⟩ := h1
          obtain ⟨m, hm⟩ := dvd_emod_sub (-sgK k * bd (cut (2 ^ n) 0 y) s) p
          have := sgK_sq k
          exact ⟨m - sgK k * a, by grind⟩
        · have : cut (2 ^ n) (2 ^ n) y s = 0 := vec_zero hv' fun _ h => e3 h.1
          rw [cut_lt e] at this
          rw [this, bd_off dq hu (by omega) (by omega)]; exact ⟨0, by simp⟩
      · rw [cut_ge e, low_vec hl (hv _ hrel) (by omega)]; exact ⟨0, by simp⟩

end Hom
end Go.Proofs.YtenpcjmhlnalcaaGreat
