/-
  TEXTS of one claim, put together: WHol2, WHol3, JoinLaw.
-/
import Derived.Test.YthobncbggaggjaaJg20
/-! WALKS of chapter 14 (spec): holes counted; no holes; like a sphere. -/

namespace Go.Proofs.Ythobncbggaggjaa
open Go.RowKit
open Sets Lin

def tot (L : List Int) : Int := L.foldl (fun a x => a + x) 0
theorem tot_take (L : List Int) (k : Nat) (h : k < L.length) : tot (L.take (k + 1)) = tot (L.take k) + L.getD k 0 := by
  unfold tot
  rw [List.take_add_one, List.foldl_append]
  simp [List.getD, List.getElem?_eq_getElem h]
theorem tot_bound (L : List Int) (h : ∀ j, j < L.length → -200 ≤ L.getD j 0 ∧ L.getD j 0 ≤ 200) : ∀ k, k ≤ L.length → -(200 * (k : Int)) ≤ tot (L.take k) ∧ tot (L.take k) ≤ 200 * (k : Int)
  | 0, _ => by simp [tot]
  | k + 1, hk => by
    have ih := tot_bound L h k (by omega)
    have hb := h k (by omega)
    rw [tot_take L k (by omega)]
    omega
theorem tot_zero (L : List Int) (h : ∀ x, x ∈ L → x = 0) : tot L = 0 := by
  unfold tot
  have : ∀ (l : List Int) (a : Int), (∀ x, x ∈ l → x = 0) → l.foldl (fun a x => a + x) a = a := by
    intro l
    induction l with
    | nil => intro a _; rfl
    | cons x l ih => intro a hh; rw [List.foldl_cons, hh x (List.mem_cons_self ..), ih _ fun y hy => hh y (List.mem_cons_of_mem _ hy)]; omega
  exact this L 0 h
theorem holF_bound {p : Nat} (hp : p = 2 ∨ p = 3 ∨ p = 5) (n : Int) (xs : List Int) (m j : Nat) (h : j < (holF p (faces n xs) m).length) : -200 ≤ (holF p (faces n xs) m).getD j 0 ∧ (holF p (faces n xs) m).getD j 0 ≤ 200 := by
  rw [holF_length] at h
  have hr : ∀ k, rkF p (faces n xs) k ≤ 64 := fun k => Nat.le_trans (rank_le_cols hp (borM_wide _ _)) (sized_le n xs _)
  have h1 := hr j
  have h2 := hr (j + 1)
  have h3 := Nat.le_trans (cnt_le j (faces n xs)) (faces_le n xs)
  unfold holF
  simp only [List.getD, List.getElem?_map, List.getElem?_range h, Option.map_some, Option.getD_some]
  unfold loR hiR
  split <;> split <;> omega

set_option maxRecDepth 100000 in
set_option maxHeartbeats 4000000 in
theorem countHoles_any (p : Nat) (hp : p = 2 ∨ p = 3 ∨ p = 5) (n : Int) (a : Option Addr) (c : Nat) (xs : List Int) (hlen : xs.length ≤ 1099511627776) (w : World) (h : Ints w a xs) :
    Calls Try.prog 59 #[cx n (.slice a xs.length c), .int .i64 (p : Int)] w fun e w' => e = .returned (.int .i64 (tot (holF p (faces n xs) (top (faces n xs))))) ∧ Below w.heap.size w w' := by
  have hb0 : Below w.heap.size w (w.alloc (Obj.cells #[Value.int IntKind.i64 n, Value.slice a xs.length c] 26)) := (Below.refl _ _).alloc (Nat.le_refl _) _
  have htwo := Two.new w (.int .i64 n) (.slice a xs.length c) 26
  have H := Lib.hid (h.keeps hb0)
  have HB0 := Lib.hid hb0
  have HT := Lib.hid htwo
  have HC := Lib.hid (fun W (hh : Ints W a xs) => holesMod_any p hp n a c xs hlen W hh)
  have HBD := Lib.hid (tot_bound _ (holF_bound hp n xs (top (faces n xs))))
  have HBJ := Lib.hid (holF_bound hp n xs (top (faces n xs)))
  have htl : (holF p (faces n xs) (top (faces n xs))).length ≤ 7 := by rw [holF_length]; exact top_le _
  obtain ⟨L, hL⟩ : ∃ L, holF p (faces n xs) (top (faces n xs)) = L := ⟨_, rfl⟩
  rw [hL] at HC HBD HBJ htl
  rw [hL]
  clear h hb0 htwo hp hL
  go_enter Try.func59, Try.ntmps59
  obtain ⟨t0, t1, t2, _, _⟩ := HT.out
  go_wp2_with fail
  refine (HC.out _ H.out).mono ?_
  rintro e w1 ⟨v1, rfl, hO1, hb1⟩
  obtain ⟨al, dl, gl, rfl, -, hrl⟩ := hO1.at
  have HB1 : Hid (Below w.heap.size w w1) := HB0.out.trans (hb1.mono HB0.out.size)
  have HR := Lib.hid hrl
  clear hO1 hrl hb1 t0 t1 t2
  go_wp2
  go_loop [5, 7] (fun s i => ∃ k : Nat, k ≤ L.length ∧ i = .int .i64 (k : Int) ∧ s = .int .i64 (tot (L.take k))) (fun _ i => L.length - (intOf i).toNat)
  case atStart => exact ⟨0, Nat.zero_le _, rfl, rfl⟩
  case round =>
    obtain ⟨k, hk, rfl, rfl⟩ := hrel
    by_cases hlt : k < L.length
    · obtain ⟨ea, hg1, hc1, _⟩ := HR.out k hlt
      have hbd := HBD.out k hk
      have hbj := HBJ.out k hlt
      have HTT := Lib.hid (tot_take L k hlt)
      obtain ⟨x, hx⟩ : ∃ x, L.getD k 0 = x := ⟨_, rfl⟩
      obtain ⟨s, hs⟩ : ∃ s, tot (L.take k) = s := ⟨_, rfl⟩
      rw [hx] at hc1 hbj HTT
      rw [hs] at hbd HTT
      rw [hs]
      obtain rfl := ea
      clear hx hs
      go_wp2
      go_round
      case rel => exact ⟨k + 1, by omega, by go_num, by rw [HTT.out]⟩
      case measure => simp [intOf]; omega
    · have E := Lib.hid (show k = L.length by omega)
      go_wp2
      go_ret
      exact ⟨ret_int (by rw [E.out, List.take_length]), HB1.out⟩

set_option maxRecDepth 100000 in
set_option maxHeartbeats 4000000 in
theorem noHoles_any (p : Nat) (hp : p = 2 ∨ p = 3 ∨ p = 5) (n : Int) (a : Option Addr) (c : Nat) (xs : List Int) (hlen : xs.length ≤ 1099511627776) (w : World) (h : Ints w a xs) (hpos : 0 < top (faces n xs)) (htot : tot (holF p (faces n xs) (top (faces n xs))) = 0) :
    Calls Try.prog 30 #[cx n (.slice a xs.length c), .int .i64 (p : Int)] w fun e w' => e = .returned (.bool true) ∧ Below w.heap.size w w' := by
  have hb0 : Below w.heap.size w (w.alloc (Obj.cells #[Value.int IntKind.i64 n, Value.slice a xs.length c] 26)) := (Below.refl _ _).alloc (Nat.le_refl _) _
  have htwo := Two.new w (.int .i64 n) (.slice a xs.length c) 26
  have H := Lib.hid (h.keeps hb0)
  have HB0 := Lib.hid hb0
  have HT := Lib.hid htwo
  have HC := Lib.hid (fun W (hh : Ints W a xs) => holesMod_any p hp n a c xs hlen W hh)
  have HD := Lib.hid (fun W (hh : Ints W a xs) => countHoles_any p hp n a c xs hlen W hh)
  rw [htot] at HD
  have hL7 := holF_length p (faces n xs) (top (faces n xs))
  obtain ⟨m, hm⟩ : ∃ m, top (faces n xs) = m := ⟨_, rfl⟩
  rw [hm] at hL7 hpos HC
  obtain ⟨L, hL⟩ : ∃ L, holF p (faces n xs) m = L := ⟨_, rfl⟩
  rw [hL] at hL7 HC
  have HL7 := Lib.hid hL7
  clear h hb0 htwo hp hL htot hm hL7
  have hdp : decide ((0 : Int) < (m : Int)) = true := by simp; omega
  go_enter Try.func30, Try.ntmps30
  obtain ⟨t0, t1, t2, _, _⟩ := HT.out
  go_wp2_with fail
  refine (HC.out _ H.out).mono ?_
  rintro e w1 ⟨v1, rfl, hO1, hb1⟩
  obtain ⟨al, dl, gl, rfl, -, -⟩ := hO1.at
  rw [HL7.out]
  have HB1 : Hid (Below w.heap.size w w1) := HB0.out.trans (hb1.mono HB0.out.size)
  have HT1 := Lib.hid (HT.out.keeps hb1)
  have H1 := Lib.hid (H.out.keeps hb1)
  have hz1 := HB1.out.size
  clear hO1 hb1 t0 t1 t2
  obtain ⟨t0, t1, t2, _, _⟩ := HT1.out
  go_wp2_with fail
  refine (HD.out _ H1.out).mono ?_
  rintro e w2 ⟨rfl, hb2⟩
  have HB2 : Hid (Below w.heap.size w w2) := HB1.out.trans (hb2.mono hz1)
  clear hb2 t0 t1 t2
  go_wp2
  go_ret
  exact ⟨rfl, HB2.out⟩

end Go.Proofs.Ythobncbggaggjaa

/-! WALK of chapter 14 (spec): like a sphere, where it is so. -/

namespace Go.Proofs.Ythobncbggaggjaa
open Go.RowKit
open Sets Lin

set_option maxRecDepth 100000 in
set_option maxHeartbeats 4000000 in
theorem sphere_any (p : Nat) (hp : p = 2 ∨ p = 3 ∨ p = 5) (n : Int) (a : Option Addr) (c : Nat) (xs : List Int) (hlen : xs.length ≤ 1099511627776) (w : World) (h : Ints w a xs) (hpos : 0 < top (faces n xs)) (hlast : (holF p (faces n xs) (top (faces n xs))).getD (top (faces n xs) - 1) 0 = 1) (htot : tot (holF p (faces n xs) (top (faces n xs))) = 1) :
    Calls Try.prog 33 #[cx n (.slice a xs.length c), .int .i64 (p : Int)] w fun e w' => e = .returned (.bool true) ∧ Below w.heap.size w w' := by
  have hb0 : Below w.heap.size w (w.alloc (Obj.cells #[Value.int IntKind.i64 n, Value.slice a xs.length c] 26)) := (Below.refl _ _).alloc (Nat.le_refl _) _
  have htwo := Two.new w (.int .i64 n) (.slice a xs.length c) 26
  have H := Lib.hid (h.keeps hb0)
  have HB0 := Lib.hid hb0
  have HT := Lib.hid htwo
  have HC := Lib.hid (fun W (hh : Ints W a xs) => holesMod_any p hp n a c xs hlen W hh)
  have HD := Lib.hid (fun W (hh : Ints W a xs) => countHoles_any p hp n a c xs hlen W hh)
  rw [htot] at HD
  have hL7 := holF_length p (faces n xs) (top (faces n xs))
  obtain ⟨m, hm⟩ : ∃ m, top (faces n xs) = m := ⟨_, rfl⟩
  have hm7 : m ≤ 7 := by rw [← hm]; exact top_le _
  rw [hm] at hL7 hpos HC hlast
  obtain ⟨L, hL⟩ : ∃ L, holF p (faces n xs) m = L := ⟨_, rfl⟩
  rw [hL] at hL7 HC hlast
  have HL7 := Lib.hid hL7
  have HLA := Lib.hid hlast
  clear h hb0 htwo hp hL htot hm hL7 hlast
  have hdp : decide ((0 : Int) < (m : Int)) = true := by simp; omega
  go_enter Try.func33, Try.ntmps33
  obtain ⟨t0, t1, t2, _, _⟩ := HT.out
  go_wp2_with fail
  refine (HC.out _ H.out).mono ?_
  rintro e w1 ⟨v1, rfl, hO1, hb1⟩
  obtain ⟨al, dl, gl, rfl, -, hrl⟩ := hO1.at
  obtain ⟨ea, hg1, hc1, _⟩ := hrl (m - 1) (by rw [HL7.out]; omega)
  rw [HLA.out] at hc1
  rw [HL7.out]
  obtain ⟨m1, hm1⟩ : ∃ m1 : Nat, m = m1 + 1 := ⟨m - 1, by omega⟩
  subst hm1
  rw [Nat.add_sub_cancel] at hc1
  have HB1 : Hid (Below w.heap.size w w1) := HB0.out.trans (hb1.mono HB0.out.size)
  have HT1 := Lib.hid (HT.out.keeps hb1)
  have H1 := Lib.hid (H.out.keeps hb1)
  have hz1 := HB1.out.size
  clear hO1 hb1 t0 t1 t2 hrl
  subst ea
  obtain ⟨t0, t1, t2, _, _⟩ := HT1.out
  go_wp2_with fail
  refine (HD.out _ H1.out).mono ?_
  rintro e w2 ⟨rfl, hb2⟩
  have HB2 : Hid (Below w.heap.size w w2) := HB1.out.trans (hb2.mono hz1)
  clear hb2 t0 t1 t2
  go_wp2
  go_ret
  exact ⟨rfl, HB2.out⟩

end Go.Proofs.Ythobncbggaggjaa

/-! JOINS, of no program: what the chapter's promise says of them. -/

namespace Go.Proofs.Ythobncbggaggjaa
open Sets Lin Hom Join

theorem joinQ_low {n m : Nat} {q r : Nat → Bool} (hr : Low m r) : ∀ s, s < 64 → joinQ n q r s = true → s < 2 ^ (n + m) := fun s hs h => by
  unfold joinQ at h
  rw [Bool.and_eq_true] at h
  have hd := Nat.div_le_self s (2 ^ n)
  have h1 := hr (s / 2 ^ n) (by omega) h.2
  rw [Nat.pow_add]
  exact (Nat.div_lt_iff_lt_mul (Nat.two_pow_pos n)).1 h1 |> fun h => by rw [Nat.mul_comm]; exact h
theorem join_isC {n m : Int} {xs ys : List Int} (h : joinOk n m xs ys = true) : isC (n + m) (maxQ (joinQ n.toNat (inF xs) (inF ys))) = true := by
  obtain ⟨hx, hy, hnm⟩ := (joinOk_iff n m xs ys).1 h
  have hn := isC_n hx
  have hm := isC_n hy
  refine maxQ_isC _ _ (by omega) hnm (joinQ_down (inF_down xs) (inF_down ys)) fun s hs hq => ?_
  have h1 := joinQ_low (inF_low hy) s hs hq
  rw [show n.toNat + m.toNat = (n + m).toNat by omega] at h1
  have hp : (2 : Int) ^ (n + m).toNat = ((2 ^ (n + m).toNat : Nat) : Int) := by push_cast; rfl
  unfold setB
  rw [decide_eq_true_eq, hp]
  refine ⟨?_, ?_, ?_, ?_⟩ <;> omega
/-- Faces of a join are pairs of faces. -/
theorem join_count {n m : Int} {xs ys : List Int} (h : joinOk n m xs ys = true) : (faces (n + m) (maxQ (joinQ n.toNat (inF xs) (inF ys)))).length = (faces n xs).length * (faces m ys).length := by
  obtain ⟨hx, hy, hnm⟩ := (joinOk_iff n m xs ys).1 h
  have hn := isC_n hx
  have hm := isC_n hy
  rw [maxQ_faces _ _ (joinQ_down (inF_down xs) (inF_down ys)) (join_isC h), faces_ord hx, faces_ord hy]
  exact join_faces (n := n.toNat) (m := m.toNat) (by omega) (inF_low hx) (inF_low hy)

theorem isC_one : isC 1 [1] = true := by decide +kernel
theorem isC_two : isC 2 [1, 2] = true := by decide +kernel
/-- Cones have no holes. -/
theorem cone_none {n : Int} {xs : List Int} (h : joinOk n 1 xs [1] = true) (h0 : xs ≠ []) :
    0 < top (faces (n + 1) (maxQ (joinQ n.toNat (inF xs) (inF [1])))) ∧ tot (holF 2 (faces (n + 1) (maxQ (joinQ n.toNat (inF xs) (inF [1])))) (top (faces (n + 1) (maxQ (joinQ n.toNat (inF xs) (inF [1])))))) = 0 := by
  obtain ⟨hx, hy, hnm⟩ := (joinOk_iff n 1 xs [1]).1 h
  have hc := join_isC h
  obtain ⟨h1, h2⟩ := holL_cone isP2 hx (by omega) h0 hc
  rw [holF_holL isP2 hc]
  rw [holL_length] at h1
  exact ⟨h1, tot_zero _ h2⟩
/-- Suspensions have the holes of the complex, one size up. -/
theorem susp_list {n : Int} {xs : List Int} (h : joinOk n 2 xs [1, 2] = true) (h0 : xs ≠ []) :
    holF 3 (faces (n + 2) (maxQ (joinQ n.toNat (inF xs) (inF [1, 2])))) (top (faces (n + 2) (maxQ (joinQ n.toNat (inF xs) (inF [1, 2]))))) = 0 :: holF 3 (faces n xs) (top (faces n xs)) := by
  obtain ⟨hx, hy, hnm⟩ := (joinOk_iff n 2 xs [1, 2]).1 h
  have hc := join_isC h
  rw [holF_holL isP3 hc, holF_holL isP3 hx]
  exact holL_susp isP3 hx (by omega) h0 hc

theorem testBit_and_pow (a n : Nat) (h : a.testBit n = true) : a &&& 2 ^ n = 2 ^ n := by
  apply Nat.eq_of_testBit_eq
  intro i
  rw [Nat.testBit_and, Nat.testBit_two_pow]
  by_cases e : n = i
  · subst e; rw [h]; simp
  · simp [e]
theorem fold_bit (n : Nat) : ∀ (L : List Int) (a : Nat), a.testBit n = true → (∀ x, x ∈ L → x.toNat.testBit n = true) → (L.foldl (fun a x => a &&& x.toNat) a).testBit n = true
  | [], _, h, _ => h
  | x :: L, a, h, hL => by
    rw [List.foldl_cons]
    exact fold_bit n L _ (by rw [Nat.testBit_and, h, hL x (List.mem_cons_self ..)]; rfl) fun y hy => hL y (List.mem_cons_of_mem _ hy)
/-- Each facet of a cone has its point. -/
theorem cone_bit {n : Int} {xs : List Int} (h : joinOk n 1 xs [1] = true) (h0 : xs ≠ []) :
    conePts (n + 1) (maxQ (joinQ n.toNat (inF xs) (inF [1]))) &&& 2 ^ n.toNat = 2 ^ n.toNat := by
  obtain ⟨hx, hy, hnm⟩ := (joinOk_iff n 1 xs [1]).1 h
  have hn := isC_n hx
  have hc := join_isC h
  have hne : maxQ (joinQ n.toNat (inF xs) (inF [1])) ≠ [] := by
    intro e
    have h1 : inF (maxQ (joinQ n.toNat (inF xs) (inF [1]))) 0 = true := by
      rw [inF_maxQ _ (joinQ_down (inF_down xs) (inF_down [1])) 0 (by decide)]
      unfold joinQ
      rw [Nat.zero_mod, Nat.zero_div, inF_zero h0]
      decide
    rw [e] at h1
    simp [inF] at h1
  refine testBit_and_pow _ _ ?_
  unfold conePts
  rw [if_pos ⟨hc, hne⟩]
  have h63 : ∀ k : Nat, k ≤ 5 → (63 : Nat).testBit k = true := by
    intro k hk
    rcases (by omega : k = 0 ∨ k = 1 ∨ k = 2 ∨ k = 3 ∨ k = 4 ∨ k = 5) with rfl | rfl | rfl | rfl | rfl | rfl <;> decide
  refine fold_bit n.toNat _ 63 (h63 _ (by omega)) fun x hx' => ?_
  obtain ⟨s, rfl, hs, hq, hm⟩ := (mem_maxQ _ x).1 hx'
  rw [Int.toNat_natCast]
  have hlow := joinQ_low (n := n.toNat) (q := inF xs) (inF_low hy) s hs hq
  have h2 := Nat.two_pow_pos n.toNat
  have hp6 : 2 ^ (n.toNat + 1) ≤ 64 := Nat.pow_le_pow_right (n := 2) (by decide) (show n.toNat + 1 ≤ 6 by omega)
  rw [show (1 : Int).toNat = 1 from rfl] at hlow
  -- the face with the point
  obtain ⟨t, ht⟩ : ∃ t, s % 2 ^ n.toNat + 2 ^ n.toNat = t := ⟨_, rfl⟩
  have hmod := Nat.mod_lt s h2
  have htm : t % 2 ^ n.toNat = s % 2 ^ n.toNat := by rw [← ht, Nat.add_mod_right, Nat.mod_mod]
  have htd : t / 2 ^ n.toNat = 1 := by rw [← ht, Nat.add_div_right _ h2, Nat.div_eq_of_lt hmod]
  have htq : joinQ n.toNat (inF xs) (inF [1]) t = true := by
    unfold joinQ at hq ⊢
    rw [Bool.and_eq_true] at hq
    rw [htm, htd, hq.1]
    decide
  have ht64 : t < 64 := by rw [Nat.pow_succ] at hp6; omega
  have hsub : sub s t = true := by
    have hsd : s / 2 ^ n.toNat < 2 := (Nat.div_lt_iff_lt_mul h2).2 (by rw [Nat.pow_succ] at hlow; omega)
    have e : t = s % 2 ^ n.toNat + 2 ^ n.toNat * 1 := by omega
    rw [e, sub_parts hmod, Bool.and_eq_true]
    refine ⟨sub_refl _, ?_⟩
    generalize s / 2 ^ n.toNat = d at hsd ⊢
    rcases (by omega : d = 0 ∨ d = 1) with rfl | rfl <;> decide
  have hst : t = s := hm t ht64 htq hsub
  rw [← hst, ← ht, Nat.add_comm, Nat.testBit_two_pow_add_eq, Nat.testBit_lt_two_pow hmod]
  rfl
/-- The complex without faces has a cone without faces. -/
theorem cone_nil (n : Int) : conePts (n + 1) (maxQ (joinQ n.toNat (inF []) (inF [1]))) = 0 := by
  have h : maxQ (joinQ n.toNat (inF []) (inF [1])) = [] := by
    rw [show maxQ (joinQ n.toNat (inF []) (inF [1])) = maxQ (fun _ => false) from maxQ_congr fun s _ => by unfold joinQ; rfl]
    decide +kernel
  unfold conePts
  rw [if_neg (by rintro ⟨_, h'⟩; exact h' h)]

theorem cross_has (k : Int) (h : inB 1 3 k = true) : ∃ n L, crossO k = some (n, L) ∧ 0 < top (faces n L) ∧ (holF 2 (faces n L) (top (faces n L))).getD (top (faces n L) - 1) 0 = 1 ∧ tot (holF 2 (faces n L) (top (faces n L))) = 1 ∧ L.length = 2 ^ k.toNat := by
  obtain ⟨h1, h3⟩ := (inB_iff _ _ _).1 h
  rcases (by omega : k = 1 ∨ k = 2 ∨ k = 3) with rfl | rfl | rfl
  · refine ⟨2, crossL 1, ?_, by decide +kernel, by rw [cross_two]; decide +kernel, by rw [cross_two]; decide, by decide⟩
    rw [← cross_lit1]; rfl
  · refine ⟨4, crossL 2, ?_, by decide +kernel, by rw [cross_four]; decide +kernel, by rw [cross_four]; decide, by decide⟩
    rw [← cross_lit2]; rfl
  · refine ⟨6, crossL 3, ?_, by decide +kernel, by rw [cross_six]; decide +kernel, by rw [cross_six]; decide, by decide⟩
    rw [← cross_lit3]; rfl

end Go.Proofs.Ythobncbggaggjaa
