/-
  WALKS of chapter 14 (spec): holes counted; no holes; like a sphere.
-/
import Derived.Test.YtenpcjmhlnalcaaWHol
namespace Go.Proofs.Ytenpcjmhlnalcaa
open Go.RowKit
open Sets Lin

def tot (L : List Int) : Int := L.foldl (fun a x => a + x) 0
theorem tot_take (L : List Int) (k : Nat) (h : k < L.length) : tot (L.take (k + 1)) = tot (L.take k) + L.getD k 0 := by
  unfold tot
  rw [List.take_add_one, List.foldl_append]
  simp [List.getD, List.getElem?_eq_getElem h]
theorem tot_bound (L : List Int) (h : ∀ j, j < L.length → -200 ≤ L.getD j 0 ∧ L.getD j 0 ≤ 200) : ∀ k, k ≤ L.length → -(200 * (k : Int)) ≤ tot (L.take k) ∧ tot (L.take k) ≤ 200 * (k : Int)
  | 0, _ => by simp [tot]
  | k + 1, hk => by
    have ih := tot_bound L h k (by omega)
    have hb := h k (by omega)
    rw [tot_take L k (by omega)]
    omega
theorem tot_zero (L : List Int) (h : ∀ x, x ∈ L → x = 0) : tot L = 0 := by
  unfold tot
  have : ∀ (l : List Int) (a : Int), (∀ x, x ∈ l → x = 0) → l.foldl (fun a x => a + x) a = a := by
    intro l
    induction l with
    | nil => intro a _; rfl
    | cons x l ih => intro a hh; rw [List.foldl_cons, hh x (List.mem_cons_self ..), ih _ fun y hy => hh y (List.mem_cons_of_mem _ hy)]; omega
  exact this L 0 h
theorem holF_bound {p : Nat} (hp : p = 2 ∨ p = 3 ∨ p = 5) (n : Int) (xs : List Int) (m j : Nat) (h : j < (holF p (faces n xs) m).length) : -200 ≤ (holF p (faces n xs) m).getD j 0 ∧ (holF p (faces n xs) m).getD j 0 ≤ 200 := by
  rw [holF_length] at h
  have hr : ∀ k, rkF p (faces n xs) k ≤ 64 := fun k => Nat.le_trans (rank_le_cols hp (borM_wide _ _)) (sized_le n xs _)
  have h1 := hr j
  have h2 := hr (j + 1)
  have h3 := Nat.le_trans (cnt_le j (faces n xs)) (faces_le n xs)
  unfold holF
  simp only [List.getD, List.getElem?_map, List.getElem?_range h, Option.map_some, Option.getD_some]
  unfold loR hiR
  split <;> split <;> omega

set_option maxRecDepth 100000 in
set_option maxHeartbeats 4000000 in
theorem countHoles_any (p : Nat) (hp : p = 2 ∨ p = 3 ∨ p = 5) (n : Int) (a : Option Addr) (c : Nat) (xs : List Int) (hlen : xs.length ≤ 1099511627776) (w : World) (h : Ints w a xs) :
    Calls Try.prog 17 #[cx n (.slice a xs.length c), .int .i64 (p : Int)] w fun e w' => e = .returned (.int .i64 (tot (holF p (faces n xs) (top (faces n xs))))) ∧ Below w.heap.size w w' := by
  have hb0 : Below w.heap.size w (w.alloc (Obj.cells #[Value.int IntKind.i64 n, Value.slice a xs.length c] 27)) := (Below.refl _ _).alloc (Nat.le_refl _) _
  have htwo := Two.new w (.int .i64 n) (.slice a xs.length c) 27
  have H := Lib.hid (h.keeps hb0)
  have HB0 := Lib.hid hb0
  have HT := Lib.hid htwo
  have HC := Lib.hid (fun W (hh : Ints W a xs) => holesMod_any p hp n a c xs hlen W hh)
  have HBD := Lib.hid (tot_bound _ (holF_bound hp n xs (top (faces n xs))))
  have HBJ := Lib.hid (holF_bound hp n xs (top (faces n xs)))
  have htl : (holF p (faces n xs) (top (faces n xs))).length ≤ 7 := by rw [holF_length]; exact top_le _
  obtain ⟨L, hL⟩ : ∃ L, holF p (faces n xs) (top (faces n xs)) = L := ⟨_, rfl⟩
  rw [hL] at HC HBD HBJ htl
  rw [hL]
  clear h hb0 htwo hp hL
  go_enter Try.func17, Try.ntmps17
  obtain ⟨t0, t1, t2, _, _⟩ := HT.out
  go_wp2_with fail
  refine (HC.out _ H.out).mono ?_
  rintro e w1 ⟨v1, rfl, hO1, hb1⟩
  obtain ⟨al, dl, gl, rfl, -, hrl⟩ := hO1.at
  have HB1 : Hid (Below w.heap.size w w1) := HB0.out.trans (hb1.mono HB0.out.size)
  have HR := Lib.hid hrl
  clear hO1 hrl hb1 t0 t1 t2
  go_wp2
  go_loop [5, 7] (fun s i => ∃ k : Nat, k ≤ L.length ∧ i = .int .i64 (k : Int) ∧ s = .int .i64 (tot (L.take k))) (fun _ i => L.length - (intOf i).toNat)
  case atStart => exact ⟨0, Nat.zero_le _, rfl, rfl⟩
  case round =>
    obtain ⟨k, hk, rfl, rfl⟩ := hrel
    by_cases hlt : k < L.length
    · obtain ⟨ea, hg1, hc1, _⟩ := HR.out k hlt
      have hbd := HBD.out k hk
      have hbj := HBJ.out k hlt
      have HTT := Lib.hid (tot_take L k hlt)
      obtain ⟨x, hx⟩ : ∃ x, L.getD k 0 = x := ⟨_, rfl⟩
      obtain ⟨s, hs⟩ : ∃ s, tot (L.take k) = s := ⟨_, rfl⟩
      rw [hx] at hc1 hbj HTT
      rw [hs] at hbd HTT
      rw [hs]
      obtain rfl := ea
      clear hx hs
      go_wp2
      go_round
      case rel => exact ⟨k + 1, by omega, by go_num, by rw [HTT.out]⟩
      case measure => simp [intOf]; omega
    · have E := Lib.hid (show k = L.length by omega)
      go_wp2
      go_ret
      exact ⟨ret_int (by rw [E.out, List.take_length]), HB1.out⟩

set_option maxRecDepth 100000 in
set_option maxHeartbeats 4000000 in
theorem noHoles_any (p : Nat) (hp : p = 2 ∨ p = 3 ∨ p = 5) (n : Int) (a : Option Addr) (c : Nat) (xs : List Int) (hlen : xs.length ≤ 1099511627776) (w : World) (h : Ints w a xs) (hpos : 0 < top (faces n xs)) (htot : tot (holF p (faces n xs) (top (faces n xs))) = 0) :
    Calls Try.prog 19 #[cx n (.slice a xs.length c), .int .i64 (p : Int)] w fun e w' => e = .returned (.bool true) ∧ Below w.heap.size w w' := by
  have hb0 : Below w.heap.size w (w.alloc (Obj.cells #[Value.int IntKind.i64 n, Value.slice a xs.length c] 27)) := (Below.refl _ _).alloc (Nat.le_refl _) _
  have htwo := Two.new w (.int .i64 n) (.slice a xs.length c) 27
  have H := Lib.hid (h.keeps hb0)
  have HB0 := Lib.hid hb0
  have HT := Lib.hid htwo
  have HC := Lib.hid (fun W (hh : Ints W a xs) => holesMod_any p hp n a c xs hlen W hh)
  have HD := Lib.hid (fun W (hh : Ints W a xs) => countHoles_any p hp n a c xs hlen W hh)
  rw [htot] at HD
  have hL7 := holF_length p (faces n xs) (top (faces n xs))
  obtain ⟨m, hm⟩ : ∃ m, top (faces n xs) = m := ⟨_, rfl⟩
  rw [hm] at hL7 hpos HC
  obtain ⟨L, hL⟩ : ∃ L, holF p (faces n xs) m = L := ⟨_, rfl⟩
  rw [hL] at hL7 HC
  have HL7 := Lib.hid hL7
  clear h hb0 htwo hp hL htot hm hL7
  have hdp : decide ((0 : Int) < (m : Int)) = true := by simp; omega
  go_enter Try.func19, Try.ntmps19
  obtain ⟨t0, t1, t2, _, _⟩ := HT.out
  go_wp2_with fail
  refine (HC.out _ H.out).mono ?_
  rintro e w1 ⟨v1, rfl, hO1, hb1⟩
  obtain ⟨al, dl, gl, rfl, -, -⟩ := hO1.at
  rw [HL7.out]
  have HB1 : Hid (Below w.heap.size w w1) := HB0.out.trans (hb1.mono HB0.out.size)
  have HT1 := Lib.hid (HT.out.keeps hb1)
  have H1 := Lib.hid (H.out.keeps hb1)
  have hz1 := HB1.out.size
  clear hO1 hb1 t0 t1 t2
  obtain ⟨t0, t1, t2, _, _⟩ := HT1.out
  go_wp2_with fail
  refine (HD.out _ H1.out).mono ?_
  rintro e w2 ⟨rfl, hb2⟩
  have HB2 : Hid (Below w.heap.size w w2) := HB1.out.trans (hb2.mono hz1)
  clear hb2 t0 t1 t2
  go_wp2
  go_ret
  exact ⟨rfl, HB2.out⟩

end Go.Proofs.Ytenpcjmhlnalcaa
