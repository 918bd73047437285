/-
  WALK of chapter 6 (spec): cross complexes.
-/
import Derived.Test.YthobncbggaggjaaWJoinS4
namespace Go.Proofs.Ythobncbggaggjaa
open Go.RowKit
open Sets Join Lin Hom

def crossP (kk s : Nat) : Bool := decide (s < 2 ^ (2 * kk)) && crossQ kk s
/-- The sets so far. -/
def crossTo (kk m : Nat) : List Int := ((List.range m).filter (crossQ kk)).map Int.ofNat
theorem crossTo_next (kk m : Nat) : crossTo kk (m + 1) = crossTo kk m ++ if crossQ kk m = true then [(m : Int)] else [] := by
  unfold crossTo
  rw [List.range_succ, List.filter_append, List.map_append]
  congr 1
  cases h : crossQ kk m <;> simp [h]
theorem crossTo_length (kk m : Nat) : (crossTo kk m).length ≤ m := by
  unfold crossTo; rw [List.length_map]; exact Nat.le_trans (List.length_filter_le _ _) (by simp)
theorem crossTo_ok (kk : Nat) (hk : kk ≤ 3) : allOk (crossTo kk (2 ^ (2 * kk))) = true := by
  unfold allOk crossTo
  rw [List.all_eq_true]
  intro x hx
  obtain ⟨s, hs, rfl⟩ := List.mem_map.1 hx
  have h1 := List.mem_range.1 (List.mem_filter.1 hs).1
  have h2 := Nat.pow_le_pow_right (n := 2) (by decide) (show 2 * kk ≤ 6 by omega)
  show okZ (s : Int) = true
  rw [okZ_nat]; omega
theorem cross_max1 : maximal (crossTo 1 4) = maxQ (crossP 1) := by decide +kernel
theorem cross_max2 : maximal (crossTo 2 16) = maxQ (crossP 2) := by decide +kernel
theorem cross_max3 : maximal (crossTo 3 64) = maxQ (crossP 3) := by decide +kernel
theorem crossQ_succ (i s : Nat) : crossQ (i + 1) s = (crossQ i s && !(s / 2 ^ (2 * i) % 4 == 3)) := by
  unfold crossQ; rw [List.range_succ, List.all_append]; simp

theorem shr_three (s i : Nat) (hs : s < 64) (hi : i < 3) : (bits BinOp.and IntKind.i64 ((s : Int) / 2 ^ (2 * i)) 3 != 3) = !(s / 2 ^ (2 * i) % 4 == 3) := by
  revert s
  rcases (by omega : i = 0 ∨ i = 1 ∨ i = 2) with rfl | rfl | rfl
  · refine fin64 ?_
    decide +kernel
  · refine fin64 ?_
    decide +kernel
  · refine fin64 ?_
    decide +kernel

set_option maxRecDepth 100000 in
set_option maxHeartbeats 4000000 in
theorem specCross_any (k : Int) (w : World) :
    Calls Try.prog 25 #[.int .i64 k] w fun e w' => ∃ v, e = .returned (.tuple #[cx (oN (crossO k)) v, .bool (crossO k).isSome]) ∧ OwnInts w' w.heap.size v (oL (crossO k)) ∧ Below w.heap.size w w' := by
  obtain ⟨i0, hi, hz0, hz1, hz2⟩ := info_parts info_int
  have hb0 : Below w.heap.size w (w.alloc (.cells #[.int .i64 0, .slice none 0 0] 26)) := (Below.refl _ _).alloc (Nat.le_refl _) _
  have htr := Two.new w (.int .i64 0) (.slice none 0 0) 26
  have TR := Lib.hid htr
  have HBV := Lib.hid hb0
  clear hb0 htr
  cases hk : inB 1 3 k with
  | false =>
    have HK := Lib.hid hk
    rw [show crossO k = none from partJ_no hk]
    clear hk
    obtain ⟨r0, r1, r2, r3, r4⟩ := TR.out
    go_enter Try.func25, Try.ntmps25
    go_wp2_with fail
    refine (in_b k 1 3 false HK.out _).mono ?_
    rintro e w1 ⟨rfl, rfl⟩
    go_wp2
    refine ret_cx2 w.heap.size rfl rfl rfl (x := .int .i64 0) (y := .slice none 0 0) (by go_simp) (by go_simp) rfl ?_
    exact ⟨_, rfl, OwnInts.nil _ _, by first | exact (HBV.out.setCell (by dsimp only; omega) _).setCell (by dsimp only; omega) _ | exact HBV.out⟩
  | true =>
    have HK := Lib.hid hk
    rw [show crossO k = some (2 * k, maxQ fun s => decide (s < 2 ^ (2 * k.toNat)) && crossQ k.toNat s) from partJ_yes hk]
    obtain ⟨h1, h3⟩ := (inB_iff _ _ _).1 hk
    obtain ⟨kk, rfl⟩ : ∃ kk : Nat, k = (kk : Int) := ⟨k.toNat, by omega⟩
    rw [show ((kk : Int)).toNat = kk from rfl]
    clear hk
    go_enter Try.func25, Try.ntmps25
    go_wp2_with fail
    refine (in_b (kk : Int) 1 3 true HK.out _).mono ?_
    rintro e w1 ⟨rfl, rfl⟩
    obtain ⟨N, hN⟩ : ∃ N : Nat, 2 ^ (2 * kk) = N := ⟨_, rfl⟩
    have h64 : N ≤ 64 := by rw [← hN]; exact Nat.pow_le_pow_right (n := 2) (by decide) (show 2 * kk ≤ 6 by omega)
    have hsh : wrap64 ((2 : Int) ^ (2 * kk)) = (N : Int) := by
      rw [show (2 : Int) ^ (2 * kk) = (N : Int) by rw [← hN]; push_cast; rfl]; exact IntWalk.wrap64_in _ (by omega)
    have HN := Lib.hid hN
    have HO0 := Lib.hid (OwnInts.lit (w.alloc (.cells #[.int .i64 0, .slice none 0 0] 26)) (w.heap.size + 1) [] (by simp) (by simp))
    rw [World.size_alloc] at HO0
    clear hN
    go_wp2
    go_loopw [4, 5] (fun v i wr => ∃ s : Nat, s ≤ N ∧ i = .int .i64 (s : Int) ∧ OwnInts wr (w.heap.size + 1) v (crossTo kk s) ∧ Below (w.heap.size + 1) (w.alloc (.cells #[.int .i64 0, .slice none 0 0] 26)) wr) (fun _ i _ => 64 - (intOf i).toNat)
    case atStart => exact ⟨0, Nat.zero_le _, rfl, HO0.out, (Below.refl _ _).alloc (by simp) _⟩
    case round =>
      clear HO0
      obtain ⟨s, hs, rfl, hO, hB⟩ := hrel
      have HO := Lib.hid hO
      have HB := Lib.hid hB
      have hsz := hB.size
      rw [World.size_alloc] at hsz
      obtain ⟨wo, rfl⟩ : ∃ wo : World, wo = wr := ⟨_, rfl⟩
      clear hO hB
      by_cases hlt : s < N
      · go_wp2
        go_loop [6, 7] (fun b i => ∃ i1 : Nat, i1 ≤ kk ∧ i = .int .i64 (i1 : Int) ∧ b = .bool (crossQ i1 s)) (fun _ i => kk - (intOf i).toNat)
        case atStart => exact ⟨0, Nat.zero_le _, rfl, rfl⟩
        case round =>
          obtain ⟨i1, hi1, rfl, rfl⟩ := hrel
          by_cases hli : i1 < kk
          · cases hq : crossQ i1 s with
            | false =>
              have HQ := Lib.hid hq
              clear hq
              go_wp2
              go_round
              case rel => exact ⟨i1 + 1, by omega, by go_num, by rw [crossQ_succ, HQ.out]; rfl⟩
              case measure => simp [intOf]; omega
            | true =>
              have HQ := Lib.hid hq
              have HS := Lib.hid (shr_three s i1 (by omega) (by omega))
              clear hq
              go_wp2
              go_round
              case rel => exact ⟨i1 + 1, by omega, by go_num, by rw [crossQ_succ, HQ.out, Bool.true_and, ← HS.out]⟩
              case measure => simp [intOf]; omega
          · have E := Lib.hid (show i1 = kk by omega)
            cases hq : crossQ i1 s with
            | false =>
              have HQ : Hid (crossQ kk s = false) := by show crossQ kk s = false; rw [← E.out]; exact hq
              clear hq
              go_wp2
              go_roundw
              case rel =>
                refine ⟨s + 1, by omega, by go_num, ?_, HB.out⟩
                rw [crossTo_next, HQ.out]
                simpa using HO.out
              case measure => simp [intOf]; omega
            | true =>
              have HQ : Hid (crossQ kk s = true) := by show crossQ kk s = true; rw [← E.out]; exact hq
              have hl := crossTo_length kk s
              have HO3 := Lib.hid HO.out
              unfold OwnInts at HO3
              clear hq
              go_wp2_with (at_builtin; refine wpList_append_own_at _ rfl _ _ 24 rfl (w.heap.size + 1) 3 i0 (.int .i64 0) 1 8 Try.underlying24 hi hz0 hz1 hz2 rfl (by decide) _ _ _ rfl (HO3.out.alloc _) ⟨wo.heap.size, 0, none⟩ 1 1 [.int .i64 (s : Int)] rfl rfl ?c1 ?c2 ?c3 ?c4 ?c5 ?_)
              case c2 => rfl
              case c3 => unfold maxLen; omega
              case c4 => omega
              case c5 => omega
              intro v' w3 hown1 hgrow _ hob
              have hB3 := (HB.out.alloc hsz (.cells #[.int .i64 (s : Int)] 3)).grown hgrow (by simp; omega) (fun g hg => (HO3.out.lt g hg).1)
              have hO5 : OwnInts w3 (w.heap.size + 1) v' (crossTo kk (s + 1)) := by
                rw [crossTo_next, HQ.out]
                exact OwnInts.next hown1
              have HO5 := Lib.hid hO5
              have HB5 := Lib.hid hB3
              clear hown1 hgrow hob hO5 hB3
              go_wp2
              go_roundw
              case rel => exact ⟨s + 1, by omega, by go_num, HO5.out, HB5.out⟩
              case measure => simp [intOf]; omega
      · have HE : Hid (OwnInts wo (w.heap.size + 1) u4 (crossTo kk (2 ^ (2 * kk)))) := Lib.hid (by rw [HN.out, ← show s = N by omega]; exact HO.out)
        have hcl : Hid ((crossTo kk (2 ^ (2 * kk))).length ≤ 64) := Nat.le_trans (crossTo_length _ _) (by rw [HN.out]; exact h64)
        have HMX : Hid (maximal (crossTo kk (2 ^ (2 * kk))) = maxQ (crossP kk)) := by
          show maximal _ = _
          rcases (by omega : kk = 1 ∨ kk = 2 ∨ kk = 3) with rfl | rfl | rfl
          · exact cross_max1
          · exact cross_max2
          · exact cross_max3
        have HOK := Lib.hid (crossTo_ok kk (by omega))
        obtain ⟨L, hL⟩ : ∃ L, crossTo kk (2 ^ (2 * kk)) = L := ⟨_, rfl⟩
        rw [hL] at HE hcl HMX HOK
        clear hL HO
        obtain ⟨a1, c1, g1x, rfl, hg1x, hr1⟩ := OwnInts.at HE.out
        have R1 := Lib.hid hr1
        have R0 := Lib.hid (TR.out.keeps (HB.out.mono (by simp)))
        clear hr1 HE
        go_wp2_with fail
        refine (l3Make_any (2 * (kk : Int)) _ _ L HOK.out (Nat.le_trans hcl.out (by decide)) _ R1.out.ints).mono ?_
        rw [HMX.out]
        rintro e w6 ⟨v, rfl, hO2, hb6⟩
        obtain ⟨a2, c2x, g2, rfl, hc2, hg2, hr2, _⟩ := OwnInts.ata hO2 hb6.size
        obtain ⟨r0, r1, r2, r3, r4⟩ := R0.out.keeps hb6
        have HO2 := Lib.hid (OwnInts.lower hO2 hsz)
        have HB6 : Hid (Below w.heap.size w w6) := HBV.out.trans ((HB.out.trans (hb6.mono hsz)).mono (by simp))
        clear hO2 hr2 hb6
        go_wp2
        refine ret_cx2 w.heap.size rfl rfl rfl (x := .int .i64 (2 * (kk : Int))) (y := .slice a2 (maxQ (crossP kk)).length c2x) (by go_simp) (by go_simp) rfl ?_
        exact ⟨_, rfl, (OwnInts.set (OwnInts.set HO2.out _ _ _ (by omega)) _ _ _ (by omega)).lower (by omega), (HB6.out.setCell (by dsimp only; omega) _).setCell (by dsimp only; omega) _⟩

end Go.Proofs.Ythobncbggaggjaa
