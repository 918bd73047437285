/-
  TEXTS of one claim, put together: WMonS2, WMonS3, WMonS4, WMonI6.
-/
import Derived.Test.YtmonaiojejbhkaaWMonS1
import Derived.Test.YtmonaiojejbhkaaWKkS1
import Derived.Deep.RegionHeld3
import Derived.Test.YtmonaiojejbhkaaWMonI5
import Derived.Test.YtmonaiojejbhkaaJg8
/-! WALKS: spec's chapter 12: CountMonomials, MonomialsOf, FirstMonomials. -/

namespace Go.Proofs.Ytmonaiojejbhkaa
open Go.RowKit
open Sets Hn Kk Mon

theorem wide_at {n : Nat} (h : n ≤ 60) {k : Nat} (j : Nat) (_ : j ≤ k) : ch n j * n ≤ 7100000000000000000 := Nat.le_trans (Nat.mul_le_mul (ch_big n j h) h) (by decide)

set_option maxRecDepth 100000 in
set_option maxHeartbeats 4000000 in
theorem l11Ch_wide (n k : Nat) (hg : n ≤ 60 ∧ k ≤ 60) (w : World) : Calls Try.prog 51 #[.int .i64 (n : Int), .int .i64 (k : Int)] w fun e w' => e = .returned (.int .i64 (ch n k : Nat)) ∧ w = w' := by
  have hd0 : decide ((k : Int) < 0) = false := by simp
  by_cases hkn : n < k
  · have hd1 : decide (n < k) = true := by simpa using hkn
    rw [ch_gt n k hkn]
    go_enter Try.func51, Try.ntmps51
    go_wp2
    go_ret
    exact ⟨rfl, rfl⟩
  · have hd1 : decide (n < k) = false := by simpa using hkn
    have HG := Lib.hid (fun j hj => wide_at (k := k) hg.1 j hj)
    have hn1 : n ≤ 60 := hg.1
    have hk7 : k ≤ 60 := hg.2
    clear hg
    go_enter Try.func51, Try.ntmps51
    go_wp2
    go_loop [5, 6] (fun v i => ∃ j : Nat, j ≤ k ∧ i = .int .i64 (j : Int) ∧ v = .int .i64 (ch n j : Nat)) (fun _ i => k - (intOf i).toNat)
    case atStart => exact ⟨0, Nat.zero_le _, rfl, by rw [ch_zero]; rfl⟩
    case round =>
      obtain ⟨j, hj, rfl, rfl⟩ := hrel
      by_cases hlt : j < k
      · have hs1 := ch_step n j (by omega)
        have hb1 := HG.out j (by omega)
        obtain ⟨y, hy⟩ : ∃ y, ch n (j + 1) = y := ⟨_, rfl⟩
        obtain ⟨x, hx⟩ : ∃ x, ch n j = x := ⟨_, rfl⟩
        rw [hy, hx] at hs1
        rw [hx] at hb1
        have HY := Lib.hid hy
        have HX := Lib.hid hx
        have hval : wrap64 ((wrap64 ((x : Int) * ((n : Int) - (j : Int)))).tdiv ((j : Int) + 1)) = (y : Int) := by
          have e1 : (n : Int) - (j : Int) = ((n - j : Nat) : Int) := by omega
          have e2 : (x : Int) * ((n - j : Nat) : Int) = ((y * (j + 1) : Nat) : Int) := by rw [hs1]; simp
          have hz : y * (j + 1) ≤ 7100000000000000000 := by
            rw [hs1]
            exact Nat.le_trans (Nat.mul_le_mul_left x (Nat.sub_le n j)) hb1
          have hyz : y ≤ y * (j + 1) := Nat.le_mul_of_pos_right y (by omega)
          have e3 : ((y * (j + 1) : Nat) : Int).tdiv ((j : Int) + 1) = (y : Int) := by
            have : ((y * (j + 1) : Nat) : Int) = (y : Int) * ((j : Int) + 1) := by simp
            rw [this]
            exact Int.mul_tdiv_cancel _ (by omega)
          rw [e1, e2]
          generalize y * (j + 1) = z at hz e3 hyz
          rw [IntWalk.wrap64_in (z : Int) (by omega), e3, IntWalk.wrap64_in (y : Int) (by omega)]
        have HV := Lib.hid hval
        clear hs1 hy hx hval hb1
        rw [HX.out]
        go_wp2
        refine ⟨⟨j + 1, by omega, by go_num, ?_⟩, by simp [intOf]; omega⟩
        rw [HV.out, HY.out]
      · have E := Lib.hid (show j = k by omega)
        go_wp2
        go_ret
        exact ⟨by rw [← E.out]; rfl, rfl⟩

theorem l11Ch_w (n k : Nat) (zn zk : Int) (hzn : zn = (n : Int)) (hzk : zk = (k : Int)) (x : Int) (hx : ((ch n k : Nat) : Int) = x) (hg : n ≤ 60 ∧ k ≤ 60) (w : World) : Calls Try.prog 51 #[.int .i64 zn, .int .i64 zk] w fun e w' => e = .returned (.int .i64 x) ∧ w = w' := by
  subst hzn hzk hx
  exact l11Ch_wide n k hg w

set_option maxRecDepth 100000 in
set_option maxHeartbeats 4000000 in
theorem specCountM_any (n d : Int) (w : World) : Calls Try.prog 26 #[.int .i64 n, .int .i64 d] w fun e w' => e = .returned (.int .i64 (countZ n d)) ∧ w = w' := by
  cases h1 : inB 1 6 n with
  | false =>
    have HR : Hid (countZ n d = -1) := by
      have : countZ n d = -1 := by
        unfold countZ
        rw [if_neg (fun e => by
          have : inB 1 6 n = true := by rw [inB_iff]; omega
          rw [h1] at this; cases this)]
      exact this
    have H1 := Lib.hid h1
    rw [HR.out]
    clear h1
    go_enter Try.func26, Try.ntmps26
    go_wp2_with fail
    refine (in_b _ _ _ false H1.out _).mono ?_
    rintro e w' ⟨rfl, rfl⟩
    go_wp2
    go_ret
    exact ⟨rfl, rfl⟩
  | true =>
    cases h2 : inB 0 20 d with
    | false =>
      have HR : Hid (countZ n d = -1) := by
        have : countZ n d = -1 := by
          unfold countZ
          rw [if_neg (fun e => by
            have : inB 0 20 d = true := by rw [inB_iff]; omega
            rw [h2] at this; cases this)]
        exact this
      have H1 := Lib.hid h1
      have H2 := Lib.hid h2
      rw [HR.out]
      clear h1 h2
      go_enter Try.func26, Try.ntmps26
      go_wp2_with fail
      refine (in_b _ _ _ true H1.out _).mono ?_
      rintro e w' ⟨rfl, rfl⟩
      go_wp2_with fail
      refine (in_b _ _ _ false H2.out _).mono ?_
      rintro e w' ⟨rfl, rfl⟩
      go_wp2
      go_ret
      exact ⟨rfl, rfl⟩
    | true =>
      have H1 := Lib.hid h1
      have H2 := Lib.hid h2
      rw [inB_iff] at h1 h2
      obtain ⟨z, hz⟩ : ∃ z, countZ n d = z := ⟨_, rfl⟩
      have hzc : ((ch (n.toNat - 1 + d.toNat) d.toNat : Nat) : Int) = z := by
        rw [← hz]; unfold countZ; rw [if_pos (by omega)]
      have HC := Lib.hid (fun W => l11Ch_w (n.toNat - 1 + d.toNat) d.toNat (n + d - 1) d (by omega) (by omega) z hzc (by omega) W)
      rw [hz]
      clear hz hzc
      go_enter Try.func26, Try.ntmps26
      go_wp2_with fail
      refine (in_b _ _ _ true H1.out _).mono ?_
      rintro e w' ⟨rfl, rfl⟩
      go_wp2_with fail
      refine (in_b _ _ _ true H2.out _).mono ?_
      rintro e w' ⟨rfl, rfl⟩
      go_wp2_with fail
      refine (HC.out _).mono ?_
      rintro e w' ⟨rfl, rfl⟩
      go_wp2
      go_ret
      exact ⟨rfl, rfl⟩

end Go.Proofs.Ytmonaiojejbhkaa

/-! WALKS: spec's chapter 12: MonomialsOf, FirstMonomials. -/

namespace Go.Proofs.Ytmonaiojejbhkaa
open Go.RowKit
open Sets Hn Kk Mon

/-- A matrix that the call owns. -/
def OwnsM (w : World) (base : Nat) (v : Value) (M : Lin.Mat) : Prop := ∃ R, OwnMx w base v R M

theorem monB_in (n d : Int) : monB n d = (inB 1 6 n && inB 0 5 d) := by
  rw [Bool.eq_iff_iff, monB_iff, Bool.and_eq_true, inB_iff, inB_iff]

set_option maxRecDepth 100000 in
set_option maxHeartbeats 4000000 in
theorem specMons_any (n d : Int) (w : World) : Calls Try.prog 22 #[.int .i64 n, .int .i64 d] w fun e w' => ∃ v R, e = .returned v ∧ OwnMx w' w.heap.size v R (monsZ n d) ∧ Below w.heap.size w w' := by
  have HO0 := Lib.hid (OwnMx.lit w w.heap.size (Nat.le_refl _))
  have HB0 : Hid (Below w.heap.size w (w.alloc (.cells #[] 26))) := Lib.hid ((Below.refl _ _).alloc (Nat.le_refl _) _)
  have hBB := monB_in n d
  cases h1 : inB 1 6 n with
  | false =>
    have HR : Hid (monsZ n d = []) := by
      have : monsZ n d = [] := by unfold monsZ; rw [hBB, h1]; rfl
      exact this
    have H1 := Lib.hid h1
    rw [HR.out]
    clear h1 hBB
    go_enter Try.func22, Try.ntmps22
    go_wp2_with fail
    refine (in_b _ _ _ false H1.out _).mono ?_
    rintro e w' ⟨rfl, rfl⟩
    go_wp2
    go_ret
    exact ⟨_, _, rfl, HO0.out, HB0.out⟩
  | true =>
    cases h2 : inB 0 5 d with
    | false =>
      have HR : Hid (monsZ n d = []) := by
        have : monsZ n d = [] := by unfold monsZ; rw [hBB, h1, h2]; rfl
        exact this
      have H1 := Lib.hid h1
      have H2 := Lib.hid h2
      rw [HR.out]
      clear h1 h2 hBB
      go_enter Try.func22, Try.ntmps22
      go_wp2_with fail
      refine (in_b _ _ _ true H1.out _).mono ?_
      rintro e w' ⟨rfl, rfl⟩
      go_wp2_with fail
      refine (in_b _ _ _ false H2.out _).mono ?_
      rintro e w' ⟨rfl, rfl⟩
      go_wp2
      go_ret
      exact ⟨_, _, rfl, HO0.out, HB0.out⟩
    | true =>
      have HR : Hid (monsZ n d = fillR (n.toNat - 1) d.toNat) := by
        have : monsZ n d = fillR (n.toNat - 1) d.toNat := by unfold monsZ; rw [hBB, h1, h2]; rfl
        exact this
      have H1 := Lib.hid h1
      have H2 := Lib.hid h2
      rw [inB_iff] at h1 h2
      obtain ⟨N, rfl⟩ : ∃ N : Nat, n = ((N + 1 : Nat) : Int) := ⟨n.toNat - 1, by omega⟩
      obtain ⟨D, rfl⟩ : ∃ D : Nat, d = (D : Int) := ⟨d.toNat, by omega⟩
      have hN : N < 6 := by omega
      have hD : D < 6 := by omega
      have hfew := (fillR_few ⟨N, hN⟩ ⟨D, hD⟩).1
      dsimp only at hfew
      obtain ⟨m, hm⟩ : ∃ m, N + 1 = m := ⟨_, rfl⟩
      have HNM := Lib.hid hm
      rw [hm] at HR H1 ⊢
      have hO1 : OwnMx ((w.alloc (.cells #[] 3)).alloc (.cells #[] 26)) w.heap.size (.slice (some ⟨w.heap.size + 1, 0, none⟩) 0 0) [] [] := by
        have := OwnMx.lit (w.alloc (.cells #[] 3)) w.heap.size (by simp)
        rw [World.size_alloc] at this
        exact this
      have hI1 := (OwnInts.lit w w.heap.size [] (Nat.le_refl _) (by simp)).keeps ((Below.refl _ _).alloc (Nat.le_refl (w.alloc (.cells #[] 3)).heap.size) (.cells #[] 26))
      obtain ⟨q1, q2, q3, -⟩ := hI1.known
      have hB1 : Below w.heap.size w ((w.alloc (.cells #[] 3)).alloc (.cells #[] 26)) := ((Below.refl _ _).alloc (Nat.le_refl _) _).alloc (by simp) _
      have hC := l12Fill_any m (by omega) w.heap.size N [] 0 rfl (by omega) D (D : Int) rfl (by omega) w.heap.size 0 (.slice (some ⟨w.heap.size + 1, 0, none⟩) 0 0) [] [] ((w.alloc (.cells #[] 3)).alloc (.cells #[] 26)) (Nat.le_refl _) q2 q3 hO1 (by simp) (by simp [Value.ownBlock]) (by simp; omega)
      have HC := Lib.hid hC
      have HB1 := Lib.hid hB1
      clear h1 h2 hBB hO1 hI1 q1 q2 q3 hC hB1 hm
      go_enter Try.func22, Try.ntmps22
      go_wp2_with fail
      refine (in_b _ _ _ true H1.out _).mono ?_
      rintro e w' ⟨rfl, rfl⟩
      go_wp2_with fail
      refine (in_b _ _ _ true H2.out _).mono ?_
      rintro e w' ⟨rfl, rfl⟩
      go_wp2_with fail
      refine HC.out.mono ?_
      rintro e w5 ⟨v5, R5, rfl, hO5, hA5⟩
      have hO6 : OwnMx w5 w.heap.size v5 R5 (monsZ (m : Int) (D : Int)) := by
        rw [HR.out]
        rw [List.nil_append, fillH_nil] at hO5
        rw [show ((m : Int).toNat - 1) = N by have := HNM.out; omega, show ((D : Int).toNat) = D by omega]
        exact hO5
      have hB6 : Below w.heap.size w w5 := by
        have h1 := HB1.out
        have h2 := hA5.only.below (B := w.heap.size) (fun g hg => by
          simp only [Value.ownBlock, Option.toList, List.mem_singleton] at hg
          rw [hg]; simp) (by simp; omega)
        exact h1.trans h2
      have HO6 := Lib.hid hO6
      have HB6 := Lib.hid hB6
      clear hO5 hA5 hO6 hB6
      go_wp2
      go_ret
      exact ⟨_, _, rfl, HO6.out, HB6.out⟩

end Go.Proofs.Ytmonaiojejbhkaa

/-! WALKS: spec's chapter 12: FirstMonomials. -/

namespace Go.Proofs.Ytmonaiojejbhkaa
open Go.RowKit
open Sets Hn Kk Mon

theorem take_row {M : Lin.Mat} {k : Nat} (h : k < M.length) : M.take (k + 1) = M.take k ++ [Lin.row M k] := by
  rw [List.take_add_one, List.getElem?_eq_getElem h]
  unfold Lin.row
  rw [List.getD, List.getElem?_eq_getElem h]; rfl
theorem take_blk {R : List (Nat × Nat)} {k : Nat} (h : k < R.length) : R.take (k + 1) = R.take k ++ [(blk R k, room R k)] := by
  rw [List.take_add_one, List.getElem?_eq_getElem h]
  unfold blk room
  rw [List.getD, List.getElem?_eq_getElem h]; rfl
theorem blk_new {R : List (Nat × Nat)} (hn : (blks R).Nodup) {k : Nat} (h : k < R.length) : blk R k ∉ blks (R.take k) := by
  intro hm
  obtain ⟨i, hi, e⟩ := blk_of_mem hm
  rw [List.length_take] at hi
  have e2 : blk (R.take k) i = blk R i := by
    unfold blk
    rw [List.getD, List.getElem?_take_of_lt (by omega), List.getD]
  rw [e2] at e
  have := blk_inj hn (by omega) h e
  omega
theorem firstM_no {n d m : Int} (h : (monsZ n d).length = 0 ∨ inB 0 ((monsZ n d).length : Int) m = false) : firstM n d m = [] := by
  unfold firstM
  rw [if_neg]
  rintro ⟨h1, h2, h3⟩
  rcases h with h | h
  · exact h1 h
  · have : inB 0 ((monsZ n d).length : Int) m = true := by rw [inB_iff]; exact ⟨h2, h3⟩
    rw [h] at this; cases this

set_option maxRecDepth 100000 in
set_option maxHeartbeats 4000000 in
theorem specFirstM_any (n d m : Int) (w : World) : Calls Try.prog 24 #[.int .i64 n, .int .i64 d, .int .i64 m] w fun e w' => ∃ v R, e = .returned v ∧ OwnMx w' w.heap.size v R (firstM n d m) ∧ Below w.heap.size w w' := by
  obtain ⟨i9, hi9, hz90, hz91, hz92⟩ := info_parts info_row
  have HMON := Lib.hid (specMons_any n d w)
  have hle := monsZ_le n d
  have HNO := Lib.hid (fun h => @firstM_no n d m h)
  have HYES : Hid ((monsZ n d).length ≠ 0 → inB 0 ((monsZ n d).length : Int) m = true → firstM n d m = (monsZ n d).take m.toNat ∧ m.toNat ≤ (monsZ n d).length ∧ 0 ≤ m) := by
    have : (monsZ n d).length ≠ 0 → inB 0 ((monsZ n d).length : Int) m = true → firstM n d m = (monsZ n d).take m.toNat ∧ m.toNat ≤ (monsZ n d).length ∧ 0 ≤ m := fun h1 h2 => by
      rw [inB_iff] at h2
      unfold firstM
      rw [if_pos ⟨h1, h2⟩]
      exact ⟨rfl, by omega, h2.1⟩
    exact this
  obtain ⟨F, hF⟩ : ∃ F, firstM n d m = F := ⟨_, rfl⟩
  obtain ⟨M, hM⟩ : ∃ M, monsZ n d = M := ⟨_, rfl⟩
  rw [hF, hM] at HNO HYES
  rw [hM] at HMON hle
  rw [hF]
  clear hF hM
  go_enter Try.func24, Try.ntmps24
  go_wp2_with fail
  refine HMON.out.mono ?_
  rintro e w1 ⟨v1, R, rfl, hO1, hb1⟩
  obtain ⟨go, ao, co, rfl, hgo, hMx⟩ := hO1.mx
  obtain ⟨l, hl⟩ : ∃ l, M.length = l := ⟨_, rfl⟩
  have HL := Lib.hid hl
  have HB1 := Lib.hid hb1
  have HO1 := Lib.hid hO1
  have HMX := Lib.hid hMx
  have HGO := Lib.hid hgo
  have HLIT := Lib.hid (OwnMx.lit w1 w.heap.size hb1.size)
  have HBL : Hid (Below w.heap.size w (w1.alloc (.cells #[] 26))) := Lib.hid (hb1.alloc hb1.size _)
  rw [hl] at hle HYES HNO ⊢
  clear hO1 hb1 hMx hgo hl HMON
  by_cases h0 : l = 0
  · have HF0 := Lib.hid (HNO.out (.inl h0))
    have hd0 : ((l : Int) == 0) = true := by rw [beq_iff_eq]; omega
    clear h0 HNO HYES
    go_wp2
    go_ret
    exact ⟨_, _, rfl, by rw [HF0.out]; exact HLIT.out, HBL.out⟩
  · have hd0 : ((l : Int) == 0) = false := by rw [beq_eq_false_iff_ne]; omega
    cases h1 : inB 0 (l : Int) m with
    | false =>
      have HF0 := Lib.hid (HNO.out (.inr h1))
      have H1 := Lib.hid h1
      clear h1 h0 HNO HYES
      go_wp2_with fail
      refine (in_b _ _ _ false H1.out _).mono ?_
      rintro e w' ⟨rfl, rfl⟩
      go_wp2
      go_ret
      exact ⟨_, _, rfl, by rw [HF0.out]; exact HLIT.out, HBL.out⟩
    | true =>
      obtain ⟨y1, y2, y3⟩ := HYES.out h0 h1
      have H1 := Lib.hid h1
      obtain ⟨k1, rfl⟩ : ∃ k1 : Nat, m = (k1 : Int) := ⟨m.toNat, by omega⟩
      rw [Int.toNat_natCast] at y1 y2
      have HF1 := Lib.hid y1
      have hlpos : 0 < l := by omega
      have HGO1 := Lib.hid (HGO.out (by rw [HL.out]; exact hlpos))
      have HRL : Hid (R.length = l) := by
        have : R.length = l := HO1.out.len.trans HL.out
        exact this
      have HOLD : Hid (∀ g, g ∈ blks R → w.heap.size ≤ g ∧ g < w1.heap.size) := by
        have : ∀ g, g ∈ blks R → w.heap.size ≤ g ∧ g < w1.heap.size := fun g hg => HO1.out.old hg
        exact this
      have HMX0 := Lib.hid (HMX.out.keeps ((Below.refl _ _).alloc (Nat.le_refl _) (.cells #[] 26)))
      have HNG : Hid ((Value.slice (some ⟨w1.heap.size, 0, none⟩) 0 0).ownBlock ≠ some go ∧ ∀ g, g ∈ blks R → (Value.slice (some ⟨w1.heap.size, 0, none⟩) 0 0).ownBlock ≠ some g) := by
        have : (Value.slice (some ⟨w1.heap.size, 0, none⟩) 0 0).ownBlock ≠ some go ∧ ∀ g, g ∈ blks R → (Value.slice (some ⟨w1.heap.size, 0, none⟩) 0 0).ownBlock ≠ some g := by
          refine ⟨?_, fun g hg => ?_⟩
          · simp only [Value.ownBlock, ne_eq, Option.some.injEq]; have := HGO1.out; omega
          · simp only [Value.ownBlock, ne_eq, Option.some.injEq]; have := HOLD.out g hg; omega
        exact this
      clear h1 h0 hd0 HNO HYES y1 y3
      have hd0 : ((l : Int) == 0) = false := by rw [beq_eq_false_iff_ne]; omega
      go_wp2_with fail
      refine (in_b _ _ _ true H1.out _).mono ?_
      rintro e w' ⟨rfl, rfl⟩
      go_wp2
      go_loopw [8, 9] (fun u i wr => ∃ k : Nat, k ≤ k1 ∧ i = .int .i64 (k : Int) ∧ OwnMx wr w.heap.size u (R.take k) (M.take k) ∧ Below w.heap.size w wr ∧ Mx wr go ao R M ∧ w1.heap.size ≤ wr.heap.size ∧ u.ownBlock ≠ some go ∧ ∀ g, g ∈ blks R → u.ownBlock ≠ some g) (fun _ i _ => k1 - (intOf i).toNat)
      case atStart => exact ⟨0, Nat.zero_le _, rfl, HLIT.out, HBL.out, HMX0.out, by simp, HNG.out.1, HNG.out.2⟩
      case round =>
        clear HLIT HBL HMX HMX0 HNG HB1
        obtain ⟨k, hk, rfl, hO, hB, hMx, hsz, hn1, hn2⟩ := hrel
        have HO := Lib.hid hO
        have HB := Lib.hid hB
        have HMX := Lib.hid hMx
        have HN1 := Lib.hid hn1
        have HN2 := Lib.hid hn2
        clear hO hB hMx hn1 hn2
        by_cases hlt : k < k1
        · have hkl : k < l := by omega
          obtain ⟨rfl, hg1, hg2, hg3⟩ := HMX.out.out k (by rw [HL.out]; exact hkl)
          have HMR : Hid (M.take (k + 1) = M.take k ++ [Lin.row M k] ∧ R.take (k + 1) = R.take k ++ [(blk R k, room R k)]) := by
            have : M.take (k + 1) = M.take k ++ [Lin.row M k] ∧ R.take (k + 1) = R.take k ++ [(blk R k, room R k)] := ⟨take_row (by rw [HL.out]; exact hkl), take_blk (by rw [HRL.out]; exact hkl)⟩
            exact this
          have HTL : Hid ((M.take k).length = k) := by
            have : (M.take k).length = k := by rw [List.length_take, HL.out]; omega
            exact this
          obtain ⟨rw1, hrw⟩ : ∃ q, (Lin.row M k).length = q := ⟨_, rfl⟩
          have HRW := Lib.hid hrw
          rw [hrw] at hg2
          obtain ⟨bk, hbk⟩ : ∃ q, blk R k = q := ⟨_, rfl⟩
          have HBK := Lib.hid hbk
          obtain ⟨rk, hrk⟩ : ∃ q, room R k = q := ⟨_, rfl⟩
          have HRK := Lib.hid hrk
          rw [hbk, hrk] at hg2
          have hmem : bk ∈ blks R := by rw [← hbk]; exact blk_mem (by rw [HRL.out]; exact hkl)
          have HMEM := Lib.hid hmem
          have HOW := Lib.hid HO.out.own
          rw [HTL.out] at HOW
          have hbsz := HB.out.size
          clear hrw hbk hrk hg1 hg3 hmem
          go_wp2_with (at_builtin; refine wpList_append_own_at _ rfl _ _ 28 rfl w.heap.size 26 i9 (.slice none 0 0) 1 24 Try.underlying28 hi9 hz90 hz91 hz92 rfl (by decide) _ _ _ rfl (HOW.out.alloc _) ⟨wr.heap.size, 0, none⟩ 1 1 [.slice (some ⟨bk, 0, none⟩) rw1 rk] rfl rfl ?c1 ?c2 ?c3 ?c4 ?c5 ?_)
          case c1 => intro j u hj; exact Mem.cell_new wr _ _ j u hj
          case c2 => intro u hu; simp at hu; subst hu; rfl
          case c3 => unfold maxLen; omega
          case c4 => omega
          case c5 => simp; omega
          intro v' w5 hown1 hgrow _ hob
          have hBA : Below wr.heap.size wr (wr.alloc (.cells #[.slice (some ⟨bk, 0, none⟩) rw1 rk] 26)) := (Below.refl _ _).alloc (Nat.le_refl _) _
          have hob2 : v'.ownBlock = u8.ownBlock ∨ ∃ z, v'.ownBlock = some z ∧ (wr.alloc (.cells #[.slice (some ⟨bk, 0, none⟩) rw1 rk] 26)).heap.size ≤ z := by
            rcases hob with e | e
            · exact .inl e
            · exact .inr ⟨_, e, by first | exact Nat.le_refl _ | (rw [World.size_alloc]; exact Nat.le_refl _)⟩
          have hbk64 := HOLD.out bk HMEM.out
          have hrows := (HMX.out.rows k (by rw [HL.out]; exact hkl)).2
          rw [HBK.out] at hrows
          have hnew := blk_new HO1.out.nodup (k := k) (by rw [HRL.out]; exact hkl)
          rw [HBK.out] at hnew
          have hO5 : OwnMx w5 w.heap.size v' (R.take (k + 1)) (M.take (k + 1)) := by
            rw [HMR.out.1, HMR.out.2, HBK.out, HRK.out]
            refine OwnMx.next (HO.out.keeps hBA) hbk64.1 (by simp; omega) (hrows.keeps hBA) hnew (HN2.out bk HMEM.out) ?_ hgrow hob2
            rw [HTL.out, HRW.out]; exact hown1
          have hMx5 : Mx w5 go (some ⟨go, 0, none⟩) R M := by
            refine (HMX.out.keeps hBA).grown hgrow (fun g hg => ⟨fun e => HN1.out (by rw [hg, e]), fun e => HN2.out g e hg⟩)
          have hB5 : Below w.heap.size w w5 := (HB.out.alloc hbsz _).grown hgrow (by simp; omega) (fun g hg => (HOW.out.lt g hg).1)
          have hsz5 : w1.heap.size ≤ w5.heap.size := by
            have h1 := hgrow.size
            rw [World.size_alloc] at h1
            omega
          have hN5 : v'.ownBlock ≠ some go ∧ ∀ g, g ∈ blks R → v'.ownBlock ≠ some g := by
            rcases hob2 with e | ⟨z, e, hz⟩
            · rw [e]; exact ⟨HN1.out, HN2.out⟩
            · rw [World.size_alloc] at hz
              rw [e]
              refine ⟨fun h => ?_, fun g hg h => ?_⟩
              · cases h; have := HGO1.out; omega
              · cases h; have := HOLD.out z hg; omega
          have HO5 := Lib.hid hO5
          have HM5 := Lib.hid hMx5
          have HB5 := Lib.hid hB5
          have HN5 := Lib.hid hN5
          clear hown1 hgrow hob hob2 hO5 hMx5 hB5 hN5 hrows hnew hg2
          go_wp2
          go_roundw
          case rel => exact ⟨k + 1, by omega, by go_num, HO5.out, HB5.out, HM5.out, hsz5, HN5.out.1, HN5.out.2⟩
          case measure => simp [intOf]; omega
        · have E := Lib.hid (show k = k1 by omega)
          go_wp2
          go_ret
          exact ⟨_, _, rfl, by rw [HF1.out, ← E.out]; exact HO.out, HB.out⟩

end Go.Proofs.Ytmonaiojejbhkaa

/-! WALKS: impl's chapter 12: MonomialsOf, FirstMonomials. -/

namespace Go.Proofs.Ytmonaiojejbhkaa
open Go.RowKit
open Sets Hn Kk Mon

theorem OwnMx.empty (w : World) (base : Nat) : OwnMx w base (.slice none 0 0) [] [] := by
  refine ⟨?_, rfl, by simp, fun i hi => absurd hi (Nat.not_lt_zero _), fun g hg => by simp [Value.ownBlock] at hg⟩
  exact ⟨by simp [vals], .inl ⟨rfl, rfl⟩⟩
theorem monsZ_no {n d : Int} (h : monB n d = false) : monsZ n d = [] := by unfold monsZ; rw [h]; rfl
theorem monsZ_yes {n d : Int} (h : monB n d = true) : monsZ n d = fillR (n.toNat - 1) d.toNat := by unfold monsZ; rw [if_pos h]
theorem monB_n {n d : Int} (h : inB 1 6 n = false) : monB n d = false := by rw [monB_in, h]; rfl
theorem monB_d {n d : Int} (h : ¬(0 ≤ d ∧ d ≤ 5)) : monB n d = false := by
  rw [Bool.eq_false_iff]; intro e
  have := (monB_iff n d).1 e
  omega

set_option maxRecDepth 100000 in
set_option maxHeartbeats 2000000 in
theorem implMons_any (n d : Int) (w : World) : Calls Try.prog 13 #[.int .i64 n, .int .i64 d] w fun e w' => ∃ v R, e = .returned v ∧ OwnMx w' w.heap.size v R (monsZ n d) ∧ Below w.heap.size w w' := by
  have HO0 := Lib.hid (OwnMx.empty w w.heap.size)
  cases hN : inB 1 6 n with
  | false =>
    rw [monsZ_no (monB_n hN)]
    have HN := Lib.hid hN
    clear hN
    go_enter Try.func13, Try.ntmps13
    go_wp2_with fail
    refine (pointCount_b n false HN.out _).mono ?_
    rintro e w' ⟨rfl, rfl⟩
    go_wp2
    go_ret
    exact ⟨_, _, rfl, HO0.out, Below.refl _ _⟩
  | true =>
    have HN := Lib.hid hN
    have hn := (inB_iff _ _ _).1 hN
    by_cases h0 : d < 0
    · have hd0 : decide (d < 0) = true := by simpa using h0
      rw [monsZ_no (monB_d (by omega))]
      clear hN hn h0
      go_enter Try.func13, Try.ntmps13
      go_wp2_with fail
      refine (pointCount_b n true HN.out _).mono ?_
      rintro e w' ⟨rfl, rfl⟩
      go_wp2
      go_ret
      exact ⟨_, _, rfl, HO0.out, Below.refl _ _⟩
    have hd0 : decide (d < 0) = false := by simpa using h0
    by_cases h5 : 5 < d
    · have hd2 : decide (5 < d) = true := by simpa using h5
      rw [monsZ_no (monB_d (by omega))]
      clear hN hn h0 h5
      go_enter Try.func13, Try.ntmps13
      go_wp2_with fail
      refine (pointCount_b n true HN.out _).mono ?_
      rintro e w' ⟨rfl, rfl⟩
      go_wp2
      go_ret
      exact ⟨_, _, rfl, HO0.out, Below.refl _ _⟩
    have hd2 : decide (5 < d) = false := by simpa using h5
    have hc := fromExp_any (n.toNat - 1) d.toNat (by omega) (by omega) n d (by omega) (by omega) w
    rw [← monsZ_yes ((monB_iff n d).2 ⟨hn, by omega⟩)] at hc
    obtain ⟨M, hM⟩ : ∃ M : Lin.Mat, monsZ n d = M := ⟨_, rfl⟩
    rw [hM] at hc ⊢
    have HC := Lib.hid hc
    clear hN hn h0 h5 hc hM
    go_enter Try.func13, Try.ntmps13
    go_wp2_with fail
    refine (pointCount_b n true HN.out _).mono ?_
    rintro e w' ⟨rfl, rfl⟩
    go_wp2_with fail
    refine HC.out.mono ?_
    rintro e w1 ⟨v, R, rfl, hO, hB⟩
    have HO := Lib.hid hO
    have HB := Lib.hid hB
    clear hO hB
    go_wp2
    go_ret
    exact ⟨_, _, rfl, HO.out, HB.out⟩

end Go.Proofs.Ytmonaiojejbhkaa
