/-
  TEXTS of one claim, put together: WMatS4, WMatJ.
-/
import Derived.Test.YthjgpbcdcgagfaaWMatIB
import Derived.Test.YthjgpbcdcgagfaaJg19
import Derived.Test.YthjgpbcdcgagfaaJg9
import Derived.Test.YthjgpbcdcgagfaaWMatS3
/-! WALKS of chapter 13 (spec): BorderMatrix. -/

namespace Go.Proofs.Ythjgpbcdcgagfaa
open Go.RowKit
open Sets

theorem in_yes {k : Int} (h1 : 1 ≤ k) (h6 : k ≤ 6) : inB 1 6 k = true := decide_eq_true ⟨h1, h6⟩
theorem in_not {k : Int} (h : ¬(1 ≤ k ∧ k ≤ 6)) : inB 1 6 k = false := decide_eq_false h

set_option maxRecDepth 100000 in
set_option maxHeartbeats 4000000 in
theorem specBorder_any (n : Int) (a : Option Addr) (c : Nat) (xs : List Int) (hlen : xs.length ≤ 1099511627776) (k : Int) (w : World) (h : Ints w a xs) :
    Calls Try.prog 23 #[cx n (.slice a xs.length c), .int .i64 k] w fun e w' => ∃ v R, e = .returned v ∧ OwnMx w' w.heap.size v R (bordZ n xs k) ∧ Below w.heap.size w w' := by
  have hb0 : Below w.heap.size w (w.alloc (Obj.cells #[Value.int IntKind.i64 n, Value.slice a xs.length c] 26)) := (Below.refl _ _).alloc (Nat.le_refl _) _
  have htwo := Two.new w (.int .i64 n) (.slice a xs.length c) 26
  have H := Lib.hid (h.keeps hb0)
  have HB0 := Lib.hid hb0
  have HT := Lib.hid htwo
  have HNO : Hid (¬(isC n xs = true ∧ 1 ≤ k ∧ k ≤ 6) → bordZ n xs k = []) := by
    have : ¬(isC n xs = true ∧ 1 ≤ k ∧ k ≤ 6) → bordZ n xs k = [] := fun h => if_neg h
    exact this
  have HYES : Hid (isC n xs = true ∧ 1 ≤ k ∧ k ≤ 6 → bordZ n xs k = borM (sized (k - 1) (faces n xs)) (sized k (faces n xs))) := by
    have : isC n xs = true ∧ 1 ≤ k ∧ k ≤ 6 → bordZ n xs k = borM (sized (k - 1) (faces n xs)) (sized k (faces n xs)) := fun h => if_pos h
    exact this
  obtain ⟨Z, hZ⟩ : ∃ Z, bordZ n xs k = Z := ⟨_, rfl⟩
  rw [hZ] at HNO HYES ⊢
  have HL := Lib.hid hlen
  clear h hb0 htwo hZ
  go_enter Try.func23, Try.ntmps23
  obtain ⟨t0, t1, t2, t3, t4⟩ := HT.out
  go_wp2_with fail
  refine (specIsC_any n _ _ xs hlen _ H.out).mono ?_
  rintro e w1 ⟨rfl, hb1⟩
  have HB1 : Hid (Below w.heap.size w w1) := HB0.out.trans (hb1.mono HB0.out.size)
  have HT1 := Lib.hid (HT.out.keeps hb1)
  have H1 := Lib.hid (H.out.keeps hb1)
  have hz1 := HB1.out.size
  clear hb1 t0 t1 t2 t3 t4
  cases hc : isC n xs with
  | false =>
    have E := Lib.hid (HNO.out (by rw [hc]; simp))
    clear hc
    go_wp2
    go_ret
    exact ⟨_, [], rfl, by rw [E.out]; exact OwnMx.lit _ _ hz1, HB1.out.alloc hz1 _⟩
  | true =>
    have HC := Lib.hid hc
    clear hc
    by_cases hk : 1 ≤ k ∧ k ≤ 6
    · have E := Lib.hid (HYES.out ⟨HC.out, hk⟩)
      have HIN := Lib.hid (fun W => in_b k 1 6 true (in_yes hk.1 hk.2) W)
      have HBM := Lib.hid (l13Border_any n a c xs HL.out k (by omega) (by omega) w1 H1.out)
      clear hk
      go_wp2_with fail
      refine (HIN.out _).mono ?_
      rintro e w2 ⟨rfl, rfl⟩
      obtain ⟨t0, t1, t2, t3, t4⟩ := HT1.out
      go_wp2_with fail
      refine HBM.out.mono ?_
      rintro e w2 ⟨v, R, rfl, hO, hb2⟩
      have HO : Hid (OwnMx w2 w.heap.size v R Z) := by
        have : OwnMx w2 w.heap.size v R Z := by rw [E.out]; exact hO.lower hz1
        exact this
      have HB2 : Hid (Below w.heap.size w w2) := HB1.out.trans (hb2.mono hz1)
      clear hO hb2
      go_wp2
      go_ret
      exact ⟨v, R, rfl, HO.out, HB2.out⟩
    · have E := Lib.hid (HNO.out (fun h => hk h.2))
      have HIN := Lib.hid (fun W => in_b k 1 6 false (in_not hk) W)
      clear hk
      go_wp2_with fail
      refine (HIN.out _).mono ?_
      rintro e w2 ⟨rfl, rfl⟩
      go_wp2
      go_ret
      exact ⟨_, [], rfl, by rw [E.out]; exact OwnMx.lit _ _ hz1, HB1.out.alloc hz1 _⟩

end Go.Proofs.Ythjgpbcdcgagfaa

/-! Chapter 13: how great the results are; contracts as the exact laws' walks take them. -/

namespace Go.Proofs.Ythjgpbcdcgagfaa
open Go.RowKit
open Sets

theorem same_below {f : FuncId} {args : Array Value} {w : World} {v : Ending} (h : Calls Try.prog f args w fun e w' => e = v ∧ w = w') : Calls Try.prog f args w fun e w' => e = v ∧ Below w.heap.size w w' :=
  h.mono fun _ _ ⟨h1, h2⟩ => ⟨h1, h2 ▸ Below.refl _ _⟩
theorem rows_le {M : Lin.Mat} (h : M.length + offM M M.length ≤ 1048576) : M.length ≤ 1099511627776 ∧ ∀ i, i < M.length → (Lin.row M i).length ≤ 1099511627776 :=
  ⟨by omega, fun i hi => by have := offM_row M i hi; omega⟩
theorem turnZ_off {M : Lin.Mat} (h : M.length + offM M M.length ≤ 1048576) : (turnZ M).length ≤ 1099511627776 ∧ 1 + offM (turnZ M) (turnZ M).length ≤ 1099511627776 := by
  unfold turnZ
  split
  · have hw : Lin.wid M + M.length ≤ 1048576 := by
      rcases Nat.eq_zero_or_pos M.length with e | e
      · rw [List.eq_nil_of_length_eq_zero e]; decide
      · have : Lin.wid M ≤ offM M M.length := offM_row M 0 e
        omega
    have h1 := Lin.turnM_length (Lin.wid M) M
    have h2 := offM_same (k := M.length) (Lin.turnM (Lin.wid M) M) (fun r hr => Nat.le_of_eq (Lin.turnM_wide _ _ r hr))
    rw [h1] at h2 ⊢
    have h3 : Lin.wid M * M.length ≤ 1048576 * 1048575 := by
      rcases Nat.eq_zero_or_pos (Lin.wid M) with e | e
      · rw [e]; omega
      · exact Nat.mul_le_mul (by omega) (by omega)
    omega
  · exact ⟨by simp, by simp [offM]⟩
theorem timesZ_off (A B : Lin.Mat) : (timesZ A B).length ≤ 1099511627776 ∧ 1 + offM (timesZ A B) (timesZ A B).length ≤ 1099511627776 := by
  unfold timesZ
  split
  case isTrue h =>
    unfold timesOk fitB at h
    rw [Bool.and_eq_true, Bool.and_eq_true] at h
    obtain ⟨⟨q1, q2⟩, h⟩ := h
    rw [Bool.and_eq_true, Bool.and_eq_true] at h
    obtain ⟨⟨q3, q4⟩, -⟩ := h
    have a1 := (small_at q1 q2).1
    have b2 := (small_at q3 q4).2.1
    have h1 := Lin.timesM_length (Lin.wid B) A B
    have h2 := offM_same (k := 30) (Lin.timesM (Lin.wid B) A B) (fun r hr => by rw [Lin.timesM_wide _ _ _ r hr]; exact b2)
    rw [h1] at h2 ⊢
    omega
  · exact ⟨by simp, by simp [offM]⟩
theorem bordZ_off (n : Int) (xs : List Int) (k : Int) : (bordZ n xs k).length ≤ 1099511627776 ∧ 1 + offM (bordZ n xs k) (bordZ n xs k).length ≤ 1099511627776 := by
  unfold bordZ
  split
  · have h1 := borM_length (sized (k - 1) (faces n xs)) (sized k (faces n xs))
    have l1 := sized_le n xs (k - 1)
    have l2 := sized_le n xs k
    have h2 := offM_same (k := 64) (borM (sized (k - 1) (faces n xs)) (sized k (faces n xs))) (fun r hr => by
      unfold borM at hr
      obtain ⟨t, _, rfl⟩ := List.mem_map.1 hr
      rw [borR_length]; exact l2)
    rw [h1] at h2 ⊢
    omega
  · exact ⟨by simp, by simp [offM]⟩
theorem mb_has {f : FuncId} {args : Array Value} {w : World} {M : Lin.Mat} {b : Bool} (h : Calls Try.prog f args w fun e w' => ∃ v R, e = .returned (.tuple #[v, .bool b]) ∧ OwnMx w' w.heap.size v R M ∧ Below w.heap.size w w') :
    Calls Try.prog f args w fun e w' => ∃ v, e = .returned (.tuple #[v, .bool b]) ∧ HasMx w' w.heap.size v M ∧ Below w.heap.size w w' :=
  h.mono fun _ _ ⟨v, _, he, ho, hb⟩ => ⟨v, he, ho.has, hb⟩

end Go.Proofs.Ythjgpbcdcgagfaa
