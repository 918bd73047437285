/-
  WALKS of chapter 13 (impl): products of matrices.
-/
import Derived.Test.YthjgpbcdcgagfaaJg17
namespace Go.Proofs.Ythjgpbcdcgagfaa
open Go.RowKit
open Lin (sm)

set_option maxRecDepth 100000 in
set_option maxHeartbeats 4000000 in
theorem fitsBefore_any {base P base2 P2 : Nat} {v v2 : Value} {R R2 : List (Nat × Nat)} {A B : Lin.Mat} (w : World) (h : MP w base P v R A) (h2 : MP w base2 P2 v2 R2 B) :
    Calls Try.prog 63 #[.pointer (some ⟨P, 0, none⟩), .pointer (some ⟨P2, 0, none⟩)] w fun e w' => e = .returned (.bool (decide (0 < B.length) && decide (Lin.wid A = B.length))) ∧ w = w' := by
  have HH := Lib.hid (height_any w h2)
  have HW := Lib.hid (width_any w h)
  obtain ⟨m, hm⟩ : ∃ m, B.length = m := ⟨_, rfl⟩
  obtain ⟨n, hn⟩ : ∃ m, Lin.wid A = m := ⟨_, rfl⟩
  rw [hm] at HH ⊢
  rw [hn] at HW ⊢
  clear h h2 hm hn
  obtain ⟨z, hz⟩ : ∃ z, (decide (0 < m) && decide (n = m)) = z := ⟨_, rfl⟩
  have HE := Lib.hid hz
  rw [hz]
  clear hz
  by_cases h0 : 0 < m
  · have hd : decide (0 < (m : Int)) = true := decide_eq_true (by omega)
    by_cases he : n = m
    · subst he
      go_enter Try.func63, Try.ntmps63
      go_wp2_with fail
      refine HH.out.mono ?_
      rintro e w1 ⟨rfl, rfl⟩
      go_wp2_with fail
      refine HW.out.mono ?_
      rintro e w1 ⟨rfl, rfl⟩
      go_wp2_with fail
      refine HH.out.mono ?_
      rintro e w1 ⟨rfl, rfl⟩
      go_wp2
      go_ret
      have E : true = z := by have h := HE.out; simpa [h0] using h
      exact ⟨by rw [← E]; rfl, rfl⟩
    · have hne : ((n : Int) == (m : Int)) = false := by simp; omega
      go_enter Try.func63, Try.ntmps63
      go_wp2_with fail
      refine HH.out.mono ?_
      rintro e w1 ⟨rfl, rfl⟩
      go_wp2_with fail
      refine HW.out.mono ?_
      rintro e w1 ⟨rfl, rfl⟩
      go_wp2_with fail
      refine HH.out.mono ?_
      rintro e w1 ⟨rfl, rfl⟩
      go_wp2
      go_ret
      have E : false = z := by have h := HE.out; simpa [h0, he] using h
      exact ⟨by rw [← E]; rfl, rfl⟩
  · have hd : decide (0 < (m : Int)) = false := decide_eq_false (by omega)
    go_enter Try.func63, Try.ntmps63
    go_wp2_with fail
    refine HH.out.mono ?_
    rintro e w1 ⟨rfl, rfl⟩
    go_wp2
    go_ret
    have E : false = z := by have h := HE.out; simpa [h0] using h
    exact ⟨by rw [← E]; rfl, rfl⟩

/-- The sum of the first k products. -/
def part (A B : Lin.Mat) (k i j : Nat) : Int := sm (List.range k) fun z => Lin.ent A i z * Lin.ent B z j
theorem part_next (A B : Lin.Mat) (k i j : Nat) : part A B (k + 1) i j = part A B k i j + Lin.ent A i k * Lin.ent B k j := by
  unfold part
  rw [List.range_succ, Hom.sm_append]
  show _ + (_ + 0) = _
  rw [Int.add_zero]
theorem prod_le {x y : Int} (hx : -1000 ≤ x ∧ x ≤ 1000) (hy : -1000 ≤ y ∧ y ≤ 1000) : -1000000 ≤ x * y ∧ x * y ≤ 1000000 := by
  have h1 : 0 ≤ (1000 - x) * (1000 - y) := Int.mul_nonneg (by omega) (by omega)
  have h2 : 0 ≤ (1000 + x) * (1000 + y) := Int.mul_nonneg (by omega) (by omega)
  have h3 : 0 ≤ (1000 - x) * (1000 + y) := Int.mul_nonneg (by omega) (by omega)
  have h4 : 0 ≤ (1000 + x) * (1000 - y) := Int.mul_nonneg (by omega) (by omega)
  have e1 : (1000 - x) * (1000 - y) = 1000000 - 1000 * x - 1000 * y + x * y := by grind
  have e2 : (1000 + x) * (1000 + y) = 1000000 + 1000 * x + 1000 * y + x * y := by grind
  have e3 : (1000 - x) * (1000 + y) = 1000000 - 1000 * x + 1000 * y - x * y := by grind
  have e4 : (1000 + x) * (1000 - y) = 1000000 + 1000 * x - 1000 * y - x * y := by grind
  omega
theorem partMx_le (A B : Lin.Mat) (i j l : Nat) (hA : ∀ z, z < l → -1000 ≤ Lin.ent A i z ∧ Lin.ent A i z ≤ 1000) (hB : ∀ z, z < l → -1000 ≤ Lin.ent B z j ∧ Lin.ent B z j ≤ 1000) : ∀ k, k ≤ l → -((k : Int) * 1000000) ≤ part A B k i j ∧ part A B k i j ≤ (k : Int) * 1000000
  | 0, _ => ⟨by unfold part; simp [sm], by unfold part; simp [sm]⟩
  | k + 1, hk => by
    have ih := partMx_le A B i j l hA hB k (by omega)
    have hp := prod_le (hA k (by omega)) (hB k (by omega))
    rw [part_next]
    have e : ((k + 1 : Nat) : Int) * 1000000 = (k : Int) * 1000000 + 1000000 := by omega
    omega
/-- The product while it is summed up: the rows ahead of i; of the row i the first k products, and of the next one the first j columns. -/
def timesTo (A B : Lin.Mat) (l i k j i' j' : Nat) : Int := if i' < i then part A B l i' j' else if i' = i then (if j' < j then part A B (k + 1) i' j' else part A B k i' j') else 0
theorem timesTo_start (A B : Lin.Mat) (l i' j' : Nat) : (0 : Int) = timesTo A B l 0 0 0 i' j' := by
  unfold timesTo
  rw [if_neg (by omega), if_neg (by omega : ¬j' < 0)]
  split <;> rfl
theorem timesTo_col (A B : Lin.Mat) (l i k n i' j' : Nat) (hj : j' < n) : timesTo A B l i k n i' j' = timesTo A B l i (k + 1) 0 i' j' := by
  unfold timesTo
  rw [if_pos hj, if_neg (by omega : ¬j' < 0)]
theorem timesTo_row (A B : Lin.Mat) (l i i' j' : Nat) : timesTo A B l i l 0 i' j' = timesTo A B l (i + 1) 0 0 i' j' := by
  unfold timesTo
  rw [if_neg (by omega : ¬j' < 0), if_neg (by omega : ¬j' < 0)]
  by_cases h : i' < i
  · rw [if_pos h, if_pos (by omega)]
  · rw [if_neg h]
    by_cases h2 : i' = i
    · rw [if_pos h2, if_pos (by omega)]
    · rw [if_neg h2, if_neg (by omega)]
      split <;> rfl
theorem timesTo_end (A B : Lin.Mat) (l i k j i' j' : Nat) (h : i' < i) : timesTo A B l i k j i' j' = part A B l i' j' := if_pos h
theorem timesTo_old (A B : Lin.Mat) (l i k j : Nat) : timesTo A B l i k j i j = part A B k i j := by
  unfold timesTo; rw [if_neg (by omega), if_pos rfl, if_neg (by omega)]
theorem timesTo_new (A B : Lin.Mat) (l i k j : Nat) : timesTo A B l i k (j + 1) i j = part A B k i j + Lin.ent A i k * Lin.ent B k j := by
  unfold timesTo; rw [if_neg (by omega), if_pos rfl, if_pos (by omega), part_next]
theorem timesTo_same (A B : Lin.Mat) (l i k j i' j' : Nat) (h : ¬(i' = i ∧ j' = j)) : timesTo A B l i k (j + 1) i' j' = timesTo A B l i k j i' j' := by
  unfold timesTo
  split
  · rfl
  · split
    · by_cases h2 : j' < j
      · rw [if_pos h2, if_pos (by omega)]
      · rw [if_neg h2, if_neg (by omega)]
    · rfl

set_option maxRecDepth 100000 in
set_option maxHeartbeats 8000000 in
theorem times_any {base P P2 : Nat} {v v2 : Value} {R R2 : List (Nat × Nat)} {A B : Lin.Mat} (hA : rectB A = true) (hB : rectB B = true) (sA : smallB A = true) (sB : smallB B = true) (h0 : 0 < B.length) (he : Lin.wid A = B.length) (w : World) (h : MP w base P v R A) (h2 : MP w base P2 v2 R2 B) :
    Calls Try.prog 64 #[.pointer (some ⟨P, 0, none⟩), .pointer (some ⟨P2, 0, none⟩)] w fun e w' => ∃ P' v' R', e = .returned (.pointer (some ⟨P', 0, none⟩)) ∧ MP w' w.heap.size P' v' R' (Lin.timesM (Lin.wid B) A B) ∧ Below w.heap.size w w' := by
  obtain ⟨a1, a2, a3⟩ := small_at hA sA
  obtain ⟨b1, b2, b3⟩ := small_at hB sB
  have HT : Hid (Lin.timesM (Lin.wid B) A B = matF A.length (Lin.wid B) fun i j => part A B B.length i j) := timesM_matF _ _ _
  have HH := Lib.hid (height_any w h)
  have HW := Lib.hid (width_any w h2)
  have HRA := Lib.hid (rect_at hA)
  have HRB := Lib.hid (rect_at hB)
  have HA := Lib.hid h
  have HB := Lib.hid h2
  obtain ⟨goA, aoA, coA, hvA, -⟩ := h.own.mx
  obtain ⟨goB, aoB, coB, hvB, -⟩ := h2.own.mx
  rw [he] at a2 a3 HRA
  obtain ⟨m, hm⟩ : ∃ m, A.length = m := ⟨_, rfl⟩
  obtain ⟨l, hl⟩ : ∃ m, B.length = m := ⟨_, rfl⟩
  obtain ⟨n, hn⟩ : ∃ m, Lin.wid B = m := ⟨_, rfl⟩
  have HM := Lib.hid hm
  have HL := Lib.hid hl
  rw [hm] at a1 a3 HT HH HRA hvA
  rw [hl] at a2 a3 b1 b3 HT h0 HRA HRB hvB
  rw [hn] at b2 b3 HT HW HRB ⊢
  subst hvA hvB
  have hcA := h.cell
  have hcB := h2.cell
  have HBA := Lib.hid a3
  have HBB := Lib.hid b3
  have HPL := Lib.hid (fun i j (hi : i < m) (hj : j < n) (k : Nat) (hk : k ≤ l) => partMx_le A B i j l (fun z hz => a3 i z hi hz) (fun z hz => b3 z j hz hj) k hk)
  obtain ⟨T, hT⟩ : ∃ T, Lin.timesM n A B = T := ⟨_, rfl⟩
  rw [hT] at HT ⊢
  have HZ := Lib.hid (fun W => zeroMatrix_any m n (m : Int) (n : Int) rfl rfl (by omega) (by omega) W)
  clear h h2 hA hB sA sB a3 b3 he hm hl hn hT
  go_enter Try.func64, Try.ntmps64
  go_wp2_with fail
  refine HH.out.mono ?_
  rintro e w1 ⟨rfl, rfl⟩
  go_wp2_with fail
  refine HW.out.mono ?_
  rintro e w1 ⟨rfl, rfl⟩
  go_wp2_with fail
  refine (HZ.out _).mono ?_
  rintro e w1 ⟨P3, v3, R3, rfl, hM3, hb1⟩
  rw [zeroM_F] at hM3
  have HX0 : Hid (MP w1 w.heap.size P3 v3 R3 (matF m n (timesTo A B l 0 0 0))) := by
    have : MP w1 w.heap.size P3 v3 R3 (matF m n (timesTo A B l 0 0 0)) := by
      rw [← matF_congr (f := fun _ _ => 0) fun i j _ _ => timesTo_start A B l i j]; exact hM3
    exact this
  have HB1 := Lib.hid hb1
  have hcA1 := (HA.out.keeps hb1).cell
  clear hM3 hb1 hcA hcB HZ HH HW
  go_wp2
  go_loopw [22] (fun z wr => ∃ i : Nat, i ≤ m ∧ z = .int .i64 (i : Int) ∧ MP wr w.heap.size P3 v3 R3 (matF m n (timesTo A B l i 0 0)) ∧ Below w.heap.size w wr) (fun z _ => m - (intOf z).toNat)
  case atStart => exact ⟨0, Nat.zero_le _, rfl, HX0.out, HB1.out⟩
  case round =>
    clear HX0 HB1 hcA1
    obtain ⟨i, hi, rfl, hX, hB⟩ := hrel
    have HX := Lib.hid hX
    have HW := Lib.hid hB
    clear hX hB
    by_cases him : i < m
    · have hd : decide ((i : Int) < (m : Int)) = true := by simpa using him
      obtain ⟨go, co, hv, -, hci, -⟩ := (HA.out.keeps HW.out).read (n := l) (i := i) (by rw [HM.out]; exact him) (HRA.out i him)
      obtain ⟨rfl, -, rfl⟩ : aoA = some ⟨go, 0, none⟩ ∧ m = A.length ∧ coA = co := by simpa using hv
      have HEN : Hid (∀ W, Below w.heap.size w W → ∀ k, k < l → W.cell? ⟨blk R i, k, none⟩ = some (.int .i64 (Lin.ent A i k))) := by
        have : ∀ W, Below w.heap.size w W → ∀ k, k < l → W.cell? ⟨blk R i, k, none⟩ = some (.int .i64 (Lin.ent A i k)) := fun W hW k hk => by
          obtain ⟨_, _, _, _, _, _, _, hnum⟩ := (HA.out.keeps hW).read (n := l) (i := i) (by rw [HM.out]; exact him) (HRA.out i him)
          exact (hnum k hk).1
        exact this
      obtain ⟨B1, hB1⟩ : ∃ b, blk R i = b := ⟨_, rfl⟩
      obtain ⟨C1, hC1⟩ : ∃ b, room R i = b := ⟨_, rfl⟩
      rw [hB1] at HEN
      rw [hB1, hC1] at hci
      clear hv hB1 hC1
      go_wp2
      go_loopw [29] (fun z wr => ∃ k : Nat, k ≤ l ∧ z = .int .i64 (k : Int) ∧ MP wr w.heap.size P3 v3 R3 (matF m n (timesTo A B l i k 0)) ∧ Below w.heap.size w wr) (fun z _ => l - (intOf z).toNat)
      case atStart => exact ⟨0, Nat.zero_le _, rfl, HX.out, HW.out⟩
      case round =>
        clear HX HW hci
        obtain ⟨k, hk, rfl, hX, hB⟩ := hrel
        have HX := Lib.hid hX
        have HW := Lib.hid hB
        clear hX hB
        by_cases hkl : k < l
        · have hdk : decide ((k : Int) < (l : Int)) = true := by simpa using hkl
          have hx := HEN.out wr HW.out k hkl
          have hbx := HBA.out i k him hkl
          have hcB := (HB.out.keeps HW.out).cell
          obtain ⟨g2, c2, hv, -, hck, -⟩ := (HB.out.keeps HW.out).read (n := n) (i := k) (by rw [HL.out]; exact hkl) (HRB.out k hkl)
          obtain ⟨rfl, -, rfl⟩ : aoB = some ⟨g2, 0, none⟩ ∧ l = B.length ∧ coB = c2 := by simpa using hv
          have HEB : Hid (∀ W, Below w.heap.size w W → ∀ j, j < n → W.cell? ⟨blk R2 k, j, none⟩ = some (.int .i64 (Lin.ent B k j))) := by
            have : ∀ W, Below w.heap.size w W → ∀ j, j < n → W.cell? ⟨blk R2 k, j, none⟩ = some (.int .i64 (Lin.ent B k j)) := fun W hW j hj => by
              obtain ⟨_, _, _, _, _, _, _, hnum⟩ := (HB.out.keeps hW).read (n := n) (i := k) (by rw [HL.out]; exact hkl) (HRB.out k hkl)
              exact (hnum j hj).1
            exact this
          obtain ⟨B2, hB2⟩ : ∃ b, blk R2 k = b := ⟨_, rfl⟩
          obtain ⟨C2, hC2⟩ : ∃ b, room R2 k = b := ⟨_, rfl⟩
          have HNEW := Lib.hid (fun j => timesTo_new A B l i k j)
          obtain ⟨x, hxx⟩ : ∃ x, Lin.ent A i k = x := ⟨_, rfl⟩
          rw [hxx] at hx hbx
          simp only [hxx] at HNEW
          rw [hB2] at HEB
          rw [hB2, hC2] at hck
          clear hv hB2 hC2 hxx
          go_wp2
          go_loopw [42] (fun z wr => ∃ j : Nat, j ≤ n ∧ z = .int .i64 (j : Int) ∧ MP wr w.heap.size P3 v3 R3 (matF m n (timesTo A B l i k j)) ∧ Below w.heap.size w wr) (fun z _ => n - (intOf z).toNat)
          case atStart => exact ⟨0, Nat.zero_le _, rfl, HX.out, HW.out⟩
          case round =>
            clear HX HW hck hx hcB
            obtain ⟨j, hj, rfl, hX, hB⟩ := hrel
            have HX := Lib.hid hX
            have HW := Lib.hid hB
            clear hX hB
            by_cases hjn : j < n
            · have hdj : decide ((j : Int) < (n : Int)) = true := by simpa using hjn
              have hy := HEB.out wr HW.out j hjn
              have hby := HBB.out k j hkl hjn
              obtain ⟨g3, c3, hv3, hcr, hbb, hcc⟩ := HX.out.readF him
              obtain ⟨hcn, hfn⟩ := hcc j hjn
              rw [timesTo_old] at hcn
              have hpl := HPL.out i j him hjn k hk
              have hcP := HX.out.cell
              have hX2 := HX.out.setF him hjn _ (timesTo A B l i k (j + 1)) rfl fun i' j' _ _ hne => timesTo_same A B l i k j i' j' hne
              have hB2 := HW.out.setCell (p := ⟨blk R3 i, j, none⟩) hbb (.int .i64 (timesTo A B l i k (j + 1) i j))
              rw [HNEW.out] at hX2 hB2
              rw [hv3] at hcP
              obtain ⟨y, hyy⟩ : ∃ x, Lin.ent B k j = x := ⟨_, rfl⟩
              obtain ⟨u, huu⟩ : ∃ y, part A B k i j = y := ⟨_, rfl⟩
              obtain ⟨B3, hB3⟩ : ∃ b, blk R3 i = b := ⟨_, rfl⟩
              obtain ⟨C3, hC3⟩ : ∃ b, room R3 i = b := ⟨_, rfl⟩
              rw [hyy] at hy hby hX2 hB2
              rw [huu] at hcn hpl hX2 hB2
              rw [hB3] at hcn hfn hX2 hB2
              rw [hB3, hC3] at hcr
              have hxy := prod_le hbx hby
              have hku : -30000000 ≤ u ∧ u ≤ 30000000 := by omega
              have HX2 := Lib.hid hX2
              have HW2 := Lib.hid hB2
              clear hX2 hB2 hcc hbb hyy huu hB3 hC3 hv3 hpl
              go_wp2
              go_roundw
              case rel => exact ⟨j + 1, by omega, by go_num, HX2.out, HW2.out⟩
              case measure => simp [intOf]; omega
            · have hdj : decide ((j : Int) < (n : Int)) = false := by simpa using hjn
              have HX2 : Hid (MP wr w.heap.size P3 v3 R3 (matF m n (timesTo A B l i (k + 1) 0))) := by
                have : MP wr w.heap.size P3 v3 R3 (matF m n (timesTo A B l i (k + 1) 0)) := by
                  have h := HX.out
                  rw [show j = n by omega, matF_congr (g := timesTo A B l i (k + 1) 0) fun i' j' _ hj' => timesTo_col A B l i k n i' j' hj'] at h
                  exact h
                exact this
              go_wp2
              go_roundw
              case rel => exact ⟨k + 1, by omega, by go_num, HX2.out, HW.out⟩
              case measure => simp [intOf]; omega
        · have hdk : decide ((k : Int) < (l : Int)) = false := by simpa using hkl
          have HX2 : Hid (MP wr w.heap.size P3 v3 R3 (matF m n (timesTo A B l (i + 1) 0 0))) := by
            have : MP wr w.heap.size P3 v3 R3 (matF m n (timesTo A B l (i + 1) 0 0)) := by
              have h := HX.out
              rw [show k = l by omega, matF_congr (g := timesTo A B l (i + 1) 0 0) fun i' j' _ _ => timesTo_row A B l i i' j'] at h
              exact h
            exact this
          go_wp2
          go_roundw
          case rel => exact ⟨i + 1, by omega, by go_num, HX2.out, HW.out⟩
          case measure => simp [intOf]; omega
    · have hd : decide ((i : Int) < (m : Int)) = false := by simpa using him
      have HX2 : Hid (MP wr w.heap.size P3 v3 R3 T) := by
        have : MP wr w.heap.size P3 v3 R3 T := by
          have h := HX.out
          rw [show i = m by omega, matF_congr (g := fun i j => part A B l i j) fun i' j' hi' _ => timesTo_end A B l m 0 0 i' j' hi', ← HT.out] at h
          exact h
        exact this
      go_wp2
      go_ret
      exact ⟨P3, v3, R3, rfl, HX2.out, HW.out⟩

end Go.Proofs.Ythjgpbcdcgagfaa
