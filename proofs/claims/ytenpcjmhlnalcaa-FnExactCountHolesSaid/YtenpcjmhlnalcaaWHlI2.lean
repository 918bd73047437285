/-
  WALKS: impl's chapter 14: the list of holes.
-/
import Derived.Test.YtenpcjmhlnalcaaWHlI1
import Derived.Deep.RegionLaw
namespace Go.Proofs.Ytenpcjmhlnalcaa
open Go.RowKit
open Sets Lin Hom

/-- The list while it is made: the first k numbers are those of holes. -/
def holTo (Z C : List Int) (k : Nat) : List Int := (List.range C.length).map fun j => if j < k then Z.getD j 0 else C.getD j 0
theorem holTo_length (Z C : List Int) (k : Nat) : (holTo Z C k).length = C.length := by simp [holTo]
theorem holTo_start (Z C : List Int) : holTo Z C 0 = C := by
  unfold holTo
  apply List.ext_getElem (by simp)
  intro i h1 h2
  simp [List.getD, List.getElem?_eq_getElem h2]
theorem holTo_end (Z C : List Int) (h : Z.length = C.length) : holTo Z C C.length = Z := by
  unfold holTo
  apply List.ext_getElem (by simp [h])
  intro i h1 h2
  simp at h1
  simp [List.getD, List.getElem?_eq_getElem h2, h1]
theorem holTo_at (Z C : List Int) (k : Nat) (h : k < C.length) : (holTo Z C k).getD k 0 = C.getD k 0 := by
  simp [holTo, List.getD, h]
theorem holTo_next (Z C : List Int) (k : Nat) : (holTo Z C k).set k (Z.getD k 0) = holTo Z C (k + 1) := by
  unfold holTo
  apply List.ext_getElem (by simp)
  intro i h1 h2
  simp at h2
  rw [List.getElem_set]
  by_cases e : k = i
  · subst e; simp
  · simp [e]
    by_cases e2 : i < k
    · rw [if_pos e2, if_pos (by omega)]
    · rw [if_neg e2, if_neg (by omega)]

set_option maxRecDepth 100000 in
set_option maxHeartbeats 8000000 in
theorem implHoles_any (n : Int) (a : Option Addr) (c : Nat) (xs : List Int) (hcap : xs.length ≤ c) (hlen : xs.length ≤ 1099511627776) (p : Int) (w : World) (h : Ints w a xs) :
    Calls Try.prog 11 #[cx n (.slice a xs.length c), .int .i64 p] w fun e w' => ∃ v, e = .returned v ∧ HasInts w' w.heap.size v (holZ n xs p) ∧ Below w.heap.size w w' := by
  have hb0 : Below w.heap.size w ((w.alloc (Obj.cells #[Value.int IntKind.i64 n, Value.slice a xs.length c] 27)).alloc (.cells #[.int .i64 p] 3)) := ((Below.refl _ _).alloc (Nat.le_refl _) _).alloc (by simp) _
  have htwo := (Two.new w (.int .i64 n) (.slice a xs.length c) 27).alloc (.cells #[.int .i64 p] 3)
  have hpc : ((w.alloc (Obj.cells #[Value.int IntKind.i64 n, Value.slice a xs.length c] 27)).alloc (.cells #[.int .i64 p] 3)).cell? ⟨w.heap.size + 1, 0, none⟩ = some (.int .i64 p) := by simp
  have H := Lib.hid (h.keeps hb0)
  have HB0 := Lib.hid hb0
  have HT := Lib.hid htwo
  have HPC := Lib.hid hpc
  have HFB := Lib.hid (fun (P : Nat) (W : World) (hh : Ints W a xs) hP hk => fromB_any n a c xs hcap hlen p P W hh hP hk)
  have HCN := Lib.hid (fun (W : World) (hh : Ints W a xs) => implCounts_any n a c xs hcap hlen W hh)
  clear h hb0 htwo hpc
  cases hP : primeB p with
  | false =>
    have HE := Lib.hid (holZ_no (n := n) (xs := xs) hP)
    have HPR := Lib.hid hP
    clear hP
    go_enter Try.func11, Try.ntmps11
    have hpc := HPC.out
    go_wp2_with fail
    refine (implPrime_any _ _).mono ?_
    rw [HPR.out]
    rintro e w' ⟨rfl, rfl⟩
    clear hpc
    go_wp2
    go_ret
    exact ⟨_, rfl, by rw [HE.out]; exact HasInts.nil _ _ HB0.out.size, HB0.out⟩
  | true =>
    have HPR := Lib.hid hP
    have h7 := top_le (faces n xs)
    have hZL := holZ_len n xs hP
    have hCL := counts_length (faces n xs)
    have hST := fun (k : Nat) (hk : k < top (faces n xs)) => hol_step hP hk
    have hRL := rkL_length n xs p (top (faces n xs) + 1)
    have hRA := fun (k : Nat) (hk : k < top (faces n xs) + 1) => rkL_at n xs p (top (faces n xs) + 1) k hk
    have hCB := fun (k : Nat) (hk : k < top (faces n xs)) => (counts_at (faces n xs) k hk)
    have hcl := fun k => cnt_le k (faces n xs)
    have hRB := rkB_le n xs p
    have hfl := faces_le n xs
    obtain ⟨m, hm⟩ : ∃ m, top (faces n xs) = m := ⟨_, rfl⟩
    obtain ⟨C, hC⟩ : ∃ C, counts (faces n xs) = C := ⟨_, rfl⟩
    obtain ⟨Z, hZ⟩ : ∃ Z, holZ n xs p = Z := ⟨_, rfl⟩
    rw [hm] at h7 hZL hCL hST hRL hRA hCB HFB
    rw [hC] at hCL hST hCB HCN
    rw [hZ] at hZL hST ⊢
    obtain ⟨R, hR⟩ : ∃ R, rkL n xs p (m + 1) = R := ⟨_, rfl⟩
    rw [hR] at hRL hRA HFB
    have HBD : Hid (∀ k, k < m → 0 ≤ C.getD k 0 ∧ C.getD k 0 ≤ 64) := by
      have : ∀ k, k < m → 0 ≤ C.getD k 0 ∧ C.getD k 0 ≤ 64 := fun k hk => by
        rw [hCB k hk]; have := hcl k; omega
      exact this
    have HST := Lib.hid hST
    have HRA := Lib.hid hRA
    have HRB := Lib.hid hRB
    obtain ⟨m5, hm5⟩ : ∃ m5, m + 1 = m5 := ⟨_, rfl⟩
    have HM5 := Lib.hid hm5
    rw [hm5] at hRL
    have HRL := Lib.hid hRL
    have HCL := Lib.hid hCL
    have HZL := Lib.hid hZL
    have HTL := Lib.hid (holTo_length Z C)
    have HTS := Lib.hid (holTo_start Z C)
    have HTE := Lib.hid (holTo_end Z C (by rw [hZL, hCL]))
    have HTA := Lib.hid (fun k hk => holTo_at Z C k hk)
    have HTN := Lib.hid (fun k => holTo_next Z C k)
    clear hP hm hC hZ hR hm5 hZL hCL hST hRL hRA hCB hcl hRB hfl
    go_enter Try.func11, Try.ntmps11
    obtain ⟨t0, t1, t2, _, _⟩ := HT.out
    have hpc := HPC.out
    go_wp2_with fail
    refine (implPrime_any _ _).mono ?_
    rw [HPR.out]
    rintro e w' ⟨rfl, rfl⟩
    go_wp2_with fail
    refine (HFB.out (w.heap.size + 1) _ H.out (by simp) hpc).mono ?_
    rintro e w2 ⟨v2, rfl, hO2, hb2⟩
    obtain ⟨a2, c2, g2, rfl, -, hR2⟩ := hO2.at
    rw [HRL.out]
    have HB2 : Hid (Below w.heap.size w w2) := HB0.out.trans (hb2.mono HB0.out.size)
    have HT2 := Lib.hid (HT.out.keeps hb2)
    have H2 := Lib.hid (H.out.keeps hb2)
    have HR2 := Lib.hid hR2
    have hz2 := HB2.out.size
    clear hO2 hb2 t0 t1 t2 hpc hR2
    obtain ⟨t0, t1, t2, _, _⟩ := HT2.out
    go_wp2_with fail
    refine (HCN.out _ H2.out).mono ?_
    rintro e w3 ⟨v3, rfl, hO3, hb3⟩
    obtain ⟨a3, c3, g3, rfl, hc3, hg3, hR3, hx3⟩ := hO3
    rw [HCL.out] at hc3 ⊢
    have HB3 := Lib.hid hb3
    have HR3 : Hid (IntsAt w3 g3 a3 (holTo Z C 0)) := by rw [HTS.out]; exact hR3
    have hz3 := hb3.size
    clear hb3 hR3 t0 t1 t2
    go_wp2
    go_loopw [18] (fun i wr => ∃ k : Nat, k ≤ m ∧ i = .int .i64 (k : Int) ∧ IntsAt wr g3 a3 (holTo Z C k) ∧ Below w2.heap.size w2 wr ∧ wr.heap.size = w3.heap.size) (fun i _ => m - (intOf i).toNat)
    case atStart => exact ⟨0, Nat.zero_le _, rfl, HR3.out, HB3.out, rfl⟩
    case round =>
      obtain ⟨k, hk, rfl, hI, hB, hz⟩ := hrel
      have HI := Lib.hid hI
      have HB := Lib.hid hB
      have HZ := Lib.hid hz
      clear hI hB hz
      by_cases hlt : k < m
      · have hd : decide ((k : Int) < (m : Int)) = true := decide_eq_true (by omega)
        obtain ⟨ea, hg1, hc1, hf1⟩ := HI.out k (by rw [HTL.out, HCL.out]; exact hlt)
        rw [HTA.out k (by rw [HCL.out]; exact hlt)] at hc1
        have hRk := HR2.out.keeps HB.out
        obtain ⟨ea2, hg2, hc2, hf2⟩ := hRk k (by rw [HRL.out, ← HM5.out]; omega)
        obtain ⟨_, _, hc22, hf22⟩ := hRk (k + 1) (by rw [HRL.out, ← HM5.out]; omega)
        rw [HRA.out k (by omega)] at hc2
        rw [HRA.out (k + 1) (by omega)] at hc22
        have HNX := Lib.hid (HTN.out k)
        rw [HST.out k hlt] at HNX
        have hb1 := HBD.out k hlt
        have hb2 := HRB.out k
        have hb3 := HRB.out (k + 1)
        obtain ⟨x, hx⟩ : ∃ x, C.getD k 0 = x := ⟨_, rfl⟩
        obtain ⟨r, hr⟩ : ∃ r, rkB n xs p k = r := ⟨_, rfl⟩
        obtain ⟨s, hs⟩ : ∃ s, rkB n xs p (k + 1) = s := ⟨_, rfl⟩
        rw [hx] at hc1 HNX hb1
        rw [hr] at hc2 HNX hb2
        rw [hs] at hc22 HNX hb3
        subst ea ea2
        have hm5 := HM5.out
        have hk5 : (k : Int) < (m5 : Int) := by omega
        have hk6 : (k : Int) + 1 < (m5 : Int) := by omega
        have hk7 : k < m5 := by omega
        have hk10 : (0 : Int) ≤ (k : Int) + 1 := by omega
        have hk8 : k + 1 < m5 := by omega
        have hwk : IntKind.i64.wrap ((k : Int) + 1) = ((k + 1 : Nat) : Int) := by rw [IntWalk.i64_in _ (by omega)]; omega
        have hkm : (k : Int) < (m : Int) := by omega
        have hk9 : ((k + 1 : Nat) : Int) < (m5 : Int) := by omega
        clear hx hr hs hRk hm5
        go_wp2_with fail
        go_region_law (fail)
        all_goals
          have HI5 : Hid (IntsAt ((wr.setCell ⟨g3, k, none⟩ (.int .i64 (x - (r + s)))).drew) g3 (some ⟨g3, 0, none⟩) (holTo Z C (k + 1))) := by
            have := (HI.out.setOwn k (x - (r + s)))
            rw [HNX.out] at this
            exact this
          have HB5 : Hid (Below w2.heap.size w2 ((wr.setCell ⟨g3, k, none⟩ (.int .i64 (x - (r + s)))).drew)) := Lib.hid ((HB.out.setCell (by dsimp only; omega) _).drew)
          go_wp2
          go_roundw
          case rel => exact ⟨k + 1, by omega, by go_num, HI5.out, HB5.out, by simpa using HZ.out⟩
          case measure => simp [intOf]; omega
      · have hd : decide ((k : Int) < (m : Int)) = false := decide_eq_false (by omega)
        have E := Lib.hid (show k = m by omega)
        go_wp2
        go_ret
        refine ⟨.slice a3 m c3, rfl, ⟨a3, c3, g3, by rw [HZL.out], by rw [HZL.out]; exact hc3, by omega, ?_, ?_⟩, HB2.out.trans (HB.out.mono hz2)⟩
        · have h := HI.out
          rw [E.out, ← HCL.out, HTE.out] at h
          exact h
        · have := HZ.out; omega

end Go.Proofs.Ytenpcjmhlnalcaa
