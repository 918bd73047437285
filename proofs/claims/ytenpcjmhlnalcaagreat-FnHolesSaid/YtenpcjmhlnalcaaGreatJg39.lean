/-
  TEXTS of one claim, put together: WHlI1, WHlI2, WEqS.
-/
import Derived.Test.YtenpcjmhlnalcaaGreatHlI
import Derived.Test.YtenpcjmhlnalcaaGreatWMatIB
import Derived.Test.YtenpcjmhlnalcaaGreatJg31
import Derived.Test.YtenpcjmhlnalcaaGreatJg8
import Derived.Shelf.Abstract
import Derived.Deep.RegionLaw
import Derived.Test.YtenpcjmhlnalcaaGreatJg2
import Derived.Test.YtenpcjmhlnalcaaGreatJg5
/-! WALKS: impl's chapter 14: the ranks of the borders of all sizes. -/

namespace Go.Proofs.YtenpcjmhlnalcaaGreat
open Go.RowKit
open Sets Lin Hom

theorem bordZ_lim (n : Int) (xs : List Int) (k : Int) : (bordZ n xs k).length ≤ 1099511627776 ∧ ∀ i, i < (bordZ n xs k).length → (Lin.row (bordZ n xs k) i).length ≤ 1099511627776 :=
  ⟨(bordZ_off n xs k).1, fun i hi => by have := offM_row (bordZ n xs k) i hi; have := (bordZ_off n xs k).2; omega⟩

set_option maxRecDepth 100000 in
set_option maxHeartbeats 2000000 in
theorem holes1_any (p : Int) (P : Nat) (n : Int) (xs : List Int) (k : Nat) {base : Nat} {v : Value} (w : World) (hk : w.cell? ⟨P, 0, none⟩ = some (.int .i64 p)) (h : HasMx w base v (bordZ n xs (k : Int))) :
    Calls Tryz.prog 27 #[v, .pointer (some ⟨P, 0, none⟩)] w fun e w' => e = .returned (.int .i64 (rkB n xs p k)) ∧ Below w.heap.size w w' := by
  obtain ⟨ao, co, go, R, rfl, -, -, h4⟩ := h
  have hC := implRank_any p go ao co R _ (bordZ_lim n xs k).1 (bordZ_lim n xs k).2 w h4
  rw [show rankZ (bordZ n xs (k : Int)) p = rkB n xs p k from rfl] at hC
  obtain ⟨r, hr⟩ : ∃ r, rkB n xs p k = r := ⟨_, rfl⟩
  obtain ⟨l, hl⟩ : ∃ l, (bordZ n xs (k : Int)).length = l := ⟨_, rfl⟩
  rw [hr, hl] at hC
  rw [hr, hl]
  have HC := Lib.hid hC
  clear h4 hC hr hl
  go_enter Tryz.func27, Tryz.ntmps27
  go_wp2_with fail
  refine HC.out.mono ?_
  rintro e w1 ⟨rfl, hb⟩
  have HB := Lib.hid hb
  clear hb
  go_wp2
  go_ret
  exact ⟨rfl, HB.out⟩

def rkL (n : Int) (xs : List Int) (p : Int) (m : Nat) : List Int := (List.range m).map fun k => rkB n xs p k
theorem rkL_length (n : Int) (xs : List Int) (p : Int) (m : Nat) : (rkL n xs p m).length = m := by simp [rkL]
theorem rkL_next (n : Int) (xs : List Int) (p : Int) (m : Nat) : rkL n xs p (m + 1) = rkL n xs p m ++ [rkB n xs p m] := by
  unfold rkL; rw [List.range_succ, List.map_append]; rfl
theorem rkL_at (n : Int) (xs : List Int) (p : Int) (m k : Nat) (h : k < m) : (rkL n xs p m).getD k 0 = rkB n xs p k := by simp [rkL, List.getD, h]

set_option maxRecDepth 100000 in
set_option maxHeartbeats 8000000 in
theorem fromB_any (n : Int) (a : Option Addr) (c : Nat) (xs : List Int) (hcap : xs.length ≤ c) (hlen : xs.length ≤ 1099511627776) (p : Int) (P : Nat) (w : World) (h : Ints w a xs) (hP : P < w.heap.size) (hk : w.cell? ⟨P, 0, none⟩ = some (.int .i64 p)) :
    Calls Tryz.prog 26 #[cx n (.slice a xs.length c), .func (.func 27) #[] #[.pointer (some ⟨P, 0, none⟩)]] w fun e w' => ∃ v, e = .returned v ∧ OwnInts w' w.heap.size v (rkL n xs p (top (faces n xs) + 1)) ∧ Below w.heap.size w w' := by
  obtain ⟨i0, hi, hz0, hz1, hz2⟩ := info_parts info_int
  have eg : ∀ args w, (callFunc 27 args).run Tryz.prog w = .ok (.enter 27 args) w := enters_of Tryz.func27 (by kernel_rfl) rfl
  have hb0 : Below w.heap.size w (w.alloc (Obj.cells #[Value.int IntKind.i64 n, Value.slice a xs.length c] 26)) := (Below.refl _ _).alloc (Nat.le_refl _) _
  have htwo := Two.new w (.int .i64 n) (.slice a xs.length c) 26
  have H0 := Lib.hid h
  have HB0 := Lib.hid hb0
  have HT := Lib.hid htwo
  have HK := Lib.hid (fun (W : World) (hW : Below w.heap.size w W) => (hW.cell (p := ⟨P, 0, none⟩) hP).trans hk)
  have HCN := Lib.hid (fun (W : World) (hh : Ints W a xs) => implCounts_any n a c xs hcap hlen W hh)
  have HBR := Lib.hid (fun (k : Nat) (W : World) (hh : Ints W a xs) => implBordMx_any n a c xs hcap hlen (k : Int) W hh)
  have HRK := Lib.hid (fun (k base : Nat) (v : Value) (W : World) hk (hM : HasMx W base v (bordZ n xs (k : Int))) => holes1_any p P n xs k W hk hM)
  have htop := top_le (faces n xs)
  have hcl := counts_length (faces n xs)
  obtain ⟨m, hm⟩ : ∃ m, top (faces n xs) = m := ⟨_, rfl⟩
  obtain ⟨F, hF⟩ : ∃ F, counts (faces n xs) = F := ⟨_, rfl⟩
  rw [hm] at htop hcl
  rw [hF] at hcl HCN
  rw [hm]
  have HL := Lib.hid hcl
  have HNX := Lib.hid (rkL_next n xs p)
  have HLN := Lib.hid (rkL_length n xs p)
  clear h hb0 htwo hk hm hF hcl
  go_enter Tryz.func26, Tryz.ntmps26
  obtain ⟨t0, t1, t2, _, _⟩ := HT.out
  go_wp2_with fail
  refine (HCN.out _ (H0.out.keeps HB0.out)).mono ?_
  rintro e w1 ⟨v1, rfl, hO1, hb1⟩
  obtain ⟨a1, c1, g1, rfl, -, -, -, -⟩ := hO1
  rw [HL.out]
  have HB1 : Hid (Below w.heap.size w w1) := HB0.out.trans (hb1.mono HB0.out.size)
  have HT1 := Lib.hid (HT.out.keeps hb1)
  clear hb1 t0 t1 t2
  go_wp2
  go_loopw [5, 11] (fun v i wr => ∃ k : Nat, k ≤ m + 1 ∧ i = .int .i64 (k : Int) ∧ OwnInts wr w.heap.size v (rkL n xs p k) ∧ Below w.heap.size w wr ∧ Two wr w.heap.size (.int .i64 n) (.slice a xs.length c) ∧ v.ownBlock ≠ some w.heap.size) (fun _ i _ => m + 1 - (intOf i).toNat)
  case atStart => exact ⟨0, Nat.zero_le _, rfl, OwnInts.nil _ _, HB1.out, HT1.out, by simp [Value.ownBlock]⟩
  case round =>
    obtain ⟨k, hk, rfl, hO, hB, hT, hn⟩ := hrel
    have HO := Lib.hid hO
    have HB := Lib.hid hB
    have HT := Lib.hid hT
    have HN := Lib.hid hn
    have hbl := hT.1
    have hsz := hB.size
    obtain ⟨wo, rfl⟩ : ∃ wo : World, wo = wr := ⟨_, rfl⟩
    by_cases hlt : k < m + 1
    · have hd : decide ((k : Int) < (m : Int) + 1) = true := decide_eq_true (by omega)
      obtain ⟨t0, t1, t2, _, _⟩ := hT
      clear hO hB hn
      go_wp2_with fail
      refine (HBR.out k _ (H0.out.keeps HB.out)).mono ?_
      rintro e w2 ⟨v2, rfl, hM2, hb2⟩
      have HM2 := Lib.hid hM2
      have HB2 := Lib.hid hb2
      have HC2 := Lib.hid (HRK.out k _ _ w2 (HK.out w2 (HB.out.trans (hb2.mono hsz))) hM2)
      obtain ⟨r, hr⟩ : ∃ r, rkB n xs p k = r := ⟨_, rfl⟩
      have HNK := Lib.hid (HNX.out k)
      rw [hr] at HC2 HNK
      have hz2w := hb2.size
      clear hM2 hb2 t0 t1 t2 hr
      go_wp2_with (first
        | (go_at_fn 27; refine HC2.out.mono ?_; rintro e w3 ⟨rfl, hb3⟩; have HB3 : Hid (Below wo.heap.size wo w3) := HB2.out.trans (hb3.mono HB2.out.size); have HO3 := Lib.hid (HO.out.keeps HB3.out); have HT3 := Lib.hid (HT.out.keeps HB3.out); have hz3 := HB3.out.size; unfold OwnInts at HO3; rw [HLN.out] at HO3; clear hb3)
        | (at_builtin; refine wpList_append_own_at _ rfl _ _ 24 rfl w.heap.size 3 i0 (.int .i64 0) 1 8 Tryz.underlying24 hi hz0 hz1 hz2 rfl (by decide) _ _ _ rfl (HO3.out.alloc _) ⟨w3.heap.size, 0, none⟩ 1 1 [.int .i64 r] rfl rfl ?c1 ?c2 ?c3 ?c4 ?c5 ?_)
        | fail "arm")
      case c1 => intro j u hj; exact Mem.cell_new w3 _ _ j u hj
      case c2 => intro u hu; simp at hu; subst hu; rfl
      case c3 => unfold maxLen; omega
      case c4 => omega
      case c5 => simp; omega
      intro v' w4 hown1 hgrow _ hob
      have hBA : Below w3.heap.size w3 (w3.alloc (.cells #[.int .i64 r] 3)) := (Below.refl _ _).alloc (Nat.le_refl _) _
      have HB5 : Hid (Below w.heap.size w w4) := ((HB.out.trans (HB3.out.mono hsz)).trans (hBA.mono (by omega))).grown hgrow (by simp; omega) (fun g hg => (HO3.out.lt g hg).1)
      have HT5 : Hid (Two w4 w.heap.size (.int .i64 n) (.slice a xs.length c)) := Two.grow2 (HT3.out.keeps hBA) hgrow HN.out
      have HO5 : Hid (OwnInts w4 w.heap.size v' (rkL n xs p (k + 1))) := by
        have : OwnInts w4 w.heap.size v' (rkL n xs p (k + 1)) := by
          rw [HNK.out]
          unfold OwnInts
          rw [List.length_append, List.map_append, HLN.out]
          exact hown1
        exact this
      have HN5 : Hid (v'.ownBlock ≠ some w.heap.size) := by
        have : v'.ownBlock ≠ some w.heap.size := by
          rcases hob with e | e
          · rw [e]; exact HN.out
          · rw [e]; simp; omega
        exact this
      clear hown1 hgrow hob hBA
      go_wp2
      go_roundw
      case rel => exact ⟨k + 1, by omega, by go_num, HO5.out, HB5.out, HT5.out, HN5.out⟩
      case measure => simp [intOf]; omega
    · have hd : decide ((k : Int) < (m : Int) + 1) = false := decide_eq_false (by omega)
      have E := Lib.hid (show k = m + 1 by omega)
      clear hO hB hT hn
      go_wp2
      go_ret
      exact ⟨_, rfl, by have h := HO.out; rw [E.out] at h; exact h, HB.out⟩

end Go.Proofs.YtenpcjmhlnalcaaGreat

/-! WALKS: impl's chapter 14: the list of holes. -/

namespace Go.Proofs.YtenpcjmhlnalcaaGreat
open Go.RowKit
open Sets Lin Hom

/-- The list while it is made: the first k numbers are those of holes. -/
def holTo (Z C : List Int) (k : Nat) : List Int := (List.range C.length).map fun j => if j < k then Z.getD j 0 else C.getD j 0
theorem holTo_length (Z C : List Int) (k : Nat) : (holTo Z C k).length = C.length := by simp [holTo]
theorem holTo_start (Z C : List Int) : holTo Z C 0 = C := by
  unfold holTo
  apply List.ext_getElem (by simp)
  intro i h1 h2
  simp [List.getD, List.getElem?_eq_getElem h2]
theorem holTo_end (Z C : List Int) (h : Z.length = C.length) : holTo Z C C.length = Z := by
  unfold holTo
  apply List.ext_getElem (by simp [h])
  intro i h1 h2
  simp at h1
  simp [List.getD, List.getElem?_eq_getElem h2, h1]
theorem holTo_at (Z C : List Int) (k : Nat) (h : k < C.length) : (holTo Z C k).getD k 0 = C.getD k 0 := by
  simp [holTo, List.getD, h]
theorem holTo_next (Z C : List Int) (k : Nat) : (holTo Z C k).set k (Z.getD k 0) = holTo Z C (k + 1) := by
  unfold holTo
  apply List.ext_getElem (by simp)
  intro i h1 h2
  simp at h2
  rw [List.getElem_set]
  by_cases e : k = i
  · subst e; simp
  · simp [e]
    by_cases e2 : i < k
    · rw [if_pos e2, if_pos (by omega)]
    · rw [if_neg e2, if_neg (by omega)]

set_option maxRecDepth 100000 in
set_option maxHeartbeats 8000000 in
theorem implHoles_any (n : Int) (a : Option Addr) (c : Nat) (xs : List Int) (hcap : xs.length ≤ c) (hlen : xs.length ≤ 1099511627776) (p : Int) (w : World) (h : Ints w a xs) :
    Calls Tryz.prog 6 #[cx n (.slice a xs.length c), .int .i64 p] w fun e w' => ∃ v, e = .returned v ∧ HasInts w' w.heap.size v (holZ n xs p) ∧ Below w.heap.size w w' := by
  have hb0 : Below w.heap.size w ((w.alloc (Obj.cells #[Value.int IntKind.i64 n, Value.slice a xs.length c] 26)).alloc (.cells #[.int .i64 p] 3)) := ((Below.refl _ _).alloc (Nat.le_refl _) _).alloc (by simp) _
  have htwo := (Two.new w (.int .i64 n) (.slice a xs.length c) 26).alloc (.cells #[.int .i64 p] 3)
  have hpc : ((w.alloc (Obj.cells #[Value.int IntKind.i64 n, Value.slice a xs.length c] 26)).alloc (.cells #[.int .i64 p] 3)).cell? ⟨w.heap.size + 1, 0, none⟩ = some (.int .i64 p) := by simp
  have H := Lib.hid (h.keeps hb0)
  have HB0 := Lib.hid hb0
  have HT := Lib.hid htwo
  have HPC := Lib.hid hpc
  have HFB := Lib.hid (fun (P : Nat) (W : World) (hh : Ints W a xs) hP hk => fromB_any n a c xs hcap hlen p P W hh hP hk)
  have HCN := Lib.hid (fun (W : World) (hh : Ints W a xs) => implCounts_any n a c xs hcap hlen W hh)
  clear h hb0 htwo hpc
  cases hP : primeB p with
  | false =>
    have HE := Lib.hid (holZ_no (n := n) (xs := xs) hP)
    have HPR := Lib.hid hP
    clear hP
    go_enter Tryz.func6, Tryz.ntmps6
    have hpc := HPC.out
    go_wp2_with fail
    refine (implPrime_any _ _).mono ?_
    rw [HPR.out]
    rintro e w' ⟨rfl, rfl⟩
    clear hpc
    go_wp2
    go_ret
    exact ⟨_, rfl, by rw [HE.out]; exact HasInts.nil _ _ HB0.out.size, HB0.out⟩
  | true =>
    have HPR := Lib.hid hP
    have h7 := top_le (faces n xs)
    have hZL := holZ_len n xs hP
    have hCL := counts_length (faces n xs)
    have hST := fun (k : Nat) (hk : k < top (faces n xs)) => hol_step hP hk
    have hRL := rkL_length n xs p (top (faces n xs) + 1)
    have hRA := fun (k : Nat) (hk : k < top (faces n xs) + 1) => rkL_at n xs p (top (faces n xs) + 1) k hk
    have hCB := fun (k : Nat) (hk : k < top (faces n xs)) => (counts_at (faces n xs) k hk)
    have hcl := fun k => cnt_le k (faces n xs)
    have hRB := rkB_le n xs p
    have hfl := faces_le n xs
    obtain ⟨m, hm⟩ : ∃ m, top (faces n xs) = m := ⟨_, rfl⟩
    obtain ⟨C, hC⟩ : ∃ C, counts (faces n xs) = C := ⟨_, rfl⟩
    obtain ⟨Z, hZ⟩ : ∃ Z, holZ n xs p = Z := ⟨_, rfl⟩
    rw [hm] at h7 hZL hCL hST hRL hRA hCB HFB
    rw [hC] at hCL hST hCB HCN
    rw [hZ] at hZL hST ⊢
    obtain ⟨R, hR⟩ : ∃ R, rkL n xs p (m + 1) = R := ⟨_, rfl⟩
    rw [hR] at hRL hRA HFB
    have HBD : Hid (∀ k, k < m → 0 ≤ C.getD k 0 ∧ C.getD k 0 ≤ 64) := by
      have : ∀ k, k < m → 0 ≤ C.getD k 0 ∧ C.getD k 0 ≤ 64 := fun k hk => by
        rw [hCB k hk]; have := hcl k; omega
      exact this
    have HST := Lib.hid hST
    have HRA := Lib.hid hRA
    have HRB := Lib.hid hRB
    obtain ⟨m5, hm5⟩ : ∃ m5, m + 1 = m5 := ⟨_, rfl⟩
    have HM5 := Lib.hid hm5
    rw [hm5] at hRL
    have HRL := Lib.hid hRL
    have HCL := Lib.hid hCL
    have HZL := Lib.hid hZL
    have HTL := Lib.hid (holTo_length Z C)
    have HTS := Lib.hid (holTo_start Z C)
    have HTE := Lib.hid (holTo_end Z C (by rw [hZL, hCL]))
    have HTA := Lib.hid (fun k hk => holTo_at Z C k hk)
    have HTN := Lib.hid (fun k => holTo_next Z C k)
    clear hP hm hC hZ hR hm5 hZL hCL hST hRL hRA hCB hcl hRB hfl
    go_enter Tryz.func6, Tryz.ntmps6
    obtain ⟨t0, t1, t2, _, _⟩ := HT.out
    have hpc := HPC.out
    go_wp2_with fail
    refine (implPrime_any _ _).mono ?_
    rw [HPR.out]
    rintro e w' ⟨rfl, rfl⟩
    go_wp2_with fail
    refine (HFB.out (w.heap.size + 1) _ H.out (by simp) hpc).mono ?_
    rintro e w2 ⟨v2, rfl, hO2, hb2⟩
    obtain ⟨a2, c2, g2, rfl, -, hR2⟩ := hO2.at
    rw [HRL.out]
    have HB2 : Hid (Below w.heap.size w w2) := HB0.out.trans (hb2.mono HB0.out.size)
    have HT2 := Lib.hid (HT.out.keeps hb2)
    have H2 := Lib.hid (H.out.keeps hb2)
    have HR2 := Lib.hid hR2
    have hz2 := HB2.out.size
    clear hO2 hb2 t0 t1 t2 hpc hR2
    obtain ⟨t0, t1, t2, _, _⟩ := HT2.out
    go_wp2_with fail
    refine (HCN.out _ H2.out).mono ?_
    rintro e w3 ⟨v3, rfl, hO3, hb3⟩
    obtain ⟨a3, c3, g3, rfl, hc3, hg3, hR3, hx3⟩ := hO3
    rw [HCL.out] at hc3 ⊢
    have HB3 := Lib.hid hb3
    have HR3 : Hid (IntsAt w3 g3 a3 (holTo Z C 0)) := by rw [HTS.out]; exact hR3
    have hz3 := hb3.size
    clear hb3 hR3 t0 t1 t2
    go_wp2
    go_loopw [18] (fun i wr => ∃ k : Nat, k ≤ m ∧ i = .int .i64 (k : Int) ∧ IntsAt wr g3 a3 (holTo Z C k) ∧ Below w2.heap.size w2 wr ∧ wr.heap.size = w3.heap.size) (fun i _ => m - (intOf i).toNat)
    case atStart => exact ⟨0, Nat.zero_le _, rfl, HR3.out, HB3.out, rfl⟩
    case round =>
      obtain ⟨k, hk, rfl, hI, hB, hz⟩ := hrel
      have HI := Lib.hid hI
      have HB := Lib.hid hB
      have HZ := Lib.hid hz
      clear hI hB hz
      by_cases hlt : k < m
      · have hd : decide ((k : Int) < (m : Int)) = true := decide_eq_true (by omega)
        obtain ⟨ea, hg1, hc1, hf1⟩ := HI.out k (by rw [HTL.out, HCL.out]; exact hlt)
        rw [HTA.out k (by rw [HCL.out]; exact hlt)] at hc1
        have hRk := HR2.out.keeps HB.out
        obtain ⟨ea2, hg2, hc2, hf2⟩ := hRk k (by rw [HRL.out, ← HM5.out]; omega)
        obtain ⟨_, _, hc22, hf22⟩ := hRk (k + 1) (by rw [HRL.out, ← HM5.out]; omega)
        rw [HRA.out k (by omega)] at hc2
        rw [HRA.out (k + 1) (by omega)] at hc22
        have HNX := Lib.hid (HTN.out k)
        rw [HST.out k hlt] at HNX
        have hb1 := HBD.out k hlt
        have hb2 := HRB.out k
        have hb3 := HRB.out (k + 1)
        obtain ⟨x, hx⟩ : ∃ x, C.getD k 0 = x := ⟨_, rfl⟩
        obtain ⟨r, hr⟩ : ∃ r, rkB n xs p k = r := ⟨_, rfl⟩
        obtain ⟨s, hs⟩ : ∃ s, rkB n xs p (k + 1) = s := ⟨_, rfl⟩
        rw [hx] at hc1 HNX hb1
        rw [hr] at hc2 HNX hb2
        rw [hs] at hc22 HNX hb3
        subst ea ea2
        have hm5 := HM5.out
        have hk5 : (k : Int) < (m5 : Int) := by omega
        have hk6 : (k : Int) + 1 < (m5 : Int) := by omega
        have hk7 : k < m5 := by omega
        have hk10 : (0 : Int) ≤ (k : Int) + 1 := by omega
        have hk8 : k + 1 < m5 := by omega
        have hwk : IntKind.i64.wrap ((k : Int) + 1) = ((k + 1 : Nat) : Int) := by rw [IntWalk.i64_in _ (by omega)]; omega
        have hkm : (k : Int) < (m : Int) := by omega
        have hk9 : ((k + 1 : Nat) : Int) < (m5 : Int) := by omega
        clear hx hr hs hRk hm5
        go_wp2_with fail
        go_region_law (fail)
        all_goals
          have HI5 : Hid (IntsAt ((wr.setCell ⟨g3, k, none⟩ (.int .i64 (x - (r + s)))).drew) g3 (some ⟨g3, 0, none⟩) (holTo Z C (k + 1))) := by
            have := (HI.out.setOwn k (x - (r + s)))
            rw [HNX.out] at this
            exact this
          have HB5 : Hid (Below w2.heap.size w2 ((wr.setCell ⟨g3, k, none⟩ (.int .i64 (x - (r + s)))).drew)) := Lib.hid ((HB.out.setCell (by dsimp only; omega) _).drew)
          go_wp2
          go_roundw
          case rel => exact ⟨k + 1, by omega, by go_num, HI5.out, HB5.out, by simpa using HZ.out⟩
          case measure => simp [intOf]; omega
      · have hd : decide ((k : Int) < (m : Int)) = false := decide_eq_false (by omega)
        have E := Lib.hid (show k = m by omega)
        go_wp2
        go_ret
        refine ⟨.slice a3 m c3, rfl, ⟨a3, c3, g3, by rw [HZL.out], by rw [HZL.out]; exact hc3, by omega, ?_, ?_⟩, HB2.out.trans (HB.out.mono hz2)⟩
        · have h := HI.out
          rw [E.out, ← HCL.out, HTE.out] at h
          exact h
        · have := HZ.out; omega

end Go.Proofs.YtenpcjmhlnalcaaGreat

/-! WALK: the library's Equal at slices of numbers. -/

namespace Go.Proofs.YtenpcjmhlnalcaaGreat
open Go.RowKit
open Sets

theorem eq_at {xs ys : List Int} {l : Nat} (hx : xs.length = l) (hy : ys.length = l) (h : ∀ j, j < l → xs.getD j 0 = ys.getD j 0) : (xs == ys) = true := by
  rw [beq_iff_eq]
  apply List.ext_getElem (by rw [hx, hy])
  intro j h1 h2
  have := h j (by omega)
  rw [List.getD, List.getElem?_eq_getElem h1, List.getD, List.getElem?_eq_getElem h2] at this
  simpa using this
theorem ne_at {xs ys : List Int} {j : Nat} (h : xs.getD j 0 ≠ ys.getD j 0) : (xs == ys) = false := by
  rw [Bool.eq_false_iff]
  intro e
  rw [beq_iff_eq] at e
  exact h (by rw [e])

set_option maxRecDepth 100000 in
set_option maxHeartbeats 2000000 in
theorem equalS_b (a1 a2 : Option Addr) (c1 c2 : Nat) (xs ys : List Int) (l : Nat) (hx : xs.length = l) (hy : ys.length = l) (hl : l ≤ 1099511627776) (b : Bool) (hb : (xs == ys) = b) (w : World) (h1 : Ints w a1 xs) (h2 : Ints w a2 ys) :
    Calls Tryz.prog 56 #[.slice a1 l c1, .slice a2 l c2] w fun e w' => e = .returned (.bool b) ∧ Below w.heap.size w w' := by
  have H1 := Lib.hid h1
  have H2 := Lib.hid h2
  have HB := Lib.hid hb
  have HX := Lib.hid hx
  have HY := Lib.hid hy
  clear h1 h2 hb hx hy
  go_enter Tryz.func56, Tryz.ntmps56
  go_wp2
  go_loopw [13] (fun i wr => ∃ k n : Nat, k ≤ l ∧ i = .int .i64 k ∧ wr = w.drewN n ∧ (∀ j, j < k → xs.getD j 0 = ys.getD j 0)) (fun i _ => l - (intOf i).toNat)
  case atStart => exact ⟨0, 0, Nat.zero_le _, rfl, rfl, fun j hj => absurd hj (Nat.not_lt_zero _)⟩
  case round =>
    obtain ⟨k, n, hk, rfl, rfl, hq⟩ := hrel
    have HQ := Lib.hid hq
    clear hq
    by_cases hlt : k < l
    · obtain ⟨b1, o1, rfl, g1⟩ := H1.out k (by rw [HX.out]; exact hlt)
      obtain ⟨b2, o2, rfl, g2⟩ := H2.out k (by rw [HY.out]; exact hlt)
      obtain ⟨x, hx⟩ : ∃ x, xs.getD k 0 = x := ⟨_, rfl⟩
      obtain ⟨y, hy⟩ : ∃ y, ys.getD k 0 = y := ⟨_, rfl⟩
      rw [hx] at g1
      rw [hy] at g2
      have HXK := Lib.hid hx
      have HYK := Lib.hid hy
      clear hx hy
      by_cases e : x = y
      · subst e
        go_wp2
        go_quiet (fail)
        go_wp2
        go_roundw
        case rel =>
          refine ⟨k + 1, n + nq, by omega, by go_num, rfl, fun j hj => ?_⟩
          by_cases e : j = k
          · subst e; rw [HXK.out, HYK.out]
          · exact HQ.out j (by omega)
        case measure => simp [intOf]; omega
      · have hne : (x == y) = false := by simpa using e
        have HR : Hid (b = false) := by
          have : b = false := by rw [← HB.out]; exact ne_at (j := k) (by rw [HXK.out, HYK.out]; exact e)
          exact this
        have E := Lib.hid e
        clear e
        go_wp2
        go_quiet (fail)
        go_wp2
        go_ret
        exact ⟨by rw [HR.out]; rfl, bdrew (Mem.below_drewN w n) _⟩
    · have E := Lib.hid (show k = l by omega)
      have HR : Hid (b = true) := by
        have : b = true := by rw [← HB.out]; exact eq_at HX.out HY.out (fun j hj => HQ.out j (by rw [E.out]; exact hj))
        exact this
      go_wp2
      go_ret
      exact ⟨by rw [HR.out]; rfl, Mem.below_drewN w n⟩

end Go.Proofs.YtenpcjmhlnalcaaGreat
