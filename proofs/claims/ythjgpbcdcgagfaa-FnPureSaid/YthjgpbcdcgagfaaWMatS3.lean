/-
  WALKS of chapter 13 (spec): products of matrices.
-/
import Derived.Test.YthjgpbcdcgagfaaJg17
import Derived.Test.YthjgpbcdcgagfaaWMatIA
namespace Go.Proofs.Ythjgpbcdcgagfaa
open Go.RowKit

/-- The first j numbers of the row i of a product. -/
def rowT (A B : Lin.Mat) (l i j : Nat) : List Int := (List.range j).map fun z => part A B l i z
theorem rowT_length (A B : Lin.Mat) (l i j : Nat) : (rowT A B l i j).length = j := by simp [rowT]
theorem rowT_next (A B : Lin.Mat) (l i j : Nat) : rowT A B l i (j + 1) = rowT A B l i j ++ [part A B l i j] := by unfold rowT; rw [List.range_succ, List.map_append]; rfl
/-- The first i rows of a product. -/
def matT (A B : Lin.Mat) (l n i : Nat) : Lin.Mat := (List.range i).map fun z => rowT A B l z n
theorem matT_length (A B : Lin.Mat) (l n i : Nat) : (matT A B l n i).length = i := by simp [matT]
theorem matT_next (A B : Lin.Mat) (l n i : Nat) : matT A B l n (i + 1) = matT A B l n i ++ [rowT A B l i n] := by unfold matT; rw [List.range_succ, List.map_append]; rfl
theorem matT_end (A B : Lin.Mat) : matT A B B.length (Lin.wid B) A.length = Lin.timesM (Lin.wid B) A B := rfl
theorem ok_no0 (l : Nat) : (true && (true && (decide (0 < l) && decide (0 = l)))) = false := by cases l <;> simp
theorem lit_mx (w wa : World) (base : Nat) (h : Below w.heap.size w wa) (hb : base ≤ w.heap.size) : OwnMx (wa.alloc (.cells #[] 24)) base (.slice (some ⟨wa.heap.size, 0, none⟩) 0 0) [] [] ∧ Below w.heap.size w (wa.alloc (.cells #[] 24)) :=
  ⟨OwnMx.lit wa base (Nat.le_trans hb h.size), h.alloc h.size _⟩

set_option maxRecDepth 100000 in
set_option maxHeartbeats 8000000 in
theorem specTimes_any (g1 g2 : Nat) (a1 a2 : Option Addr) (c1 c2 : Nat) (R1 R2 : List (Nat × Nat)) (A B : Lin.Mat) (hlA : A.length ≤ 1099511627776) (hlB : B.length ≤ 1099511627776) (w : World) (hA : Mx w g1 a1 R1 A) (hB : Mx w g2 a2 R2 B) :
    Calls Try.prog 19 #[.slice a1 A.length c1, .slice a2 B.length c2] w fun e w' => ∃ v R, e = .returned (.tuple #[v, .bool (timesOk A B)]) ∧ OwnMx w' w.heap.size v R (timesZ A B) ∧ Below w.heap.size w w' := by
  obtain ⟨i0, hi, hz0, hz1, hz2⟩ := info_parts info_int
  obtain ⟨i9, hi9, hz90, hz91, hz92⟩ := info_parts info_row
  have HFA := Lib.hid (l13Fits_any g1 a1 c1 R1 A hlA w hA)
  have HFB := Lib.hid (fun W (hW : Mx W g2 a2 R2 B) => l13Fits_any g2 a2 c2 R2 B hlB W hW)
  have HA := Lib.hid hA
  have HB := Lib.hid hB
  have HOK : Hid (timesOk A B = (fitB A && (fitB B && (decide (0 < B.length) && decide (Lin.wid A = B.length))))) := rfl
  have HNO := Lib.hid (fun h => timesZ_no (A := A) (B := B) h)
  have HYES : Hid (timesOk A B = true → timesZ A B = Lin.timesM (Lin.wid B) A B) := by
    have : timesOk A B = true → timesZ A B = Lin.timesM (Lin.wid B) A B := fun h => if_pos h
    exact this
  have HSA := Lib.hid (fun (h : fitB A = true) => by
    have hf2 := h
    unfold fitB at hf2
    rw [Bool.and_eq_true] at hf2
    exact And.intro (rect_at hf2.1) (small_at hf2.1 hf2.2))
  have HSB := Lib.hid (fun (h : fitB B = true) => by
    have hf2 := h
    unfold fitB at hf2
    rw [Bool.and_eq_true] at hf2
    exact And.intro (rect_at hf2.1) (small_at hf2.1 hf2.2))
  obtain ⟨k, hk⟩ : ∃ k, timesOk A B = k := ⟨_, rfl⟩
  rw [hk] at HOK HNO HYES ⊢
  obtain ⟨fA, hfA⟩ : ∃ k, fitB A = k := ⟨_, rfl⟩
  obtain ⟨fB, hfB⟩ : ∃ k, fitB B = k := ⟨_, rfl⟩
  rw [hfA] at HFA HOK HSA
  simp only [hfB] at HFB
  rw [hfB] at HOK HSB
  have HE := Lib.hid (matT_end A B)
  obtain ⟨m, hm⟩ : ∃ k, A.length = k := ⟨_, rfl⟩
  obtain ⟨l, hl⟩ : ∃ k, B.length = k := ⟨_, rfl⟩
  obtain ⟨n, hn⟩ : ∃ k, Lin.wid B = k := ⟨_, rfl⟩
  obtain ⟨nA, hnA⟩ : ∃ k, Lin.wid A = k := ⟨_, rfl⟩
  have HM := Lib.hid hm
  have HL := Lib.hid hl
  have HWA := Lib.hid hnA
  have HWB := Lib.hid hn
  rw [hm] at HFA HSA HE hlA ⊢
  simp only [hl] at HFB
  rw [hl] at HOK HSB HE hlB ⊢
  rw [hn] at HYES HSB HE
  rw [hnA] at HOK HSA
  clear hk hA hB hfA hfB hm hl hn hnA
  cases fA with
  | false =>
    have HK : Hid (k = false) := by
      have : k = false := by rw [HOK.out]; rfl
      exact this
    have HTZ : Hid (timesZ A B = []) := HNO.out HK.out
    go_enter Try.func19, Try.ntmps19
    go_wp2_with fail
    refine HFA.out.mono ?_
    rintro e w1 ⟨rfl, q, rfl⟩
    go_wp2
    go_ret2
    obtain ⟨q1, q2⟩ := lit_mx w (w.drewN q) w.heap.size (Mem.below_drewN w q) (Nat.le_refl _)
    exact ⟨_, [], by rw [HK.out]; rfl, by rw [HTZ.out]; exact q1, q2⟩
  | true =>
    go_enter Try.func19, Try.ntmps19
    go_wp2_with fail
    refine HFA.out.mono ?_
    rintro e w1 ⟨rfl, q, rfl⟩
    have hbq := Mem.below_drewN w q
    have HBQ := Lib.hid hbq
    have HFB2 := Lib.hid (HFB.out (w.drewN q) (HB.out.keeps hbq))
    clear hbq
    go_wp2_with fail
    refine HFB2.out.mono ?_
    rintro e w1 ⟨rfl, q2, rfl⟩
    have HBQ2 : Hid (Below w.heap.size w ((w.drewN q).drewN q2)) := HBQ.out.trans ((Mem.below_drewN _ q2).mono HBQ.out.size)
    obtain ⟨wa, hwa⟩ : ∃ wa, (w.drewN q).drewN q2 = wa := ⟨_, rfl⟩
    rw [hwa] at HBQ2 ⊢
    clear hwa
    cases fB with
    | false =>
      have HK : Hid (k = false) := by
        have : k = false := by rw [HOK.out]; rfl
        exact this
      have HTZ : Hid (timesZ A B = []) := HNO.out HK.out
      go_wp2
      go_ret2
      obtain ⟨q1, q2⟩ := lit_mx w wa w.heap.size HBQ2.out (Nat.le_refl _)
      exact ⟨_, [], by rw [HK.out]; rfl, by rw [HTZ.out]; exact q1, q2⟩
    | true =>
      by_cases hm0 : m = 0
      · subst hm0
        have hnA0 : nA = 0 := by
          rw [← HWA.out, List.eq_nil_of_length_eq_zero HM.out]; rfl
        have HK : Hid (k = false) := by
          have : k = false := by rw [HOK.out]; rw [hnA0]; exact ok_no0 l
          exact this
        have HTZ : Hid (timesZ A B = []) := HNO.out HK.out
        clear hnA0
        go_wp2
        go_ret2
        obtain ⟨q1, q2⟩ := lit_mx w wa w.heap.size HBQ2.out (Nat.le_refl _)
        exact ⟨_, [], by rw [HK.out]; rfl, by rw [HTZ.out]; exact q1, q2⟩
      · have hm1 : ((m : Int) == 0) = false := by simp; omega
        by_cases hl0 : l = 0
        · subst hl0
          have HK : Hid (k = false) := by
            have : k = false := by rw [HOK.out]; rfl
            exact this
          have HTZ : Hid (timesZ A B = []) := HNO.out HK.out
          go_wp2
          go_ret2
          obtain ⟨q1, q2⟩ := lit_mx w wa w.heap.size HBQ2.out (Nat.le_refl _)
          exact ⟨_, [], by rw [HK.out]; rfl, by rw [HTZ.out]; exact q1, q2⟩
        · have hl1 : ((l : Int) == 0) = false := by simp; omega
          have hmp : 0 < m := by omega
          have hlp : 0 < l := by omega
          obtain ⟨hao, -, hc0, -⟩ := (HA.out.keeps HBQ2.out).out 0 (by rw [HM.out]; exact hmp)
          subst hao
          rw [show (Lin.row A 0).length = Lin.wid A from rfl, HWA.out] at hc0
          by_cases he : nA = l
          · subst he
            have HK : Hid (k = true) := by
              have : k = true := by rw [HOK.out, decide_eq_true hlp, decide_eq_true rfl]; rfl
              exact this
            have HTZ : Hid (timesZ A B = matT A B nA n m) := by
              have : timesZ A B = matT A B nA n m := by rw [HE.out]; exact HYES.out HK.out
              exact this
            obtain ⟨hrA, a1, a2, a3⟩ := HSA.out (by first | rfl | trivial)
            obtain ⟨hrB, b1, b2, b3⟩ := HSB.out (by first | rfl | trivial)
            have HRA := Lib.hid hrA
            have HRB := Lib.hid hrB
            have HPL := Lib.hid (fun i j (hi : i < m) (hj : j < n) (k : Nat) (hk : k ≤ nA) => partMx_le A B i j nA (fun z hz => a3 i z hi hz) (fun z hz => b3 z j hz hj) k hk)
            have HBA := Lib.hid a3
            have HBB := Lib.hid b3
            have HMN := Lib.hid (matT_next A B nA n)
            obtain ⟨hO0, hb0⟩ := lit_mx w wa w.heap.size HBQ2.out (Nat.le_refl _)
            have HO0 : Hid (OwnMx (wa.alloc (.cells #[] 24)) w.heap.size (.slice (some ⟨wa.heap.size, 0, none⟩) 0 0) [] (matT A B nA n 0)) := hO0
            have HB0 := Lib.hid hb0
            have hnn : n ≤ 30 := b2
            clear hrA a2 a3 hrB b2 b3 HOK HNO HYES HSA HSB HE HFB hO0 hb0
            go_wp2
            clear hc0
            go_loopw [6, 7] (fun v z wr => ∃ (i : Nat) (R : List (Nat × Nat)), i ≤ m ∧ z = .int .i64 (i : Int) ∧ OwnMx wr w.heap.size v R (matT A B nA n i) ∧ Below w.heap.size w wr) (fun _ z _ => m - (intOf z).toNat)
            case atStart => exact ⟨0, [], Nat.zero_le _, rfl, HO0.out, HB0.out⟩
            case round =>
              clear HO0 HB0
              obtain ⟨i, R, hi2, rfl, hO, hB⟩ := hrel
              have HO := Lib.hid hO
              have HBO := Lib.hid hB
              have hszo := hB.size
              obtain ⟨wo, rfl⟩ : ∃ wo : World, wo = wr := ⟨_, rfl⟩
              clear hO hB
              by_cases him : i < m
              · have hdi : decide ((i : Int) < (m : Int)) = true := by simpa using him
                have hstart := Lib.hid (OwnInts.lit wo wo.heap.size [] (Nat.le_refl _) (by simp))
                have HRN := Lib.hid (rowT_next A B nA i)
                go_wp2
                go_loopw [8, 9] (fun v z wr => ∃ (j gg cc : Nat), j ≤ n ∧ z = .int .i64 (j : Int) ∧ v = .slice (some ⟨gg, 0, none⟩) j cc ∧ OwnInts wr wo.heap.size v (rowT A B nA i j) ∧ Below wo.heap.size wo wr) (fun _ z _ => n - (intOf z).toNat)
                case atStart => exact ⟨0, wo.heap.size, 0, Nat.zero_le _, rfl, rfl, hstart.out, (Below.refl _ _).alloc (Nat.le_refl _) _⟩
                case round =>
                  clear hstart
                  obtain ⟨j, gg, cc, hj, rfl, rfl, hO3, hB3⟩ := hrel
                  have HO3 := Lib.hid hO3
                  have HB3 := Lib.hid hB3
                  have hsz := hB3.size
                  have HBI : Hid (Below w.heap.size w wr) := HBO.out.trans (hB3.mono hszo)
                  obtain ⟨wi, rfl⟩ : ∃ wi : World, wi = wr := ⟨_, rfl⟩
                  clear hO3 hB3
                  obtain ⟨hao, -, hcb, -⟩ := (HB.out.keeps HBI.out).out 0 (by rw [HL.out]; exact hlp)
                  subst hao
                  rw [show (Lin.row B 0).length = Lin.wid B from rfl, HWB.out] at hcb
                  by_cases hjn : j < n
                  · have hdj : decide ((j : Int) < (n : Int)) = true := by simpa using hjn
                    go_wp2
                    clear hcb
                    go_loopw [10, 11] (fun s z wr => ∃ (k q : Nat), k ≤ nA ∧ z = .int .i64 (k : Int) ∧ s = .int .i64 (part A B k i j) ∧ wr = wi.drewN q) (fun _ z _ => nA - (intOf z).toNat)
                    case atStart => exact ⟨0, 0, Nat.zero_le _, rfl, rfl, rfl⟩
                    case round =>
                      obtain ⟨k2, q3, hk2, rfl, rfl, rfl⟩ := hrel
                      have hpl := HPL.out i j him hjn k2 hk2
                      by_cases hkl : k2 < nA
                      · have hdk : decide ((k2 : Int) < (nA : Int)) = true := by simpa using hkl
                        have hXA := HA.out.keeps HBI.out
                        have hXB := HB.out.keeps HBI.out
                        have hra := HRA.out i him
                        have hrb := HRB.out k2 hkl
                        obtain ⟨-, -, hci, -⟩ := hXA.out i (by rw [HM.out]; exact him)
                        obtain ⟨-, -, hck, -⟩ := hXB.out k2 (by rw [HL.out]; exact hkl)
                        have hx := hXA.ent (i := i) (j := k2) (by rw [HM.out]; exact him) (by rw [hra]; exact hkl)
                        have hy := hXB.ent (i := k2) (j := j) (by rw [HL.out]; exact hkl) (by rw [hrb]; exact hjn)
                        rw [hra] at hci
                        rw [hrb] at hck
                        have hbx := HBA.out i k2 him hkl
                        have hby := HBB.out k2 j hkl hjn
                        have hxy := prod_le hbx hby
                        have HPN := Lib.hid (part_next A B k2 i j)
                        obtain ⟨x, hxx⟩ : ∃ z, Lin.ent A i k2 = z := ⟨_, rfl⟩
                        obtain ⟨y, hyy⟩ : ∃ z, Lin.ent B k2 j = z := ⟨_, rfl⟩
                        obtain ⟨u, huu⟩ : ∃ z, part A B k2 i j = z := ⟨_, rfl⟩
                        obtain ⟨Ba, hBa⟩ : ∃ b, blk R1 i = b := ⟨_, rfl⟩
                        obtain ⟨Ca, hCa⟩ : ∃ b, room R1 i = b := ⟨_, rfl⟩
                        obtain ⟨Bb, hBb⟩ : ∃ b, blk R2 k2 = b := ⟨_, rfl⟩
                        obtain ⟨Cb, hCb⟩ : ∃ b, room R2 k2 = b := ⟨_, rfl⟩
                        rw [hxx] at hx hbx hxy HPN
                        rw [hyy] at hy hby hxy HPN
                        rw [huu] at hpl HPN
                        rw [huu]
                        rw [hBa] at hx
                        rw [hBb] at hy
                        rw [hBa, hCa] at hci
                        rw [hBb, hCb] at hck
                        have hku : -30000000 ≤ u ∧ u ≤ 30000000 := by omega
                        clear hXA hXB hra hrb hxx hyy huu hBa hCa hBb hCb hpl
                        go_wp2_with fail
                        go_quiet (fail)
                        go_wp2
                        go_roundw
                        case rel => exact ⟨k2 + 1, _, by omega, by go_num, by rw [HPN.out], rfl⟩
                        case measure => simp [intOf]; omega
                      · have hdk : decide ((k2 : Int) < (nA : Int)) = false := by simpa using hkl
                        have hkE : k2 = nA := by omega
                        have hku : -30000000 ≤ part A B nA i j ∧ part A B nA i j ≤ 30000000 := by rw [hkE] at hpl; omega
                        rw [hkE]
                        have HRJ := Lib.hid (HRN.out j)
                        obtain ⟨u, huu⟩ : ∃ z, part A B nA i j = z := ⟨_, rfl⟩
                        rw [huu] at hku HRJ ⊢
                        have hbd := Mem.below_drewN wi q3
                        obtain ⟨wd, hwd⟩ : ∃ wd, wi.drewN q3 = wd := ⟨_, rfl⟩
                        rw [hwd] at hbd ⊢
                        have HO4 := Lib.hid (HO3.out.keeps hbd)
                        have HB4 : Hid (Below wo.heap.size wo wd) := HB3.out.trans (hbd.mono hsz)
                        unfold OwnInts at HO4
                        rw [rowT_length] at HO4
                        have hszd := HB4.out.size
                        have HBG := Lib.hid (fun g (hg : (Value.slice (some ⟨gg, 0, none⟩) j cc).ownBlock = some g) => (HO4.out.lt g hg).1)
                        clear huu hbd hwd hpl hkE hdk
                        have hdk : decide ((nA : Int) < (nA : Int)) = false := by simp
                        go_wp2_with (at_builtin; refine wpList_append_own_at _ rfl _ _ 24 rfl wo.heap.size 3 i0 (.int .i64 0) 1 8 Try.underlying24 hi hz0 hz1 hz2 rfl (by decide) _ _ _ rfl (HO4.out.alloc _) ⟨wd.heap.size, 0, none⟩ 1 1 [.int .i64 u] rfl rfl ?c1 ?c2 ?c3 ?c4 ?c5 ?_)
                        case c1 => intro j u hj; exact Mem.cell_new wd _ _ j u hj
                        case c2 => intro u hu; simp at hu; subst hu; rfl
                        case c3 => unfold maxLen; omega
                        case c4 => omega
                        case c5 => simp; omega
                        intro v' w4 hown1 hgrow _ hob
                        obtain ⟨gg2, cap, rfl, -⟩ := hown1.form (by omega)
                        have hB5 : Below wo.heap.size wo w4 := (HB4.out.alloc hszd _).grown hgrow (by simp; omega) HBG.out
                        have hO5 : OwnInts w4 wo.heap.size (.slice (some ⟨gg2, 0, none⟩) (j + 1) cap) (rowT A B nA i (j + 1)) := by
                          unfold OwnInts
                          rw [HRJ.out, List.length_append, List.map_append, rowT_length]
                          exact hown1
                        have HO5 := Lib.hid hO5
                        clear hown1 hgrow hob hO5
                        go_wp2
                        refine ⟨⟨j + 1, gg2, cap, by omega, by go_num, rfl, HO5.out, hB5⟩, ?_⟩
                        simp [intOf]; omega
                  · have hdj : decide ((j : Int) < (n : Int)) = false := by simpa using hjn
                    have hE : j = n := by omega
                    have hOI : OwnInts wi wo.heap.size (.slice (some ⟨gg, 0, none⟩) j cc) (rowT A B nA i n) := by
                      have h := HO3.out
                      rw [hE] at h
                      rw [hE]; exact h
                    obtain ⟨hg1, hg2, hIr, -⟩ := hOI.known
                    have HIR := Lib.hid hIr
                    have HMM := Lib.hid (HO.out.keeps HB3.out)
                    have hzl := matT_length A B nA n i
                    have HOW := Lib.hid HMM.out.own
                    rw [hzl] at HOW
                    have HZL := Lib.hid hzl
                    have hnn2 : u6.ownBlock ≠ some gg := fun e => by have := (HO.out.own.lt gg e).2; omega
                    have HNN := Lib.hid hnn2
                    have hnr : Hid (gg ∉ blks R) := fun hm => by have := (HO.out.old hm).2; omega
                    have HN := Lib.hid (HMN.out i)
                    have HE2 := Lib.hid hE
                    clear hOI hIr HO3 hzl hnn2 hE
                    go_wp2_with (at_builtin; refine wpList_append_own_at _ rfl _ _ 29 rfl w.heap.size 24 i9 (.slice none 0 0) 1 24 Try.underlying29 hi9 hz90 hz91 hz92 rfl (by decide) _ _ _ rfl (HOW.out.alloc _) ⟨wi.heap.size, 0, none⟩ 1 1 [.slice (some ⟨gg, 0, none⟩) j cc] rfl rfl ?c1 ?c2 ?c3 ?c4 ?c5 ?_)
                    case c1 => intro j u hj; exact Mem.cell_new wi _ _ j u hj
                    case c2 => intro u hu; simp at hu; subst hu; rfl
                    case c3 => unfold maxLen; omega
                    case c4 => omega
                    case c5 => simp; omega
                    intro v' w3 hown1 hgrow _ hob
                    have hBA : Below wi.heap.size wi (wi.alloc (.cells #[.slice (some ⟨gg, 0, none⟩) j cc] 24)) := (Below.refl _ _).alloc (Nat.le_refl _) _
                    have hB5 : Below w.heap.size w w3 := (HBI.out.trans (hBA.mono (by omega))).grown hgrow (by simp; omega) (fun g hg => (HO.out.own.lt g hg).1)
                    have hO5 : OwnMx w3 w.heap.size v' (R ++ [(gg, cc)]) (matT A B nA n (i + 1)) := by
                      rw [HN.out]
                      refine OwnMx.next (HMM.out.keeps hBA) (by omega) (by simp; omega) (HIR.out.keeps hBA) hnr.out HNN.out ?_ hgrow ?_
                      · rw [HZL.out, rowT_length]; have hx := hown1; rw [HE2.out] at hx; exact hx
                      · rcases hob with e | e
                        · exact .inl e
                        · exact .inr ⟨_, e, by rw [World.size_alloc]; exact Nat.le_refl _⟩
                    have HO5 := Lib.hid hO5
                    clear hown1 hgrow hob hO5
                    go_wp2
                    go_roundw
                    case rel => exact ⟨i + 1, R ++ [(gg, cc)], by omega, by go_num, HO5.out, hB5⟩
                    case measure => simp [intOf]; omega
              · have hdi : decide ((i : Int) < (m : Int)) = false := by simpa using him
                have HE2 : Hid (i = m) := by show i = m; omega
                go_wp2
                go_ret2
                exact ⟨_, R, by rw [HK.out]; rfl, by rw [HTZ.out, ← HE2.out]; exact HO.out, HBO.out⟩
          · have hne : ((nA : Int) != (l : Int)) = true := by simp; omega
            have HK : Hid (k = false) := by
              have : k = false := by rw [HOK.out]; rw [decide_eq_false he, Bool.and_false]; rfl
              exact this
            have HTZ : Hid (timesZ A B = []) := HNO.out HK.out
            go_wp2
            go_ret2
            obtain ⟨q1, q2⟩ := lit_mx w wa w.heap.size HBQ2.out (Nat.le_refl _)
            exact ⟨_, [], by rw [HK.out]; rfl, by rw [HTZ.out]; exact q1, q2⟩

end Go.Proofs.Ythjgpbcdcgagfaa
