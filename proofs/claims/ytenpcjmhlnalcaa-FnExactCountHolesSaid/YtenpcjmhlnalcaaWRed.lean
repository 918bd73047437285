/-
  WALK of chapter 13 (spec): a matrix reduced.
-/
import Derived.Test.YtenpcjmhlnalcaaJg5
import Derived.Test.YtenpcjmhlnalcaaWClr
namespace Go.Proofs.Ytenpcjmhlnalcaa
open Go.RowKit
open Sets Lin

def modR (p : Nat) (r : List Int) : List Int := r.map fun x => x % (p : Int)
theorem modR_length (p : Nat) (r : List Int) : (modR p r).length = r.length := by simp [modR]
theorem modR_next (p : Nat) (r : List Int) (j : Nat) (h : j < r.length) : modR p (r.take (j + 1)) = modR p (r.take j) ++ [r.getD j 0 % (p : Int)] := by
  unfold modR
  rw [List.take_add_one, List.map_append]
  simp [List.getD, List.getElem?_eq_getElem h]
theorem modM_next (p : Nat) (M : Mat) (k : Nat) (h : k < M.length) : modM p (M.take (k + 1)) = modM p (M.take k) ++ [modR p (Lin.row M k)] := by
  unfold modM modR Lin.row
  rw [List.take_add_one, List.map_append]
  simp [List.getD, List.getElem?_eq_getElem h]
theorem seek_eq (S : Mat) (c : Nat) : ∀ (m k a : Nat), k ≤ a → a ≤ k + m → (∀ i, k ≤ i → i < a → ent S i c = 0) → (a = k + m ∨ ent S a c ≠ 0) → seek S c m k = a
  | 0, k, a, h1, h2, _, _ => by unfold seek; omega
  | m + 1, k, a, h1, h2, h3, h4 => by
    unfold seek
    by_cases e : a = k
    · rcases h4 with h | h
      · omega
      · rw [e] at h; rw [if_neg h, e]
    · rw [if_pos (h3 k (Nat.le_refl _) (by omega))]
      exact seek_eq S c m (k + 1) a (by omega) (by omega) (fun i hi hi' => h3 i (by omega) hi') (by rcases h4 with h | h; exact .inl (by omega); exact .inr h)
def redTo (p : Nat) (M : Mat) (j : Nat) : Mat × List Nat := (List.range j).foldl (stepM p) (modM p M, [])
theorem redTo_next (p : Nat) (M : Mat) (j : Nat) : redTo p M (j + 1) = stepM p (redTo p M j) j := by unfold redTo; rw [List.range_succ, List.foldl_append]; rfl
theorem redTo_stop (p : Nat) (M : Mat) (j : Nat) (h : ¬(redTo p M j).2.length < (redTo p M j).1.length) : ∀ d, redTo p M (j + d) = redTo p M j
  | 0 => rfl
  | d + 1 => by
    have ih := redTo_stop p M j h d
    rw [← Nat.add_assoc, redTo_next, ih]
    unfold stepM
    rw [if_neg h]
theorem step_none {p : Nat} {S : Mat} {P : List Nat} {j : Nat} (hl : P.length < S.length) (h : seek S j (S.length - P.length) P.length = S.length) : stepM p (S, P) j = (S, P) := by
  unfold stepM; dsimp only; rw [if_pos hl, if_pos h]
theorem step_some {p : Nat} {S : Mat} {P : List Nat} {j a : Nat} (hl : P.length < S.length) (h : seek S j (S.length - P.length) P.length = a) (ha : a ≠ S.length) : stepM p (S, P) j = (clr p (Lin.swap S a P.length) P.length j, P ++ [j]) := by
  unfold stepM; dsimp only; rw [if_pos hl, h, if_neg ha]
def ints (P : List Nat) : List Int := P.map Int.ofNat

set_option maxRecDepth 100000 in
set_option maxHeartbeats 4000000 in
theorem l13Reduce_any (p : Nat) (hp : p = 2 ∨ p = 3 ∨ p = 5) (M : Mat) (n : Nat) (hw : ∀ r ∈ M, r.length = n) (hm : M.length ≤ 1000) (hn : n ≤ 1000) (gm : Nat) (am : Option Addr) (cm : Nat) (Rm : List (Nat × Nat)) (w : World) (h : Mx w gm am Rm M) :
    Calls Try.prog 40 #[.slice am M.length cm, .int .i64 (p : Int)] w fun e w' => ∃ ao co go R u, e = .returned (.tuple #[.slice ao M.length co, u]) ∧ Mx w' go ao R (reduce p M n).1 ∧ (∀ g, g ∈ blks R → w.heap.size ≤ g) ∧ OwnInts w' w.heap.size u (ints (reduce p M n).2) ∧ Below w.heap.size w w' := by
  obtain ⟨i0, hi, hz0, hz1, hz2⟩ := info_parts info_int
  obtain ⟨i9, hi9, hz90, hz91, hz92⟩ := info_parts info_row
  have hp1 : 1 < p := by omega
  have HPP := Lib.hid hp
  have HP : Hid (IsP p) := by
    show IsP p
    rcases hp with rfl | rfl | rfl
    · exact isP2
    · exact isP3
    · exact isP5
  have hp5 : p ≤ 5 := by omega
  have HW : Hid (∀ i, i < M.length → (Lin.row M i).length = n) := fun i hi => hw _ (row_mem hi)
  have HU := Lib.hid (fun j => reduce_under HP.out hw j)
  have HM := Lib.hid h
  have HO0 := Lib.hid (OwnMx.lit w w.heap.size (Nat.le_refl _))
  have HB0 : Hid (Below w.heap.size w (w.alloc (.cells #[] 22))) := (Below.refl _ _).alloc (Nat.le_refl _) _
  clear h hp hw
  go_enter Try.func40, Try.ntmps40
  go_wp2
  go_loopw [6, 7] (fun v i wr => ∃ (k : Nat) (R : List (Nat × Nat)), k ≤ M.length ∧ i = .int .i64 (k : Int) ∧ OwnMx wr w.heap.size v R (modM p (M.take k)) ∧ Below w.heap.size w wr) (fun _ i _ => M.length - (intOf i).toNat)
  case atStart => exact ⟨0, [], Nat.zero_le _, rfl, HO0.out, HB0.out⟩
  case round =>
    clear HO0 HB0
    obtain ⟨k, R, hk, rfl, hO, hB⟩ := hrel
    have HO := Lib.hid hO
    have HBO := Lib.hid hB
    have hszo := hB.size
    obtain ⟨wo, rfl⟩ : ∃ wo : World, wo = wr := ⟨_, rfl⟩
    clear hO hB
    by_cases hlt : k < M.length
    · have hltk : decide ((k : Int) < (M.length : Int)) = true := by simpa using hlt
      have hwk := HW.out k hlt
      have hstart := Lib.hid (OwnInts.lit wo wo.heap.size [] (Nat.le_refl _) (by simp))
      obtain ⟨r, hr⟩ : ∃ r, Lin.row M k = r := ⟨_, rfl⟩
      have HR := Lib.hid hr
      rw [hr] at hwk
      clear hr
      go_wp2
      go_loopw [8, 9] (fun v i wr => ∃ (k2 gg cc : Nat), k2 ≤ n ∧ i = .int .i64 (k2 : Int) ∧ v = .slice (some ⟨gg, 0, none⟩) k2 cc ∧ OwnInts wr wo.heap.size v (modR p (r.take k2)) ∧ Below wo.heap.size wo wr) (fun _ i _ => n - (intOf i).toNat)
      case atStart => exact ⟨0, wo.heap.size, 0, Nat.zero_le _, rfl, rfl, hstart.out, (Below.refl _ _).alloc (Nat.le_refl _) _⟩
      case round =>
        clear hstart
        obtain ⟨k2, gg, cc, hk2, rfl, rfl, hO3, hB3⟩ := hrel
        have HO3 := Lib.hid hO3
        unfold OwnInts at HO3
        have hsz := hB3.size
        have hl := modR_length p (r.take k2)
        rw [List.length_take, hwk, Nat.min_eq_left hk2] at hl
        rw [hl] at HO3
        have HL := Lib.hid hl
        have HB3 := Lib.hid hB3
        clear hO3 hl
        have hMX := HM.out.keeps ((HBO.out.trans (hB3.mono hszo)))
        obtain ⟨ea, hg1, hc1, _⟩ := hMX.out k hlt
        simp only [HR.out, hwk] at hc1
        have HMX := Lib.hid hMX
        clear hMX
        obtain rfl := ea
        by_cases hlk : k2 < n
        · have hx := HMX.out.ent hlt (j := k2) (by rw [HR.out, hwk]; exact hlk)
          have HN := Lib.hid (modR_next p r k2 (by rw [hwk]; exact hlk))
          have hee : ent M k k2 = r.getD k2 0 := by unfold ent; rw [HR.out]
          rw [hee] at hx
          obtain ⟨x, hxx⟩ : ∃ x, r.getD k2 0 = x := ⟨_, rfl⟩
          rw [hxx] at hx HN
          obtain ⟨z, hz⟩ : ∃ z, x % (p : Int) = z := ⟨_, rfl⟩
          have HSG := Lib.hid (fun W => l13Mod_any x p hp1 (by omega) W)
          rw [hz] at HSG HN
          have HBG := Lib.hid (fun g (hg : (Value.slice (some ⟨gg, 0, none⟩) k2 cc).ownBlock = some g) => (HO3.out.lt g hg).1)
          clear hxx hz hee
          have hdn : decide ((k2 : Int) < (n : Int)) = true := by simpa using hlk
          go_wp2_with fail
          refine (HSG.out _).mono ?_
          rintro e w' ⟨rfl, rfl⟩
          go_wp2_with (at_builtin; refine wpList_append_own_at _ rfl _ _ 22 rfl wo.heap.size 3 i0 (.int .i64 0) 1 8 Try.underlying22 hi hz0 hz1 hz2 rfl (by decide) _ _ _ rfl (HO3.out.alloc _) ⟨wr.heap.size, 0, none⟩ 1 1 [.int .i64 z] rfl rfl ?c1 ?c2 ?c3 ?c4 ?c5 ?_)
          case c1 => intro j u hj; exact Mem.cell_new wr _ _ j u hj
          case c2 => intro u hu; simp at hu; subst hu; rfl
          case c3 => unfold maxLen; omega
          case c4 => omega
          case c5 => simp; omega
          intro v' w1 hown1 hgrow _ hob
          obtain ⟨gg2, cap, rfl, -⟩ := hown1.form (by omega)
          have hB4 : Below wo.heap.size wo w1 := (HB3.out.alloc hsz _).grown hgrow (by simp; omega) HBG.out
          have hO4 : OwnInts w1 wo.heap.size (.slice (some ⟨gg2, 0, none⟩) (k2 + 1) cap) (modR p (r.take (k2 + 1))) := by
            unfold OwnInts
            rw [HN.out, List.length_append, List.map_append, HL.out]
            exact hown1
          have HO4 := Lib.hid hO4
          clear hown1 hgrow hob hO4
          go_wp2
          refine ⟨⟨k2 + 1, gg2, cap, by omega, by go_num, rfl, HO4.out, hB4⟩, ?_⟩
          simp [intOf]; omega
        · have hE : k2 = n := by omega
          have HE := Lib.hid hE
          have hdn : decide ((k2 : Int) < (n : Int)) = false := by simpa using hlk
          have hOI : OwnInts wr wo.heap.size (.slice (some ⟨gg, 0, none⟩) k2 cc) (modR p r) := by
            have h := HO3.out
            rw [hE, List.take_of_length_le (by omega)] at h
            unfold OwnInts
            rw [modR_length, hwk, hE]; exact h
          obtain ⟨hg1, hg2, hIr, -⟩ := hOI.known
          have HIR := Lib.hid hIr
          have HMM := Lib.hid (HO.out.keeps hB3)
          have hzl : (modM p (M.take k)).length = k := by unfold modM; rw [List.length_map, List.length_take, Nat.min_eq_left hk]
          have HOW := Lib.hid HMM.out.own
          rw [hzl] at HOW
          have HZL := Lib.hid hzl
          have hnn : u6.ownBlock ≠ some gg := fun e => by have := (HO.out.own.lt gg e).2; omega
          have HNN := Lib.hid hnn
          have hnr : Hid (gg ∉ blks R) := fun hm => by have := (HO.out.old hm).2; omega
          have HN := Lib.hid ((modM_next p M k hlt).trans (by rw [HR.out] : _ = modM p (M.take k) ++ [modR p r]))
          clear hOI hIr HO3 hzl hnn hE
          go_wp2_with (at_builtin; refine wpList_append_own_at _ rfl _ _ 40 rfl w.heap.size 22 i9 (.slice none 0 0) 1 24 Try.underlying40 hi9 hz90 hz91 hz92 rfl (by decide) _ _ _ rfl (HOW.out.alloc _) ⟨wr.heap.size, 0, none⟩ 1 1 [.slice (some ⟨gg, 0, none⟩) k2 cc] rfl rfl ?c1 ?c2 ?c3 ?c4 ?c5 ?_)
          case c1 => intro j u hj; exact Mem.cell_new wr _ _ j u hj
          case c2 => intro u hu; simp at hu; subst hu; rfl
          case c3 => unfold maxLen; omega
          case c4 => omega
          case c5 => simp; omega
          intro v' w3 hown1 hgrow _ hob
          have hBA : Below wr.heap.size wr (wr.alloc (.cells #[.slice (some ⟨gg, 0, none⟩) k2 cc] 22)) := (Below.refl _ _).alloc (Nat.le_refl _) _
          have hB5 : Below w.heap.size w w3 := ((HBO.out.trans (HB3.out.mono hszo)).trans (hBA.mono (by omega))).grown hgrow (by simp; omega) (fun g hg => (HO.out.own.lt g hg).1)
          have hO5 : OwnMx w3 w.heap.size v' (R ++ [(gg, cc)]) (modM p (M.take (k + 1))) := by
            rw [HN.out]
            refine OwnMx.next (HMM.out.keeps hBA) (by omega) (by simp; omega) (HIR.out.keeps hBA) hnr.out HNN.out ?_ hgrow ?_
            · rw [HZL.out, modR_length, hwk, ← HE.out]; exact hown1
            · rcases hob with e | e
              · exact .inl e
              · exact .inr ⟨_, e, by rw [World.size_alloc]; exact Nat.le_refl _⟩
          have HO5 := Lib.hid hO5
          clear hown1 hgrow hob hO5
          go_wp2
          go_roundw
          case rel => exact ⟨k + 1, R ++ [(gg, cc)], by omega, by go_num, HO5.out, hB5⟩
          case measure => simp [intOf]; omega
    · have hdn : decide ((k : Int) < (M.length : Int)) = false := by simpa using hlt
      have hO2 : OwnMx wo w.heap.size u6 R (modM p M) := by
        have h := HO.out
        rw [List.take_of_length_le (by omega)] at h; exact h
      have hM0 : (modM p M).length = M.length := by simp [modM]
      obtain ⟨go, ao, co, hv, hgo, hMX⟩ := hO2.mx
      rw [hM0] at hv hgo
      have HMX := Lib.hid hMX
      have HOLD := Lib.hid (fun g (hg : g ∈ blks R) => (hO2.old hg).1)
      have HGO := Lib.hid hgo
      subst hv
      have HWS := Lib.hid (show ∀ g, (Value.slice (some ⟨wo.heap.size, 0, none⟩) 0 0).ownBlock = some g → (0 < M.length → g ≠ go) ∧ g ∉ blks R from fun g hg => by
        simp only [Value.ownBlock, Option.some.injEq] at hg
        subst hg
        exact ⟨fun h0 => by have := (HGO.out h0).2; omega, fun hm => by have := HMX.out.old hm; omega⟩)
      have HP0 := Lib.hid (OwnInts.lit wo w.heap.size [] hszo (by simp))
      have HX0 := Lib.hid (HMX.out.keeps ((Below.refl _ _).alloc (Nat.le_refl _) (.cells #[] 3)))
      have HB0 : Hid (Below w.heap.size w (wo.alloc (.cells #[] 3))) := HBO.out.trans (((Below.refl _ _).alloc (Nat.le_refl _) _).mono hszo)
      clear hO2 hMX hgo HO HMX HBO
      go_wp2
      go_loopw [6, 10, 11] (fun v u i wr => ∃ (j : Nat) (R' : List (Nat × Nat)), j ≤ n ∧ v = .slice ao M.length co ∧ i = .int .i64 (j : Int) ∧ Mx wr go ao R' (redTo p M j).1 ∧ (∀ g, g ∈ blks R' → w.heap.size ≤ g) ∧ OwnInts wr w.heap.size u (ints (redTo p M j).2) ∧ (∀ g, u.ownBlock = some g → (0 < M.length → g ≠ go) ∧ g ∉ blks R') ∧ Below w.heap.size w wr) (fun _ _ i _ => n - (intOf i).toNat)
      case atStart => exact ⟨0, R, Nat.zero_le _, rfl, rfl, HX0.out, HOLD.out, HP0.out, HWS.out, HB0.out⟩
      case round =>
        clear HX0 HOLD HP0 HWS HB0
        obtain ⟨j, R', hj, rfl, rfl, hX, hG, hP, hPB, hB⟩ := hrel
        have hU := HU.out j hj
        rw [show (List.range j).foldl (stepM p) (modM p M, []) = redTo p M j from rfl] at hU
        have HRN : Hid (∀ d, j + d = n → reduce p M n = redTo p M (j + d)) := fun d e => by rw [e]; rfl
        obtain ⟨S, P, hSP⟩ : ∃ S P, redTo p M j = (S, P) := ⟨_, _, rfl⟩
        have HSP := Lib.hid hSP
        rw [hSP] at hX hP hU
        have hSl : S.length = M.length := hU.len
        have hle : P.length ≤ S.length := hU.le
        have hok : Okay p n S := hU.ok
        have hil : (ints P).length = P.length := by simp [ints]
        dsimp only at hX hP
        rw [hSl] at hle
        have HSL := Lib.hid hSl
        have HOK := Lib.hid hok
        have HIL := Lib.hid hil
        have hsz := hB.size
        clear hSP hU
        obtain ⟨au, cu, gu, hu, -, -, -, -⟩ := OwnInts.ata hP hsz
        rw [hil] at hu
        subst hu
        have HX := Lib.hid hX
        have HG := Lib.hid hG
        have HPO := Lib.hid hP
        have HPB := Lib.hid hPB
        have HB := Lib.hid hB
        clear hG hP hPB hB hok hil
        by_cases h0 : 0 < M.length
        · have hGO := HGO.out h0
          obtain ⟨hao, hgol, hc0, _⟩ := hX.out 0 (by rw [hSl]; exact h0)
          rw [HOK.out.wide _ (row_mem (by rw [hSl]; exact h0))] at hc0
          subst hao
          clear hX hSl
          have hd0 : decide ((0 : Int) < (M.length : Int)) = true := by simpa using h0
          by_cases hjn : j < n
          · have hdj : decide ((j : Int) < (n : Int)) = true := by simpa using hjn
            by_cases hPl : P.length < M.length
            · have hdp : decide ((P.length : Int) < (M.length : Int)) = true := by simpa using hPl
              obtain ⟨wi, rfl⟩ : ∃ wi : World, wi = wr := ⟨_, rfl⟩
              go_wp2
              go_loop [13] (fun i => ∃ a : Nat, P.length ≤ a ∧ a ≤ M.length ∧ i = .int .i64 (a : Int) ∧ Hid (∀ z, P.length ≤ z → z < a → ent S z j = 0)) (fun i => M.length - (intOf i).toNat)
              case atStart => exact ⟨P.length, Nat.le_refl _, hle, rfl, fun z h1 h2 => by omega⟩
              case round =>
                obtain ⟨a, ha1, ha2, rfl, hz⟩ := hrel
                by_cases hal : a < M.length
                · obtain ⟨_, _, hca, hfa⟩ := HX.out.out a (by rw [HSL.out]; exact hal)
                  have hwa := HOK.out.wide _ (row_mem (M := S) (i := a) (by rw [HSL.out]; exact hal))
                  rw [hwa] at hca
                  have hxa := HX.out.ent (i := a) (j := j) (by rw [HSL.out]; exact hal) (by rw [hwa]; exact hjn)
                  have hda : decide ((a : Int) < (M.length : Int)) = true := by simpa using hal
                  obtain ⟨x, hx⟩ : ∃ x, ent S a j = x := ⟨_, rfl⟩
                  rw [hx] at hxa
                  have HXA := Lib.hid hx
                  clear hwa hx
                  by_cases hx0 : x = 0
                  · subst hx0
                    go_wp2
                    go_round
                    case rel =>
                      refine ⟨a + 1, by omega, by omega, by go_num, fun z h1 h2 => ?_⟩
                      by_cases e : z < a
                      · exact hz.out z h1 e
                      · rw [show z = a by omega]; exact HXA.out
                    case measure => simp [intOf]; omega
                  · have hPd : P.length < S.length := by rw [HSL.out]; exact hPl
                    have haS : a < S.length := by rw [HSL.out]; exact hal
                    obtain ⟨_, _, hcd, hfd⟩ := HX.out.out P.length hPd
                    rw [HOK.out.wide _ (row_mem hPd)] at hcd
                    have hXS := HX.out.swap haS hPd
                    rw [HOK.out.wide _ (row_mem hPd), HOK.out.wide _ (row_mem haS)] at hXS
                    have hok2 := swap_ok haS hPd HOK.out
                    have hRl : R'.length = M.length := by rw [HX.out.len]; exact HSL.out
                    have HMEM := Lib.hid (fun g => swapR_mem (R := R') (a := a) (d := P.length) (by rw [hRl]; exact hal) (by rw [hRl]; exact hPl) g)
                    have hst : redTo p M (j + 1) = (clr p (Lin.swap S a P.length) P.length j, P ++ [j]) := by
                      rw [redTo_next, HSP.out]
                      refine step_some hPd (seek_eq S j _ _ _ ha1 (by omega) hz.out (.inr (by rw [HXA.out]; exact hx0))) (by omega)
                    have HST := Lib.hid hst
                    have HCL := Lib.hid (fun (co : Nat) (W : World) (hh : Mx W go (some ⟨go, 0, none⟩) (swapR R' a P.length) (Lin.swap S a P.length)) => by
                      have h := l13Clear_any p HPP.out (Lin.swap S a P.length) n hok2 P.length j (by rw [swap_length]; exact hPd) hjn (by rw [swap_length, HSL.out]; exact hm) hn go (some ⟨go, 0, none⟩) co (swapR R' a P.length) W hh
                      rw [swap_length, HSL.out] at h
                      exact h)
                    have HXS := Lib.hid hXS
                    have hon : Only [go] wi ((wi.setCell ⟨go, a, none⟩ (.slice (some ⟨blk R' P.length, 0, none⟩) n (room R' P.length))).setCell ⟨go, P.length, none⟩ (.slice (some ⟨blk R' a, 0, none⟩) n (room R' a))) := (Only.set [go] wi a (by simp) _).trans (Only.set [go] _ P.length (by simp) _)
                    have HON := Lib.hid hon
                    have hne : ((a : Int) == (M.length : Int)) = false := by simp; omega
                    have hne2 : ¬((a : Int) = (M.length : Int)) := by omega
                    have hcd2 : (wi.setCell ⟨go, a, none⟩ (.slice (some ⟨blk R' P.length, 0, none⟩) n (room R' P.length))).cell? ⟨go, P.length, none⟩ = some (.slice (some ⟨blk R' P.length, 0, none⟩) n (room R' P.length)) := by
                      by_cases e : a = P.length
                      · rw [e]; exact World.cell?_setCell_same _ _ _ hcd
                      · rw [World.cell?_setCell_other _ _ _ _ (by simp)]; exact hcd
                    have hfd2 : (wi.setCell ⟨go, a, none⟩ (.slice (some ⟨blk R' P.length, 0, none⟩) n (room R' P.length))).frozen? ⟨go, P.length, none⟩ = false := by rw [World.frozen?_setCell]; exact hfd
                    clear hst hok2 hXS hon haS hPd
                    go_wp2_with fail
                    refine (HCL.out _ _ HXS.out).mono ?_
                    rintro e w4 ⟨rfl, hX4, hO4⟩
                    have hP4 : OwnInts w4 w.heap.size (.slice au P.length cu) (ints P) := (HPO.out.only HON.out (fun g hg hm => (HPB.out g hg).1 h0 (List.mem_singleton.1 hm))).only hO4 (fun g hg hm => (HPB.out g hg).2 ((HMEM.out g).1 hm))
                    have hB4 : Below w.heap.size w w4 := (HB.out.trans (HON.out.below (fun g hg => by rw [List.mem_singleton.1 hg]; exact hGO.1) hsz)).trans (hO4.below (fun g hg => HG.out g ((HMEM.out g).1 hg)) (Nat.le_trans hsz HON.out.size))
                    have HX4 := Lib.hid hX4
                    have HP4 := Lib.hid hP4
                    unfold OwnInts at HP4
                    rw [HIL.out] at HP4
                    have hs4 := hB4.size
                    clear hX4 hO4 hP4 hca hfa hxa hcd hfd hc0 hgol hcd2 hfd2
                    go_wp2_with (at_builtin; refine wpList_append_own_at _ rfl _ _ 22 rfl w.heap.size 3 i0 (.int .i64 0) 1 8 Try.underlying22 hi hz0 hz1 hz2 rfl (by decide) _ _ _ rfl (HP4.out.alloc _) ⟨w4.heap.size, 0, none⟩ 1 1 [.int .i64 (j : Int)] rfl rfl ?c1 ?c2 ?c3 ?c4 ?c5 ?_)
                    case c1 => intro z u hz; exact Mem.cell_new w4 _ _ z u hz
                    case c2 => intro u hu; simp at hu; subst hu; rfl
                    case c3 => unfold maxLen; omega
                    case c4 => omega
                    case c5 => simp; omega
                    intro v' w5 hown1 hgrow _ hob
                    have hX4g := fun g (hg : g ∈ blks (swapR R' a P.length)) => HX4.out.old hg
                    have hgoL : go < w4.heap.size := (HX4.out.out 0 (by rw [clr_length, swap_length, HSL.out]; exact h0)).2.1
                    have hPB5 : ∀ g, v'.ownBlock = some g → (0 < M.length → g ≠ go) ∧ g ∉ blks (swapR R' a P.length) := fun g hg => by
                      rcases hob with e | e
                      · rw [e] at hg
                        exact ⟨(HPB.out g hg).1, fun hm => (HPB.out g hg).2 ((HMEM.out g).1 hm)⟩
                      · rw [e, Option.some.injEq] at hg
                        exact ⟨fun _ => by omega, fun hm => by have := hX4g _ hm; omega⟩
                    have hX5 : Mx w5 go (some ⟨go, 0, none⟩) (swapR R' a P.length) (clr p (Lin.swap S a P.length) P.length j) := Mx.grown (HX4.out.keeps ((Below.refl _ _).alloc (Nat.le_refl _) _)) hgrow (fun g hg => ⟨(HPB.out g hg).1 h0, fun hm => (HPB.out g hg).2 ((HMEM.out g).1 hm)⟩)
                    have hP5 : OwnInts w5 w.heap.size v' (ints (P ++ [j])) := by
                      unfold OwnInts
                      rw [show ints (P ++ [j]) = ints P ++ [(j : Int)] by simp [ints], List.length_append, List.map_append, HIL.out]
                      exact hown1
                    have hB5 : Below w.heap.size w w5 := (hB4.alloc hs4 _).grown hgrow (by simp; omega) (fun g hg => (HP4.out.lt g hg).1)
                    have HX5 := Lib.hid hX5
                    have HP5 := Lib.hid hP5
                    have HPB5 := Lib.hid hPB5
                    clear hown1 hgrow hob hX5 hP5 hPB5 hX4g
                    go_wp2
                    go_roundw
                    case rel => exact ⟨j + 1, swapR R' a P.length, by omega, rfl, by go_num, by rw [HST.out]; exact HX5.out, fun g hg => HG.out g ((HMEM.out g).1 hg), by rw [HST.out]; exact HP5.out, HPB5.out, hB5⟩
                    case measure => simp [intOf]; omega
                · have hE : Hid (a = M.length) := by show a = _; omega
                  have hda : decide ((a : Int) < (M.length : Int)) = false := by simpa using hal
                  have hda2 : ((a : Int) == (M.length : Int)) = true := by simp; omega
                  have HST : Hid (redTo p M (j + 1) = (S, P)) := by
                    show redTo p M (j + 1) = (S, P)
                    rw [redTo_next, HSP.out]
                    refine step_none (by rw [HSL.out]; exact hPl) ?_
                    exact seek_eq S j _ _ _ (by rw [HSL.out]; exact hle) (by rw [HSL.out]; omega) (fun z h1 h2 => hz.out z h1 (by rw [hE.out, ← HSL.out]; exact h2)) (.inl (by rw [HSL.out]; omega))
                  go_wp2
                  go_roundw
                  case rel => exact ⟨j + 1, R', by omega, rfl, by go_num, by rw [HST.out]; exact HX.out, HG.out, by rw [HST.out]; exact HPO.out, HPB.out, HB.out⟩
                  case measure => simp [intOf]; omega
            · have hdp : decide ((P.length : Int) < (M.length : Int)) = false := by simpa using hPl
              have HST : Hid (reduce p M n = (S, P)) := by
                show reduce p M n = (S, P)
                rw [HRN.out (n - j) (by omega), redTo_stop p M j (by rw [HSP.out]; dsimp only; rw [HSL.out]; exact hPl), HSP.out]
              go_wp2
              go_ret2
              exact ⟨_, co, go, R', _, rfl, by rw [HST.out]; exact HX.out, HG.out, by rw [HST.out]; exact HPO.out, HB.out⟩
          · have hdj : decide ((j : Int) < (n : Int)) = false := by simpa using hjn
            have HST : Hid (reduce p M n = (S, P)) := by
              show reduce p M n = (S, P)
              rw [HRN.out 0 (by omega)]; exact HSP.out
            go_wp2
            go_ret2
            exact ⟨_, co, go, R', _, rfl, by rw [HST.out]; exact HX.out, HG.out, by rw [HST.out]; exact HPO.out, HB.out⟩
        · have hd0 : decide ((0 : Int) < (M.length : Int)) = false := by simpa using h0
          have HST : Hid (reduce p M n = (S, P)) := by
            show reduce p M n = (S, P)
            rw [HRN.out (n - j) (by omega), redTo_stop p M j (by rw [HSP.out]; dsimp only; omega), HSP.out]
          clear hX hSl
          go_wp2
          go_ret2
          exact ⟨_, co, go, R', _, rfl, by rw [HST.out]; exact HX.out, HG.out, by rw [HST.out]; exact HPO.out, HB.out⟩

end Go.Proofs.Ytenpcjmhlnalcaa
