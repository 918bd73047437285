/-
  TEXTS of one claim, put together: WDualS, WPureDS, WPureDI, WPureDJ.
-/
import Derived.Test.YthjgpbcdcgagfaaJg26
import Derived.Test.YthjgpbcdcgagfaaJg6
import Derived.Test.YthjgpbcdcgagfaaJg9
import Derived.Deep.RegionLaw
import Derived.Deep.AppendLies
import Derived.Test.YthjgpbcdcgagfaaJg23
import Derived.Laws.EntriesVeiled
/-! WALKS: spec's chapter 8: the dual complex. -/

namespace Go.Proofs.Ythjgpbcdcgagfaa
open Go.RowKit
open Sets Hom

theorem comp_lit (k : Nat) (s : Int) (h : setB (k : Int) s = true) : 0 ≤ s ∧ s < 2 ^ k ∧ compZ (k : Int) s = 2 ^ k - 1 - s := by
  have h2 := (setB_iff _ s).1 h
  rw [Int.toNat_natCast] at h2
  exact ⟨h2.2.2.1, h2.2.2.2, by unfold compZ; rw [if_pos h, Int.toNat_natCast]⟩

set_option maxRecDepth 100000 in
set_option maxHeartbeats 4000000 in
theorem specComp_any (n s : Int) (w : World) : Calls Try.prog 85 #[.int .i64 n, .int .i64 s] w fun e w' => e = .returned (.int .i64 (compZ n s)) ∧ w = w' := by
  cases hS : setB n s with
  | false =>
    have HS := Lib.hid hS
    have HC : Hid (compZ n s = -1) := by
      have : compZ n s = -1 := by unfold compZ; rw [if_neg (by rw [hS]; simp)]
      exact this
    clear hS
    go_enter Try.func85, Try.ntmps85
    go_wp2_with fail
    refine (specIsSet_b n s false HS.out _).mono ?_
    rintro e w' ⟨rfl, rfl⟩
    go_wp2
    go_ret
    exact ⟨by rw [HC.out]; rfl, rfl⟩
  | true =>
    have hn := (setB_iff n s).1 hS
    rcases seven n hn.1 hn.2.1 with rfl | rfl | rfl | rfl | rfl | rfl | rfl
    · have HS := Lib.hid hS
      obtain ⟨h0, h1, hc⟩ := comp_lit 0 s hS
      have HC := Lib.hid hc
      have h1 : s < 1 := h1
      clear hS hn hc
      go_enter Try.func85, Try.ntmps85
      go_wp2_with fail
      refine (specIsSet_b _ s true HS.out _).mono ?_
      rintro e w' ⟨rfl, rfl⟩
      go_wp2
      go_ret
      refine ⟨?_, rfl⟩
      show _ = Ending.returned (.int .i64 (compZ ((0 : Nat) : Int) s))
      rw [HC.out]
      go_simp
    · have HS := Lib.hid hS
      obtain ⟨h0, h1, hc⟩ := comp_lit 1 s hS
      have HC := Lib.hid hc
      have h1 : s < 2 := h1
      clear hS hn hc
      go_enter Try.func85, Try.ntmps85
      go_wp2_with fail
      refine (specIsSet_b _ s true HS.out _).mono ?_
      rintro e w' ⟨rfl, rfl⟩
      go_wp2
      go_ret
      refine ⟨?_, rfl⟩
      show _ = Ending.returned (.int .i64 (compZ ((1 : Nat) : Int) s))
      rw [HC.out]
      go_simp
    · have HS := Lib.hid hS
      obtain ⟨h0, h1, hc⟩ := comp_lit 2 s hS
      have HC := Lib.hid hc
      have h1 : s < 4 := h1
      clear hS hn hc
      go_enter Try.func85, Try.ntmps85
      go_wp2_with fail
      refine (specIsSet_b _ s true HS.out _).mono ?_
      rintro e w' ⟨rfl, rfl⟩
      go_wp2
      go_ret
      refine ⟨?_, rfl⟩
      show _ = Ending.returned (.int .i64 (compZ ((2 : Nat) : Int) s))
      rw [HC.out]
      go_simp
    · have HS := Lib.hid hS
      obtain ⟨h0, h1, hc⟩ := comp_lit 3 s hS
      have HC := Lib.hid hc
      have h1 : s < 8 := h1
      clear hS hn hc
      go_enter Try.func85, Try.ntmps85
      go_wp2_with fail
      refine (specIsSet_b _ s true HS.out _).mono ?_
      rintro e w' ⟨rfl, rfl⟩
      go_wp2
      go_ret
      refine ⟨?_, rfl⟩
      show _ = Ending.returned (.int .i64 (compZ ((3 : Nat) : Int) s))
      rw [HC.out]
      go_simp
    · have HS := Lib.hid hS
      obtain ⟨h0, h1, hc⟩ := comp_lit 4 s hS
      have HC := Lib.hid hc
      have h1 : s < 16 := h1
      clear hS hn hc
      go_enter Try.func85, Try.ntmps85
      go_wp2_with fail
      refine (specIsSet_b _ s true HS.out _).mono ?_
      rintro e w' ⟨rfl, rfl⟩
      go_wp2
      go_ret
      refine ⟨?_, rfl⟩
      show _ = Ending.returned (.int .i64 (compZ ((4 : Nat) : Int) s))
      rw [HC.out]
      go_simp
    · have HS := Lib.hid hS
      obtain ⟨h0, h1, hc⟩ := comp_lit 5 s hS
      have HC := Lib.hid hc
      have h1 : s < 32 := h1
      clear hS hn hc
      go_enter Try.func85, Try.ntmps85
      go_wp2_with fail
      refine (specIsSet_b _ s true HS.out _).mono ?_
      rintro e w' ⟨rfl, rfl⟩
      go_wp2
      go_ret
      refine ⟨?_, rfl⟩
      show _ = Ending.returned (.int .i64 (compZ ((5 : Nat) : Int) s))
      rw [HC.out]
      go_simp
    · have HS := Lib.hid hS
      obtain ⟨h0, h1, hc⟩ := comp_lit 6 s hS
      have HC := Lib.hid hc
      have h1 : s < 64 := h1
      clear hS hn hc
      go_enter Try.func85, Try.ntmps85
      go_wp2_with fail
      refine (specIsSet_b _ s true HS.out _).mono ?_
      rintro e w' ⟨rfl, rfl⟩
      go_wp2
      go_ret
      refine ⟨?_, rfl⟩
      show _ = Ending.returned (.int .i64 (compZ ((6 : Nat) : Int) s))
      rw [HC.out]
      go_simp

theorem specComp_b (n s z : Int) (h : compZ n s = z) (w : World) : Calls Try.prog 85 #[.int .i64 n, .int .i64 s] w fun e w' => e = .returned (.int .i64 z) ∧ w = w' := by
  subst h; exact specComp_any n s w
theorem meets_take (xs : List Int) (k : Nat) (hk : k < xs.length) (t : Nat) (ht : xs.getD k 0 = (t : Int)) (s : Nat) (b c : Bool) (hb : meets (xs.take k) s = b) (hc : apart s t = c) : meets (xs.take (k + 1)) s = (b && !c) := by
  have e : xs.take (k + 1) = xs.take k ++ [xs.getD k 0] := by
    rw [List.take_add_one, List.getD, List.getElem?_eq_getElem hk]; rfl
  rw [e, ht]
  unfold meets at hb ⊢
  rw [List.all_append, hb]
  simp [hc]

end Go.Proofs.Ythjgpbcdcgagfaa

/-! WALKS: spec's chapter 8: CoversOf, DualOf, IsSelfDual. -/

namespace Go.Proofs.Ythjgpbcdcgagfaa
open Go.RowKit
open Sets Hom

theorem dualO_no {n : Int} {xs : List Int} (h : isC n xs = false) : dualO n xs = none := by unfold dualO; rw [h]; rfl
theorem dualO_yes {n : Int} {xs : List Int} (h : isC n xs = true) : dualO n xs = some (n, maxQ (dualQ n.toNat (inF xs))) := by unfold dualO; rw [h]; rfl

theorem partLD_le (ok : Bool) (n : Int) (q : Nat → Bool) : (oL (partO ok n q)).length ≤ 64 := by
  unfold partO
  cases ok
  · exact Nat.zero_le _
  · exact maxQ_le q
theorem comp_map_ok {n : Int} {xs : List Int} (h : isC n xs = true) : allOk ((missing n xs).map (compZ n)) = true := by
  obtain ⟨m, rfl, h1, h2⟩ := isC_cast h
  have h64 := pow64 h2
  unfold allOk
  rw [List.all_eq_true]
  intro x hx
  obtain ⟨y, hy, rfl⟩ := List.mem_map.1 hx
  have hs := missing_set y hy
  obtain ⟨s, rfl, _⟩ := ok_nat (missing_ok _ _) hy
  have := (setB_m m s h2).1 hs
  rw [compZ_nat hs, Int.toNat_natCast]
  exact (okZ_nat _).2 (by omega)
theorem specAtD_ok {xs : List Int} (h : allOk xs = true) (k : Nat) (hk : k < xs.length) : ∃ t : Nat, xs.getD k 0 = (t : Int) ∧ t < 64 := by
  refine ok_nat h ?_
  rw [List.getD, List.getElem?_eq_getElem hk]; exact List.getElem_mem hk

set_option maxRecDepth 100000 in
set_option maxHeartbeats 4000000 in
theorem specDual_any (n : Int) (a : Option Addr) (c : Nat) (xs : List Int) (hlen : xs.length ≤ 1099511627776) (w : World) (h : Ints w a xs) :
    Calls Try.prog 36 #[cx n (.slice a xs.length c)] w fun e w' => ∃ v, e = .returned (.tuple #[cx (oN (dualO n xs)) v, .bool (dualO n xs).isSome]) ∧ OwnInts w' w.heap.size v (oL (dualO n xs)) ∧ Below w.heap.size w w' := by
  obtain ⟨i0, hi, hz0, hz1, hz2⟩ := info_parts info_int
  have hb0 : Below w.heap.size w ((w.alloc (Obj.cells #[Value.int IntKind.i64 n, Value.slice a xs.length c] 26)).alloc (Obj.cells #[Value.int IntKind.i64 0, Value.slice none 0 0] 26)) := ((Below.refl _ _).alloc (Nat.le_refl _) _).alloc (by simp) _
  have htc := (Two.new w (.int .i64 n) (.slice a xs.length c) 26).alloc (.cells #[.int .i64 0, .slice none 0 0] 26)
  have htr := Two.new (w.alloc (.cells #[.int .i64 n, .slice a xs.length c] 26)) (.int .i64 0) (.slice none 0 0) 26
  rw [World.size_alloc] at htr
  obtain ⟨br, hbr⟩ : ∃ br, w.heap.size + 1 = br := ⟨_, rfl⟩
  rw [hbr] at htr
  have hwb : w.heap.size < br := by omega
  have TC := Lib.hid htc
  have TR := Lib.hid htr
  have HH := Lib.hid (h.keeps hb0)
  have HB0 := Lib.hid hb0
  have HBR := Lib.hid hbr
  clear h htr hb0 htc hbr
  obtain ⟨t0, t1, t2, _, _⟩ := TC.out
  cases hC : isC n xs with
  | false =>
    have HC := Lib.hid hC
    rw [dualO_no hC]
    clear hC
    go_enter Try.func36, Try.ntmps36
    go_wp2_with fail
    refine (specIsC_b n _ _ xs false HC.out hlen _ HH.out).mono ?_
    rintro e w1 ⟨rfl, hb1⟩
    try rw [HBR.out]
    obtain ⟨r0, r1, r2, r3, r4⟩ := TR.out.keeps hb1
    have HB1 : Hid (Below w.heap.size w w1) := HB0.out.trans (hb1.mono HB0.out.size)
    clear hb1 t0 t1 t2
    go_wp2
    refine ret_cx2 br rfl rfl rfl (x := .int .i64 0) (y := .slice none 0 0) (by go_simp) (by go_simp) rfl ?_
    exact ⟨_, rfl, OwnInts.nil _ _, by first | exact (HB1.out.setCell (by dsimp only; omega) _).setCell (by dsimp only; omega) _ | exact HB1.out⟩
  | true =>
    have HC := Lib.hid hC
    have HN := Lib.hid ((inB_iff _ _ _).2 (isC_n hC))
    obtain ⟨M, hM⟩ : ∃ M, missing n xs = M := ⟨_, rfl⟩
    have hok := missing_ok n xs
    have hle := missing_le n xs
    have hdm := dual_of_missing hC
    have hmk : allOk ((missing n xs).map (compZ n)) = true := comp_map_ok hC
    rw [dualO_yes hC]
    rw [hM] at hok hle hdm hmk
    rw [← hdm]
    have HM := Lib.hid hM
    have HOK := Lib.hid hok
    have HMK := Lib.hid hmk
    clear hC hM hok hdm hmk
    go_enter Try.func36, Try.ntmps36
    go_wp2_with fail
    refine (specIsC_b n _ _ xs true HC.out hlen _ HH.out).mono ?_
    rintro e w1 ⟨rfl, hb1⟩
    try rw [HBR.out]
    have HB1 : Hid (Below w.heap.size w w1) := HB0.out.trans (hb1.mono HB0.out.size)
    have HI1 := Lib.hid (HH.out.keeps hb1)
    have TC1 := Lib.hid (TC.out.keeps hb1)
    have TR1 := Lib.hid (TR.out.keeps hb1)
    clear t0 t1 t2 hb1 HH TC TR HB0
    obtain ⟨t0, t1, t2, _, _⟩ := TC1.out
    go_wp2_with fail
    refine (specMissing_b n _ _ xs M HM.out hlen _ HI1.out).mono ?_
    rintro e w2 ⟨v, rfl, hO, hb2⟩
    obtain ⟨aM, cM, gM, rfl, _, hIM⟩ := OwnInts.at hO
    have HIM := Lib.hid hIM.ints
    have hsz1 := HB1.out.size
    have HB2 : Hid (Below w.heap.size w w2) := HB1.out.trans (hb2.mono hsz1)
    have TC2 := Lib.hid (TC1.out.keeps hb2)
    have TR2 := Lib.hid (TR1.out.keeps hb2)
    clear t0 t1 t2 hO hIM hb2 TC1 TR1 HI1
    go_wp2
    go_loopw [5, 6] (fun v i wr => ∃ k gg cc : Nat, k ≤ M.length ∧ i = .int .i64 (k : Int) ∧ v = .slice (some ⟨gg, 0, none⟩) k cc ∧ OwnInts wr w2.heap.size (.slice (some ⟨gg, 0, none⟩) k cc) (mapL (compZ n) M k) ∧ Below w2.heap.size w2 wr) (fun _ i _ => M.length - (intOf i).toNat)
    case atStart => exact ⟨0, _, _, by omega, rfl, rfl, OwnInts.lit w2 w2.heap.size [] (by simp) (by simp), (Below.refl _ _).alloc (Nat.le_refl _) _⟩
    case round =>
      obtain ⟨k, gg, cc, hk, rfl, rfl, hO, hB⟩ := hrel
      have HB := Lib.hid hB
      have hsz := hB.size
      have hml : (mapL (compZ n) M k).length = k := by unfold mapL; rw [List.length_map, List.length_take]; omega
      by_cases hlt : k < M.length
      · have HO : Hid (wr.ownsRow w2.heap.size 3 1 (.slice (some ⟨gg, 0, none⟩) k cc) k ((mapL (compZ n) M k).map (Value.int .i64))) := by
          have h := hO
          unfold OwnInts at h
          rw [hml] at h
          exact h
        obtain ⟨b1, o1, rfl, g1⟩ := (HIM.out.keeps hB) k hlt
        obtain ⟨t, ht, ht6⟩ := specAtD_ok HOK.out k hlt
        have HTT := Lib.hid ht
        rw [ht] at g1
        obtain ⟨t0, t1, t2, _, _⟩ := TC2.out.keeps hB
        obtain ⟨z, hz⟩ : ∃ z, compZ n (t : Int) = z := ⟨_, rfl⟩
        have HN1 : Hid (mapL (compZ n) M (k + 1) = mapL (compZ n) M k ++ [z]) := by
          have : mapL (compZ n) M (k + 1) = mapL (compZ n) M k ++ [z] := by rw [mapL_next _ _ _ hlt, ht, hz]
          exact this
        have HZ := Lib.hid hz
        have HML := Lib.hid hml
        have hbg : ∀ g, (Value.slice (some ⟨gg, 0, none⟩) k cc).ownBlock = some g → w2.heap.size ≤ g := fun g hg => (HO.out.lt g hg).1
        have HBG := Lib.hid hbg
        clear hO ht hz hbg hml
        go_wp2_with fail
        go_region_law (first | (go_simp; go_at_call 85; refine (specComp_b n (t : Int) z HZ.out _).mono ?_; rintro e w' ⟨rfl, rfl⟩) | (refine step_append_lies _ (by rfl) _ _ _ (by rfl) w2.heap.size 3 i0 (.int .i64 0) 1 8 Try.underlying24 hi hz0 hz1 hz2 rfl (by omega) (.slice (some ⟨gg, 0, none⟩) k cc) k (List.map (Value.int IntKind.i64) (mapL (compZ n) M k)) (by rfl) ((HO.out.alloc _).drew) ⟨wr.heap.size, 0, none⟩ 1 1 [.int .i64 z] (by rfl) (by rfl) (World.news_of_block (cs := #[.int .i64 z]) (t := 3) (fr := (0, 0)) (heap_alloc_new wr _)) (by simp [Value.oneCell']) (by omega) (by unfold maxLen; omega) (by omega) (by simp; omega) (wr.heap.size + 1) (by simp) ?_; intro gg2 cap w3 hown1 hgrow hat hlt3) | fail "arm")
        all_goals
          have hB3 : Below w2.heap.size w2 w3 := ((HB.out.alloc hsz _).drew).grown hgrow (by simp; omega) HBG.out
          have hO3 : OwnInts w3 w2.heap.size (.slice (some ⟨gg2, 0, none⟩) (k + 1) cap) (mapL (compZ n) M (k + 1)) := by
            unfold OwnInts
            rw [HN1.out, List.length_append, List.map_append, HML.out]
            exact hown1
          have HO3 := Lib.hid hO3
          clear hown1 hgrow hat hO3
          go_wp2
          refine ⟨⟨k + 1, gg2, cap, by omega, by go_num, rfl, HO3.out, hB3⟩, ?_⟩
          simp [intOf]; omega
      · have E := Lib.hid (show k = M.length by omega)
        rw [E.out, mapL_all] at hO
        have hmm : (M.map (compZ n)).length = M.length := List.length_map ..
        obtain ⟨a1, c1, g1, hv1, _, hI1⟩ := OwnInts.at hO
        rw [hmm] at hv1
        have HI1 := Lib.hid hI1.ints
        rw [hv1] at hO
        have TR3 := Lib.hid (TR2.out.keeps hB)
        obtain ⟨t0, t1, t2, _, _⟩ := TC2.out.keeps hB
        have hszw := HB2.out.size
        have HB3 : Hid (Below w.heap.size w wr) := HB2.out.trans (hB.mono hszw)
        have HMM := Lib.hid hmm
        have HV1 := Lib.hid hv1
        clear hO hI1 hB hmm hv1
        go_wp2_with fail
        rw [E.out, HV1.out]
        have hcall := l3Make_any n a1 c1 (M.map (compZ n)) HMK.out (by rw [HMM.out]; omega) wr HI1.out
        rw [HMM.out] at hcall
        refine hcall.mono ?_
        rintro e w6 ⟨v, rfl, hO2, hb6⟩
        obtain ⟨a2, c2x, g2, rfl, _⟩ := OwnInts.atc hO2
        have hzb := TR3.out.1
        have hszr := HB3.out.size
        obtain ⟨r0, r1, r2, r3, r4⟩ := TR3.out.keeps hb6
        have HO2 := Lib.hid hO2
        have HB6 : Hid (Below w.heap.size w w6) := HB3.out.trans (hb6.mono hszr)
        clear hO2 hb6 t0 t1 t2
        go_wp2
        refine ret_cx2 br rfl rfl rfl (x := .int .i64 n) (y := .slice a2 (maximal (M.map (compZ n))).length c2x) (by go_simp) (by go_simp) rfl ?_
        exact ⟨_, rfl, (OwnInts.set (OwnInts.set HO2.out _ _ _ hzb) _ _ _ hzb).lower hszr, (HB6.out.setCell (by dsimp only; omega) _).setCell (by dsimp only; omega) _⟩


end Go.Proofs.Ythjgpbcdcgagfaa

/-! WALKS: impl's chapter 8: the dual complex. -/

namespace Go.Proofs.Ythjgpbcdcgagfaa
open Go.RowKit
open Sets Hom

theorem comp_andNot : ∀ n : Fin 7, ∀ s : Fin 64, s.val < 2 ^ n.val → bits BinOp.andNot IntKind.i64 ((2 ^ n.val - 1 : Nat) : Int) (s.val : Int) = ((2 ^ n.val - 1 - s.val : Nat) : Int) := by decide +kernel
theorem comp_bits {n : Int} {s : Nat} (h : setB n (s : Int) = true) : bits BinOp.andNot IntKind.i64 (2 ^ n.toNat - 1) (s : Int) = compZ n (s : Int) := by
  rw [compZ_nat h]
  have hh := (setB_iff _ _).1 h
  have hs := okZ_nat s |>.1 (setB_ok h)
  rw [setB_lt n s hh.1 hh.2.1, decide_eq_true_iff] at h
  have := comp_andNot ⟨n.toNat, by omega⟩ ⟨s, hs⟩ h
  dsimp only at this
  rw [← this]
  have e : ((2 ^ n.toNat - 1 : Nat) : Int) = 2 ^ n.toNat - 1 := by
    have h1 : 1 ≤ 2 ^ n.toNat := Nat.one_le_two_pow
    have := two_pow_cast n.toNat
    omega
  rw [e]

set_option maxRecDepth 100000 in
set_option maxHeartbeats 2000000 in
theorem compIn_any (n : Int) (h0 : 0 ≤ n) (h6 : n ≤ 6) (w : World) :
    Calls Try.prog 79 #[.int .i64 n] w fun e w' => ∃ B : Nat, e = .returned (.func (.func 116) #[] #[.pointer (some ⟨B, 0, none⟩)]) ∧ w.heap.size ≤ B ∧ B < w'.heap.size ∧ w'.cell? ⟨B, 0, none⟩ = some (.int .i64 (2 ^ n.toNat - 1)) ∧ Below w.heap.size w w' := by
  rcases seven n h0 h6 with rfl | rfl | rfl | rfl | rfl | rfl | rfl <;>
  · go_enter Try.func79, Try.ntmps79
    go_wp2
    go_ret
    exact ⟨_, rfl, Nat.le_refl _, by simp, by simp, (Below.refl _ _).alloc (Nat.le_refl _) _⟩

set_option maxRecDepth 100000 in
theorem comp1_any (s : Int) (B : Nat) (M z : Int) (ha : bits BinOp.andNot IntKind.i64 M s = z) (w : World) (hk : w.cell? ⟨B, 0, none⟩ = some (.int .i64 M)) :
    Calls Try.prog 116 #[.int .i64 s, .pointer (some ⟨B, 0, none⟩)] w fun e w' => e = .returned (.int .i64 z) ∧ w = w' := by
  go_enter Try.func116, Try.ntmps116
  go_wp2
  go_ret
  exact ⟨rfl, rfl⟩

set_option maxRecDepth 100000 in
set_option maxHeartbeats 4000000 in
theorem dual1_pred (n : Int) (a : Option Addr) (c : Nat) (xs : List Int) (hC : isC n xs = true) (hlen : xs.length ≤ 1099511627776) (B K A : Nat) (w : World) (h2 : Two w B (.int .i64 n) (.slice a xs.length c)) (hK : K < w.heap.size) (hk : w.cell? ⟨K, 0, none⟩ = some (.func (.func 116) #[] #[.pointer (some ⟨A, 0, none⟩)])) (hA : A < w.heap.size) (ha : w.cell? ⟨A, 0, none⟩ = some (.int .i64 (2 ^ n.toNat - 1))) (h : Ints w a xs) :
    PredB 81 #[.pointer (some ⟨B, 0, none⟩), .pointer (some ⟨K, 0, none⟩)] (dualQ n.toNat (inF xs)) w := by
  intro W s hs hb
  have HH := Lib.hid (h.keeps hb)
  have hTB := h2.keeps hb
  have TB := Lib.hid hTB
  obtain ⟨t0, t1, t2, _, _⟩ := hTB
  have k1 := (hb.cell (p := ⟨K, 0, none⟩) hK).trans hk
  have hKB := Lib.hid (fun (W' : World) (hW : Below W.heap.size W W') => (hW.cell (p := ⟨K, 0, none⟩) (Nat.lt_of_lt_of_le hK hb.size)).trans k1)
  have a1 := (hb.cell (p := ⟨A, 0, none⟩) hA).trans ha
  have hAB := Lib.hid (fun (W' : World) (hW : Below W.heap.size W W') => (hW.cell (p := ⟨A, 0, none⟩) (Nat.lt_of_lt_of_le hA hb.size)).trans a1)
  show Calls Try.prog 81 #[.int .i64 (s : Int), .pointer (some ⟨B, 0, none⟩), .pointer (some ⟨K, 0, none⟩)] W fun e w' => e = .returned (.bool (dualQ n.toNat (inF xs) s)) ∧ Below W.heap.size W w'
  have hn := isC_n hC
  have HOK := Lib.hid (isC_ok hC)
  have hlt := setB_lt n s (by omega) (by omega)
  clear h2 hk h hb ha a1 hC
  cases hS : setB n (s : Int) with
  | false =>
    have HF : Hid (dualQ n.toNat (inF xs) s = false) := by
      have : dualQ n.toNat (inF xs) s = false := by unfold dualQ; rw [← hlt, hS]; rfl
      exact this
    have HS := Lib.hid hS
    rw [HF.out]
    clear hS hlt
    go_enter Try.func81, Try.ntmps81
    go_wp2_with fail
    first | (go_region_law (first | (go_simp; go_at_call 82; refine (isSet_b n s false HS.out _).mono ?_; rintro e w' ⟨rfl, rfl⟩) | fail "arm")) | fail "region"
    all_goals
      go_wp2_with fail
      go_ret
      exact ⟨rfl, bdrew1 _⟩
  | true =>
    have HS := Lib.hid hS
    have HA := Lib.hid (comp_bits hS)
    have hz := compZ_nat hS
    have hzl : 2 ^ n.toNat - 1 - s < 64 := by have := pow_le64 n hn.1 hn.2; omega
    obtain ⟨b, hb⟩ : ∃ b, inF xs (2 ^ n.toNat - 1 - s) = b := ⟨_, rfl⟩
    have HF : Hid (dualQ n.toNat (inF xs) s = !b) := by
      have : dualQ n.toNat (inF xs) s = !b := by unfold dualQ; rw [← hlt, hS, hb]; rfl
      exact this
    have HBV := Lib.hid ((inFZ_nat xs _ hzl).trans hb)
    rw [HF.out]
    obtain ⟨z, hzz⟩ : ∃ z, 2 ^ n.toNat - 1 - s = z := ⟨_, rfl⟩
    rw [hzz] at hz hzl HBV
    rw [hz] at HA
    clear hS hlt hz hb hzz
    have eg : ∀ args w, (callFunc 116 args).run Try.prog w = .ok (.enter 116 args) w := enters_of Try.func116 (by kernel_rfl) rfl
    go_enter Try.func81, Try.ntmps81
    go_wp2_with fail
    go_region_held3 (fun w' => w'.cell? ⟨B, 0, none⟩ = some (.int .i64 n) ∧ w'.cell? ⟨B, 1, none⟩ = some (.slice a xs.length c) ∧ w'.cell? ⟨K, 0, none⟩ = some (.func (.func 116) #[] #[.pointer (some ⟨A, 0, none⟩)]) ∧ Below W.heap.size W w') (first | (exact ⟨(TB.out.keeps (bdrew1 _)).2.1, (TB.out.keeps (bdrew1 _)).2.2.1, hKB.out _ (bdrew1 _), bdrew1 _⟩) | (exact ⟨(TB.out.keeps (below_fresh hb1)).2.1, (TB.out.keeps (below_fresh hb1)).2.2.1, hKB.out _ (below_fresh hb1), below_fresh hb1⟩) | fail "keep") (first | (go_at_call 82; refine (isSet_b n s true HS.out _).mono ?_; rintro e w' ⟨rfl, rfl⟩) | (go_at_fn 116; refine (comp1_any s A _ z HA.out _ (hAB.out _ (bdrew1 _))).mono ?_; rintro e w' ⟨rfl, rfl⟩) | (go_at_call 83; refine (inFacet_any n a c xs HOK.out hlen (z : Int) (by omega) b HBV.out _ (Ints.drew HH.out)).mono ?_; rintro e w1 ⟨rfl, hb1⟩) | fail "arm")
    all_goals
      have hb2 := below_fresh hb1
      go_wp2_with fail
      go_ret
      exact ⟨rfl, hb2⟩

end Go.Proofs.Ythjgpbcdcgagfaa

/-! WALKS: impl.DualOf, impl.IsSelfDual. -/

namespace Go.Proofs.Ythjgpbcdcgagfaa
open Go.RowKit
open Sets Hom

theorem dual_fam {n : Int} {xs : List Int} (h : isC n xs = true) : Fam n (dualQ n.toNat (inF xs)) := by
  have hn := isC_n h
  refine ⟨dualQ_down (by omega) (inF_down xs), fun t _ ht => ?_⟩
  rw [setB_lt n t (by omega) (by omega), decide_eq_true_iff]
  exact ((dualQ_iff _ _ _).1 ht).1

set_option maxRecDepth 100000 in
set_option maxHeartbeats 4000000 in
theorem implDual_any (n : Int) (a : Option Addr) (c : Nat) (xs : List Int) (hcap : xs.length ≤ c) (hlen : xs.length ≤ 1099511627776) (w : World) (h : Ints w a xs) :
    Calls Try.prog 35 #[cx n (.slice a xs.length c)] w fun e w' => ∃ v, e = .returned (.tuple #[cx (oN (dualO n xs)) v, .bool (dualO n xs).isSome]) ∧ OwnInts w' w.heap.size v (oL (dualO n xs)) ∧ Below w.heap.size w w' := by
  have hb0 : Below w.heap.size w ((w.alloc (Obj.cells #[Value.int IntKind.i64 n, Value.slice a xs.length c] 26)).alloc (Obj.cells #[Value.int IntKind.i64 0, Value.slice none 0 0] 26)) := ((Below.refl _ _).alloc (Nat.le_refl _) _).alloc (by simp) _
  have htc := (Two.new w (.int .i64 n) (.slice a xs.length c) 26).alloc (.cells #[.int .i64 0, .slice none 0 0] 26)
  have htr := Two.new (w.alloc (.cells #[.int .i64 n, .slice a xs.length c] 26)) (.int .i64 0) (.slice none 0 0) 26
  rw [World.size_alloc] at htr
  obtain ⟨br, hbr⟩ : ∃ br, w.heap.size + 1 = br := ⟨_, rfl⟩
  rw [hbr] at htr
  have hwb : w.heap.size < br := by omega
  have TC := Lib.hid htc
  have TR := Lib.hid htr
  have HH := Lib.hid (h.keeps hb0)
  have HB0 := Lib.hid hb0
  have HBR := Lib.hid hbr
  clear h htr hb0 htc hbr
  obtain ⟨t0, t1, t2, _, _⟩ := TC.out
  cases hC : isC n xs with
  | false =>
    have HC := Lib.hid hC
    rw [dualO_no hC]
    clear hC
    go_enter Try.func35, Try.ntmps35
    go_wp2_with fail
    refine (implIsC_b n _ _ xs hcap false HC.out hlen _ HH.out).mono ?_
    rintro e w1 ⟨rfl, hb1⟩
    try rw [HBR.out]
    obtain ⟨r0, r1, r2, r3, r4⟩ := TR.out.keeps hb1
    have HB1 : Hid (Below w.heap.size w w1) := HB0.out.trans (hb1.mono HB0.out.size)
    clear hb1 t0 t1 t2
    go_wp2
    refine ret_cx2 br rfl rfl rfl (x := .int .i64 0) (y := .slice none 0 0) (by go_simp) (by go_simp) rfl ?_
    exact ⟨_, rfl, OwnInts.nil _ _, by first | exact (HB1.out.setCell (by dsimp only; omega) _).setCell (by dsimp only; omega) _ | exact HB1.out⟩
  | true =>
    have HC := Lib.hid hC
    have hn := isC_n hC
    obtain ⟨hn1, hn2⟩ := hn
    have HN := Lib.hid ((inB_iff _ _ _).2 (isC_n hC))
    have HF := Lib.hid (dual_fam hC)
    rw [dualO_yes hC]
    clear hC
    have eg : ∀ args w, (callFunc 81 args).run Try.prog w = .ok (.enter 81 args) w := enters_of Try.func81 (by kernel_rfl) rfl
    have EG := Lib.hid eg
    clear eg
    go_enter Try.func35, Try.ntmps35
    go_wp2_with fail
    refine (implIsC_b n _ _ xs hcap true HC.out hlen _ HH.out).mono ?_
    rintro e w1 ⟨rfl, hb1⟩
    try rw [HBR.out]
    have HB1 : Hid (Below w.heap.size w w1) := HB0.out.trans (hb1.mono HB0.out.size)
    have HI1 := Lib.hid (HH.out.keeps hb1)
    have TC1 := Lib.hid (TC.out.keeps hb1)
    have TR1 := Lib.hid (TR.out.keeps hb1)
    clear t0 t1 t2 hb1 HH TC TR HB0
    obtain ⟨t0, t1, t2, _, _⟩ := TC1.out
    have hsz1 := HB1.out.size
    go_wp2_with fail
    refine (compIn_any n (by omega) hn2 _).mono ?_
    rintro e w2 ⟨A, rfl, hA1, hA2, hkA, hb2⟩
    have hba : Below w2.heap.size w2 (w2.alloc (Obj.cells #[Value.func (Fn.func 116) #[] #[Value.pointer (some ⟨A, 0, none⟩)]] 82)) := (Below.refl _ _).alloc (Nat.le_refl _) _
    have hb3 := hb2.trans (hba.mono hb2.size)
    have HB3 : Hid (Below w.heap.size w (w2.alloc (Obj.cells #[Value.func (Fn.func 116) #[] #[Value.pointer (some ⟨A, 0, none⟩)]] 82))) := HB1.out.trans (hb3.mono hsz1)
    have hI3 := HI1.out.keeps hb3
    have htc3 := TC1.out.keeps hb3
    have TC3 := Lib.hid htc3
    have TR3 := Lib.hid (TR1.out.keeps hb3)
    have hA3 := (hba.cell (p := ⟨A, 0, none⟩) hA2).trans hkA
    have hK3 : (w2.alloc (Obj.cells #[Value.func (Fn.func 116) #[] #[Value.pointer (some ⟨A, 0, none⟩)]] 82)).cell? ⟨w2.heap.size, 0, none⟩ = some (Value.func (Fn.func 116) #[] #[Value.pointer (some ⟨A, 0, none⟩)]) := by simp
    have hs3 : (w2.alloc (Obj.cells #[Value.func (Fn.func 116) #[] #[Value.pointer (some ⟨A, 0, none⟩)]] 82)).heap.size = w2.heap.size + 1 := by simp
    have hP : ∀ W : World, Below (w2.alloc (Obj.cells #[Value.func (Fn.func 116) #[] #[Value.pointer (some ⟨A, 0, none⟩)]] 82)).heap.size (w2.alloc (Obj.cells #[Value.func (Fn.func 116) #[] #[Value.pointer (some ⟨A, 0, none⟩)]] 82)) W → PredB 81 #[.pointer (some ⟨w.heap.size, 0, none⟩), .pointer (some ⟨w2.heap.size, 0, none⟩)] (dualQ n.toNat (inF xs)) W := fun W hW =>
      dual1_pred n a c xs HC.out hlen w.heap.size w2.heap.size A W (htc3.keeps hW) (Nat.lt_of_lt_of_le (by omega) hW.size) ((hW.cell (p := ⟨w2.heap.size, 0, none⟩) (by dsimp only; omega)).trans hK3) (Nat.lt_of_lt_of_le (by omega) hW.size) ((hW.cell (p := ⟨A, 0, none⟩) (by dsimp only; omega)).trans hA3) (hI3.keeps hW)
    have HP := Lib.hid hP
    clear t0 t1 t2 hP hA3 hK3 hI3 htc3 hb3 hba hkA hb2 TC1 TR1 HI1
    obtain ⟨t0, t1, t2, _, _⟩ := TC3.out
    have hsz3 := HB3.out.size
    go_wp2_with fail
    refine (partWhere_any n _ _ (dualQ n.toNat (inF xs)) _ HN.out HF.out EG.out HP.out).mono ?_
    rintro e w6 ⟨v, rfl, hO2, hb6⟩
    obtain ⟨a2, c2x, g2, rfl, hc2, hg2, hr2, _⟩ := OwnInts.ata hO2 hb6.size
    have hzb := TR3.out.1
    obtain ⟨r0, r1, r2, r3, r4⟩ := TR3.out.keeps hb6
    have HO2 := Lib.hid hO2
    have HB6 : Hid (Below w.heap.size w w6) := HB3.out.trans (hb6.mono hsz3)
    clear hO2 hr2 hb6 t0 t1 t2
    go_wp2
    refine ret_cx2 br rfl rfl rfl (x := .int .i64 n) (y := .slice a2 (maxQ (dualQ n.toNat (inF xs))).length c2x) (by go_simp) (by go_simp) rfl ?_
    exact ⟨_, rfl, (OwnInts.set (OwnInts.set HO2.out _ _ _ hzb) _ _ _ hzb).lower hsz3, (HB6.out.setCell (by dsimp only; omega) _).setCell (by dsimp only; omega) _⟩

end Go.Proofs.Ythjgpbcdcgagfaa
