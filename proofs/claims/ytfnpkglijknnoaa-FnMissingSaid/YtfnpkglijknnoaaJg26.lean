/-
  TEXTS of one claim, put together: WMissI3, WMissI4.
-/
import Derived.Test.YtfnpkglijknnoaaJg25
import Derived.Test.YtfnpkglijknnoaaJg24
import Derived.Maps.AppendAt
import Derived.Test.YtfnpkglijknnoaaJg8
/-! WALKS: impl.FromMissing. -/

namespace Go.Proofs.Ytfnpkglijknnoaa
open Go.RowKit
open Sets

theorem fromO_no {n : Int} {xs : List Int} (h : setsOf n xs = false) : fromO n xs = none := by unfold fromO; rw [h]; rfl
theorem fromO_yes {n : Int} {xs : List Int} (h : setsOf n xs = true) : fromO n xs = some (n, maxQ (avoidQ n xs)) := by unfold fromO; rw [h]; rfl
theorem inZ_takeS (xs : List Int) (k : Nat) (hk : k < xs.length) (t : Nat) (ht : xs.getD k 0 = (t : Int)) (s : Nat) : inZ (xs.take (k + 1)) s = if s = t then true else inZ (xs.take k) s := by
  have e : xs.take (k + 1) = xs.take k ++ [(t : Int)] := by
    rw [List.take_add_one, ← ht, List.getD, List.getElem?_eq_getElem hk]; rfl
  rw [e]
  unfold inZ
  by_cases h : s = t
  · subst h; rw [if_pos rfl]; simp
  · rw [if_neg h, Bool.eq_iff_iff, List.contains_iff_mem, List.contains_iff_mem, List.mem_append]
    constructor
    · rintro (e | e)
      · exact e
      · have : (s : Int) = (t : Int) := by simpa using e
        omega
    · exact Or.inl

theorem ok_at {xs : List Int} (h : allOk xs = true) (k : Nat) (hk : k < xs.length) : ∃ t : Nat, xs.getD k 0 = (t : Int) ∧ t < 64 := by
  refine ok_nat h ?_
  rw [List.getD, List.getElem?_eq_getElem hk]; exact List.getElem_mem hk

set_option maxRecDepth 100000 in
set_option maxHeartbeats 2000000 in
theorem from1_pred (n : Int) (xs : List Int) (B m K0 K : Nat) (f : Nat → Bool) (hf : ∀ s : Nat, s < 64 → setB n (s : Int) = true → f s = abv xs s) (w : World) (hK0 : K0 < w.heap.size) (hk0 : w.cell? ⟨K0, 0, none⟩ = some (.int .i64 n)) (hK : K < w.heap.size) (hk : w.cell? ⟨K, 0, none⟩ = some (.map (some B))) (h : BMap w B m f) :
    PredB 52 #[.pointer (some ⟨K0, 0, none⟩), .pointer (some ⟨K, 0, none⟩)] (avoidQ n xs) w := by
  intro W s hs hb
  have HM := Lib.hid (h.keeps hb)
  have k0 : W.cell? ⟨K0, 0, none⟩ = some (.int .i64 n) := (hb.cell (p := ⟨K0, 0, none⟩) hK0).trans hk0
  have k1 : W.cell? ⟨K, 0, none⟩ = some (.map (some B)) := (hb.cell (p := ⟨K, 0, none⟩) hK).trans hk
  show Calls Try.prog 52 #[.int .i64 (s : Int), .pointer (some ⟨K0, 0, none⟩), .pointer (some ⟨K, 0, none⟩)] W fun e w' => e = .returned (.bool (avoidQ n xs s)) ∧ Below W.heap.size W w'
  clear hk hk0 h hb
  unfold avoidQ
  cases hS : setB n (s : Int) with
  | false =>
    have HS := Lib.hid hS
    clear hS
    rw [Bool.false_and]
    go_enter Try.func52, Try.ntmps52
    go_wp2_with fail
    refine (isSet_b n s false HS.out _).mono ?_
    rintro e w' ⟨rfl, rfl⟩
    go_wp2
    go_ret
    exact ⟨rfl, Below.refl _ _⟩
  | true =>
    have HS := Lib.hid hS
    have hfs := hf s hs hS
    clear hS hf
    rw [Bool.true_and]
    rw [← hfs]
    generalize hl : f s = b at *
    have HL := Lib.hid hl
    clear hl hfs
    go_enter Try.func52, Try.ntmps52
    go_wp2_with fail
    refine (isSet_b n s true HS.out _).mono ?_
    rintro e w' ⟨rfl, rfl⟩
    go_wp2_with (at_lookup; refine wpList_bmap_look _ rfl _ _ rfl B m f rfl HM.out s b HL.out _ rfl rfl hs ?_)
    go_ret
    exact ⟨rfl, Below.refl _ _⟩

set_option maxRecDepth 100000 in
set_option maxHeartbeats 4000000 in
theorem implFrom_any (n : Int) (a : Option Addr) (c : Nat) (xs : List Int) (hlen : xs.length ≤ 1099511627776) (w : World) (h : Ints w a xs) :
    Calls Try.prog 14 #[.int .i64 n, .slice a xs.length c] w fun e w' => ∃ v, e = .returned (.tuple #[cx (oN (fromO n xs)) v, .bool (fromO n xs).isSome]) ∧ OwnInts w' w.heap.size v (oL (fromO n xs)) ∧ Below w.heap.size w w' := by
  have hmm := @run_makeMap Try.prog
  have hb0 : Below w.heap.size w ((w.alloc (.cells #[.int .i64 n] 3)).alloc (.cells #[.int .i64 0, .slice none 0 0] 26)) := ((Below.refl _ _).alloc (Nat.le_refl _) _).alloc (by simp) _
  have htr := Two.new (w.alloc (.cells #[.int .i64 n] 3)) (.int .i64 0) (.slice none 0 0) 26
  have hnc : ((w.alloc (.cells #[.int .i64 n] 3)).alloc (.cells #[.int .i64 0, .slice none 0 0] 26)).cell? ⟨w.heap.size, 0, none⟩ = some (.int .i64 n) := by simp
  rw [World.size_alloc] at htr
  obtain ⟨br, hbr⟩ : ∃ br, w.heap.size + 1 = br := ⟨_, rfl⟩
  rw [hbr] at htr
  have hwb : w.heap.size < br := by omega
  have HBR := Lib.hid hbr
  have HH := Lib.hid (h.keeps hb0)
  have HB0 := Lib.hid hb0
  have TR := Lib.hid htr
  clear h hb0 htr hbr
  cases hs : setsOf n xs with
  | false =>
    have HS := Lib.hid hs
    rw [fromO_no hs]
    clear hs
    go_enter Try.func14, Try.ntmps14
    go_wp2_with fail
    refine (areSets_any n _ _ xs hlen false HS.out _ HH.out).mono ?_
    rintro e w1 ⟨rfl, hb1⟩
    try rw [HBR.out]
    obtain ⟨r0, r1, r2, r3, r4⟩ := TR.out.keeps hb1
    have HB1 : Hid (Below w.heap.size w w1) := HB0.out.trans (hb1.mono HB0.out.size)
    clear hb1 hnc
    go_wp2
    refine ret_cx2 br rfl rfl rfl (x := .int .i64 0) (y := .slice none 0 0) (by go_simp) (by go_simp) rfl ?_
    exact ⟨_, rfl, OwnInts.nil _ _, by first | exact (HB1.out.setCell (by dsimp only; omega) _).setCell (by dsimp only; omega) _ | exact HB1.out⟩
  | true =>
    have HS := Lib.hid hs
    have HOK := Lib.hid (setsOf_ok hs)
    have hso := (setsOf_iff n xs).1 hs
    have HN := Lib.hid hso.1
    have hl64 := hso.2.1
    have hnn := (inB_iff _ _ _).1 hso.1
    obtain ⟨hn1, hn2⟩ := hnn
    have hsh := shl_pow n hn1 hn2
    have h64 := pow_le64 n hn1 hn2
    have hs0 := fun s : Nat => setB_lt n s (by omega) hn2
    obtain ⟨N, hN⟩ : ∃ N : Nat, 2 ^ n.toNat = N := ⟨_, rfl⟩
    rw [hN] at hsh h64
    have HLT : Hid (∀ s : Nat, setB n (s : Int) = decide (s < N)) := fun s => by rw [hs0 s, hN]
    have HSH := Lib.hid hsh
    rw [fromO_yes hs]
    clear hs hso hs0 hN hsh
    have eg : ∀ args w, (callFunc 52 args).run Try.prog w = .ok (.enter 52 args) w := enters_of Try.func52 (by kernel_rfl) rfl
    have EG := Lib.hid eg
    clear eg
    go_enter Try.func14, Try.ntmps14
    go_wp2_with fail
    refine (areSets_any n _ _ xs hlen true HS.out _ HH.out).mono ?_
    rintro e w1 ⟨rfl, hb1⟩
    try rw [HBR.out]
    have HH1 := Lib.hid (HH.out.keeps hb1)
    have TR1 := Lib.hid (TR.out.keeps hb1)
    have hnc1 := (hb1.cell (p := ⟨w.heap.size, 0, none⟩) (by simp; omega)).trans hnc
    have HB1 : Hid (Below w.heap.size w w1) := HB0.out.trans (hb1.mono HB0.out.size)
    have hsz1 : w.heap.size + 2 ≤ w1.heap.size := by have := hb1.size; simp at this; omega
    clear hb1 hnc HH TR HB0
    go_wp2
    have hm0 := (BMap.made w1).keeps ((Below.refl _ _).alloc (Nat.le_refl _) (Obj.cells #[Value.map (some w1.heap.size)] 50))
    have hw1 : Below w1.heap.size w1 ((w1.alloc (Obj.map #[] 0)).alloc (Obj.cells #[Value.map (some w1.heap.size)] 50)) := ((Below.refl _ _).alloc (Nat.le_refl _) _).alloc (by simp) _
    have hkc : ((w1.alloc (Obj.map #[] 0)).alloc (Obj.cells #[Value.map (some w1.heap.size)] 50)).cell? ⟨w1.heap.size + 1, 0, none⟩ = some (.map (some w1.heap.size)) := by simp
    have hsz2 : ((w1.alloc (Obj.map #[] 0)).alloc (Obj.cells #[Value.map (some w1.heap.size)] 50)).heap.size = w1.heap.size + 2 := by simp
    generalize ((w1.alloc (Obj.map #[] 0)).alloc (Obj.cells #[Value.map (some w1.heap.size)] 50)) = w2 at *
    have HM0 := Lib.hid hm0
    have HW1 := Lib.hid hw1
    have HKC : Hid (∀ w', w2.grownBy w' (some w1.heap.size) → w'.cell? ⟨w1.heap.size + 1, 0, none⟩ = some (.map (some w1.heap.size))) := fun w' hg => (hg.cell_far ⟨w1.heap.size + 1, 0, none⟩ (by dsimp only; omega) (by simp)).trans hkc
    have HBW : Hid (∀ w', w2.grownBy w' (some w1.heap.size) → Below w1.heap.size w1 w') := fun w' hg => hw1.trans (Mem.below_of_but hg (Nat.le_refl _) (by omega))
    clear hm0 hw1 hkc
    go_loopw [18] (fun i wr => ∃ k : Nat, k ≤ xs.length ∧ i = .int .i64 (k : Int) ∧ BMap wr w1.heap.size k (inZ (xs.take k)) ∧ w2.grownBy wr (some w1.heap.size)) (fun i _ => xs.length - (intOf i).toNat)
    case atStart => exact ⟨0, by omega, rfl, HM0.out.congr fun s => by simp [inZ], Mem.but_refl _ _⟩
    case round =>
      obtain ⟨k, hk, rfl, hM, hG⟩ := hrel
      have HM := Lib.hid hM
      have HG := Lib.hid hG
      have k1 := HKC.out _ hG
      clear hM hG
      by_cases hlt : k < xs.length
      · obtain ⟨b1, o1, rfl, g1⟩ := (HH1.out.keeps (HBW.out _ HG.out)) k hlt
        obtain ⟨t, ht, ht6⟩ := ok_at HOK.out k hlt
        have HT := Lib.hid ht
        rw [ht] at g1
        clear ht
        go_wp2_with (at_mapUpdate; refine wpList_bmap_put _ rfl _ _ _ rfl w1.heap.size k _ rfl HM.out (by unfold maxLen; omega) t _ rfl rfl ht6 rfl ?_; intro w3 hM2 hg2)
        have HM2 := Lib.hid hM2
        have HG2 : Hid (w2.grownBy w3 (some w1.heap.size)) := HG.out.trans hg2
        clear hM2 hg2 HM
        go_wp2
        go_roundw
        case rel => exact ⟨k + 1, by omega, by go_num, HM2.out.congr fun s => inZ_takeS xs k hlt t HT.out s, HG2.out⟩
        case measure => simp [intOf]; omega
      · have E := Lib.hid (show k = xs.length by omega)
        have HM3 : Hid (BMap wr w1.heap.size (64 + 0) (settle xs 0)) := (HM.out.mono (by omega)).congr fun s => by rw [settle_start, E.out, List.take_length]
        have hB1 := HBW.out _ HG.out
        have hn3 := (hB1.cell (p := ⟨w.heap.size, 0, none⟩) (by dsimp only; omega)).trans hnc1
        clear HM hB1
        go_wp2
        rw [HSH.out]
        clear HSH k1 hn3
        go_loopw [27] (fun i wr => ∃ k : Nat, k ≤ N ∧ i = .int .i64 (k : Int) ∧ BMap wr w1.heap.size (64 + k) (settle xs k) ∧ w2.grownBy wr (some w1.heap.size)) (fun i _ => N - (intOf i).toNat)
        case atStart => exact ⟨0, by omega, rfl, HM3.out, HG.out⟩
        case round =>
          clear HG HM3
          obtain ⟨k, hk, rfl, hM, hG⟩ := hrel
          have HM := Lib.hid hM
          have HG := Lib.hid hG
          have k1 := HKC.out _ hG
          clear hM hG
          by_cases hlt : k < N
          · have hk6 : k < 64 := by omega
            cases hl : loses (settle xs k) k with
            | true =>
              have HL := Lib.hid hl
              clear hl
              go_wp2_with fail
              refine (loses_any w1.heap.size (64 + k) (settle xs k) k hk6 true HL.out _ HM.out).mono ?_
              rintro e w' ⟨rfl, rfl⟩
              go_wp2_with (at_mapUpdate; refine wpList_bmap_put _ rfl _ _ _ rfl w1.heap.size (64 + k) _ rfl HM.out (by unfold maxLen; omega) k _ rfl rfl hk6 rfl ?_; intro w3 hM2 hg2)
              have HM2 := Lib.hid hM2
              have HG2 : Hid (w2.grownBy w3 (some w1.heap.size)) := HG.out.trans hg2
              clear hM2 hg2 HM
              go_wp2
              go_roundw
              case rel => exact ⟨k + 1, by omega, by go_num, HM2.out.congr fun s => settle_hit xs HOK.out k hk6 HL.out s, HG2.out⟩
              case measure => simp [intOf]; omega
            | false =>
              have HL := Lib.hid hl
              clear hl
              go_wp2_with fail
              refine (loses_any w1.heap.size (64 + k) (settle xs k) k hk6 false HL.out _ HM.out).mono ?_
              rintro e w' ⟨rfl, rfl⟩
              go_wp2
              go_roundw
              case rel => exact ⟨k + 1, by omega, by go_num, (HM.out.mono (by omega)).congr fun s => settle_miss xs HOK.out k hk6 HL.out s, HG.out⟩
              case measure => simp [intOf]; omega
          · have E := Lib.hid (show k = N by omega)
            have hB1 := HBW.out _ HG.out
            have hn3 := (hB1.cell (p := ⟨w.heap.size, 0, none⟩) (by dsimp only; omega)).trans hnc1
            have hszr := hB1.size
            have hszg := HG.out.size
            have HP := Lib.hid (fun (W : World) (hW : Below _ _ W) => from1_pred n xs w1.heap.size (64 + k) w.heap.size (w1.heap.size + 1) (settle xs k) (fun s _ hS => by
              rw [HLT.out s, decide_eq_true_iff] at hS
              unfold settle; rw [if_pos (by rw [E.out]; exact hS)]) W (Nat.lt_of_lt_of_le (by omega) hW.size) ((hW.cell (p := ⟨w.heap.size, 0, none⟩) (by dsimp only; omega)).trans hn3) (Nat.lt_of_lt_of_le (by omega) hW.size) ((hW.cell (p := ⟨w1.heap.size + 1, 0, none⟩) (by dsimp only; omega)).trans k1) (HM.out.keeps hW))
            have HBR1 : Hid (Below w.heap.size w wr) := HB1.out.trans (hB1.mono (by omega))
            have hbr1 := TR1.out.1
            have TR3 := Lib.hid (TR1.out.keeps hB1)
            clear hB1
            go_wp2_with fail
            refine (partWhere_any n _ _ (avoidQ n xs) _ HN.out ⟨avoidQ_down n xs, fun s hs h => avoidQ_set s hs h⟩ EG.out HP.out).mono ?_
            rintro e w6 ⟨v, rfl, hO2, hb6⟩
            obtain ⟨a2, c2x, g2, rfl, hc2, hg2, hr2, _⟩ := OwnInts.ata hO2 hb6.size
            have hzb := TR3.out.1
            obtain ⟨r0, r1, r2, r3, r4⟩ := TR3.out.keeps hb6
            have HO2 := Lib.hid hO2
            have HB6 : Hid (Below w.heap.size w w6) := HBR1.out.trans (hb6.mono (by omega))
            clear hO2 hr2 hb6
            go_wp2
            refine ret_cx2 br rfl rfl rfl (x := .int .i64 n) (y := .slice a2 (maxQ (avoidQ n xs)).length c2x) (by go_simp) (by go_simp) rfl ?_
            exact ⟨_, rfl, (OwnInts.set (OwnInts.set HO2.out _ _ _ (by omega)) _ _ _ (by omega)).lower (by omega), (HB6.out.setCell (by dsimp only; omega) _).setCell (by dsimp only; omega) _⟩

end Go.Proofs.Ytfnpkglijknnoaa

/-! WALKS: impl's chapter 7: GreatestMissing, CompleteUpTo, IsFlag, FlagOf (written by genmiss.py). -/

namespace Go.Proofs.Ytfnpkglijknnoaa
open Go.RowKit
open Sets

theorem implSizeM_b (s p : Nat) (hp : pc s = p) (hs : s < 64) (w : World) : Calls Try.prog 56 #[.int .i64 (s : Int)] w fun e w' => e = .returned (.int .i64 (p : Int)) ∧ w = w' := by
  subst hp; exact implSizeOf_nat s hs w

theorem okN_at {xs : List Int} (h : allOk xs = true) (k : Nat) (hk : k < xs.length) : ∃ t : Nat, xs.getD k 0 = (t : Int) ∧ t < 64 := by
  refine ok_nat h ?_
  rw [List.getD, List.getElem?_eq_getElem hk]; exact List.getElem_mem hk

set_option maxRecDepth 100000 in
set_option maxHeartbeats 2000000 in
theorem implGreat_any (n : Int) (a : Option Addr) (c : Nat) (xs : List Int) (hcap : xs.length ≤ c) (hlen : xs.length ≤ 1099511627776) (w : World) (h : Ints w a xs) :
    Calls Try.prog 24 #[cx n (.slice a xs.length c)] w fun e w' => e = .returned (.int .i64 (great n xs)) ∧ Below w.heap.size w w' := by
  have hb0 : Below w.heap.size w (w.alloc (Obj.cells #[Value.int IntKind.i64 n, Value.slice a xs.length c] 26)) := (Below.refl _ _).alloc (Nat.le_refl _) _
  have htwo : Two (w.alloc (Obj.cells #[Value.int IntKind.i64 n, Value.slice a xs.length c] 26)) w.heap.size (.int .i64 n) (.slice a xs.length c) := Two.new _ _ _ _
  have H := Lib.hid (h.keeps hb0)
  have HB0 := Lib.hid hb0
  have HT := Lib.hid htwo
  clear h hb0 htwo
  obtain ⟨M, hM⟩ : ∃ M, missing n xs = M := ⟨_, rfl⟩
  have hok := missing_ok n xs
  have hle := missing_le n xs
  have hG : great n xs = if M.length = 0 then -1 else (pc (M.getD (M.length - 1) 0).toNat : Int) := by unfold great; rw [hM]
  rw [hM] at hok hle
  by_cases h0 : M.length = 0
  · obtain rfl : M = [] := List.length_eq_zero_iff.1 h0
    have HG : Hid (great n xs = -1) := hG
    have HM := Lib.hid hM
    clear hG hM hok hle h0
    obtain ⟨t0, t1, t2, _, _⟩ := HT.out
    go_enter Try.func24, Try.ntmps24
    go_wp2_with fail
    refine (implMissing_b n _ _ xs [] HM.out hcap hlen _ H.out).mono ?_
    rintro e w1 ⟨v, rfl, hO, hb1⟩
    obtain ⟨a1, c1, g1, rfl, _⟩ := OwnInts.at hO
    clear hO t0 t1 t2
    go_wp2
    go_ret
    exact ⟨by rw [HG.out]; rfl, HB0.out.trans (hb1.mono (by simp))⟩
  · obtain ⟨L, hL⟩ : ∃ L, M.length = L + 1 := ⟨M.length - 1, by omega⟩
    have hL1 : M.length - 1 = L := by omega
    rw [if_neg h0, hL1] at hG
    obtain ⟨t, ht, ht6⟩ := okN_at hok L (by omega)
    rw [ht, Int.toNat_natCast] at hG
    have HG := Lib.hid hG
    have HM := Lib.hid hM
    have HL := Lib.hid hL
    have HTT := Lib.hid ht
    clear hG hM hok h0 hL1 hL ht
    obtain ⟨t0, t1, t2, _, _⟩ := HT.out
    go_enter Try.func24, Try.ntmps24
    go_wp2_with fail
    refine (implMissing_b n _ _ xs M HM.out hcap hlen _ H.out).mono ?_
    rintro e w1 ⟨v, rfl, hO, hb1⟩
    obtain ⟨a1, c1, g1, rfl, _, hI⟩ := OwnInts.at hO
    obtain ⟨rfl, _, hcell, _⟩ := hI L (by rw [HL.out]; omega)
    rw [HTT.out] at hcell
    have hLn : M.length = L + 1 := HL.out
    rw [hLn] at hle ⊢
    have e1 : ((L + 1 : Nat) : Int) - 1 = (L : Int) := by omega
    clear hO hI hLn t0 t1 t2
    go_wp2_with fail
    refine (implSizeM_b t _ rfl ht6 _).mono ?_
    rintro e w' ⟨rfl, rfl⟩
    go_wp2
    go_ret
    exact ⟨by rw [HG.out]; rfl, HB0.out.trans (hb1.mono (by simp))⟩

theorem implGreat_b (n : Int) (a : Option Addr) (c : Nat) (xs : List Int) (G : Int) (hG : great n xs = G) (hcap : xs.length ≤ c) (hlen : xs.length ≤ 1099511627776) (w : World) (h : Ints w a xs) :
    Calls Try.prog 24 #[cx n (.slice a xs.length c)] w fun e w' => e = .returned (.int .i64 G) ∧ Below w.heap.size w w' := by
  subst hG; exact implGreat_any n a c xs hcap hlen w h

set_option maxRecDepth 100000 in
set_option maxHeartbeats 2000000 in
theorem implFullTo_any (n : Int) (a : Option Addr) (c : Nat) (xs : List Int) (hcap : xs.length ≤ c) (hlen : xs.length ≤ 1099511627776) (w : World) (h : Ints w a xs) :
    Calls Try.prog 26 #[cx n (.slice a xs.length c)] w fun e w' => e = .returned (.int .i64 (fullTo n xs)) ∧ Below w.heap.size w w' := by
  have hb0 : Below w.heap.size w (w.alloc (Obj.cells #[Value.int IntKind.i64 n, Value.slice a xs.length c] 26)) := (Below.refl _ _).alloc (Nat.le_refl _) _
  have htwo : Two (w.alloc (Obj.cells #[Value.int IntKind.i64 n, Value.slice a xs.length c] 26)) w.heap.size (.int .i64 n) (.slice a xs.length c) := Two.new _ _ _ _
  have H := Lib.hid (h.keeps hb0)
  have HB0 := Lib.hid hb0
  have HT := Lib.hid htwo
  clear h hb0 htwo
  cases hC : isC n xs with
  | false =>
    have HC := Lib.hid hC
    have HG : Hid (fullTo n xs = -1) := by
      have : fullTo n xs = -1 := by unfold fullTo; rw [if_neg (by rw [hC]; simp)]
      exact this
    clear hC
    obtain ⟨t0, t1, t2, _, _⟩ := HT.out
    go_enter Try.func26, Try.ntmps26
    go_wp2_with fail
    refine (implIsC_b n _ _ xs hcap false HC.out hlen _ H.out).mono ?_
    rintro e w1 ⟨rfl, hb1⟩
    clear t0 t1 t2
    go_wp2
    go_ret
    exact ⟨by rw [HG.out]; rfl, HB0.out.trans (hb1.mono (by simp))⟩
  | true =>
    have HC := Lib.hid hC
    obtain ⟨M, hM⟩ : ∃ M, missing n xs = M := ⟨_, rfl⟩
    have hok := missing_ok n xs
    have hG : fullTo n xs = if M.length = 0 then n else (pc (M.getD 0 0).toNat : Int) - 1 := by unfold fullTo; rw [if_pos hC, hM]
    rw [hM] at hok
    clear hC
    by_cases h0 : M.length = 0
    · obtain rfl : M = [] := List.length_eq_zero_iff.1 h0
      have HG : Hid (fullTo n xs = n) := hG
      have HM := Lib.hid hM
      clear hG hM hok h0
      obtain ⟨t0, t1, t2, _, _⟩ := HT.out
      go_enter Try.func26, Try.ntmps26
      go_wp2_with fail
      refine (implIsC_b n _ _ xs hcap true HC.out hlen _ H.out).mono ?_
      rintro e w1 ⟨rfl, hb1⟩
      have HB1 : Hid (Below w.heap.size w w1) := HB0.out.trans (hb1.mono HB0.out.size)
      have HI1 := Lib.hid (H.out.keeps hb1)
      have HT1 := Lib.hid (HT.out.keeps hb1)
      clear t0 t1 t2 hb1
      obtain ⟨t0, t1, t2, _, _⟩ := HT1.out
      go_wp2_with fail
      refine (implMissing_b n _ _ xs [] HM.out hcap hlen _ HI1.out).mono ?_
      rintro e w2 ⟨v, rfl, hO, hb2⟩
      obtain ⟨a1, c1, g1, rfl, _⟩ := OwnInts.at hO
      clear hO t0 t1 t2
      obtain ⟨t0, t1, t2, _, _⟩ := HT1.out.keeps hb2
      have hsz1 := HB1.out.size
      go_wp2
      go_ret
      exact ⟨by rw [HG.out]; rfl, HB1.out.trans (hb2.mono hsz1)⟩
    · obtain ⟨t, ht, ht6⟩ := okN_at hok 0 (by omega)
      rw [if_neg h0, ht, Int.toNat_natCast] at hG
      have HG := Lib.hid hG
      have HM := Lib.hid hM
      have HTT := Lib.hid ht
      have hpos : 0 < M.length := by omega
      have h0b : ((M.length : Int) == 0) = false := by rw [beq_eq_false_iff_ne]; omega
      clear hG hM hok ht h0
      obtain ⟨t0, t1, t2, _, _⟩ := HT.out
      go_enter Try.func26, Try.ntmps26
      go_wp2_with fail
      refine (implIsC_b n _ _ xs hcap true HC.out hlen _ H.out).mono ?_
      rintro e w1 ⟨rfl, hb1⟩
      have HB1 : Hid (Below w.heap.size w w1) := HB0.out.trans (hb1.mono HB0.out.size)
      have HI1 := Lib.hid (H.out.keeps hb1)
      have HT1 := Lib.hid (HT.out.keeps hb1)
      clear t0 t1 t2 hb1
      obtain ⟨t0, t1, t2, _, _⟩ := HT1.out
      go_wp2_with fail
      refine (implMissing_b n _ _ xs M HM.out hcap hlen _ HI1.out).mono ?_
      rintro e w2 ⟨v, rfl, hO, hb2⟩
      obtain ⟨a1, c1, g1, rfl, _, hI⟩ := OwnInts.at hO
      obtain ⟨rfl, _, hcell, _⟩ := hI 0 hpos
      rw [HTT.out] at hcell
      have hsz1 := HB1.out.size
      have hpt := pc_le t
      clear hO hI t0 t1 t2
      go_wp2_with fail
      refine (implSizeM_b t _ rfl ht6 _).mono ?_
      rintro e w' ⟨rfl, rfl⟩
      go_wp2
      go_ret
      exact ⟨by rw [HG.out]; rfl, HB1.out.trans (hb2.mono hsz1)⟩

theorem implFullTo_b (n : Int) (a : Option Addr) (c : Nat) (xs : List Int) (G : Int) (hG : fullTo n xs = G) (hcap : xs.length ≤ c) (hlen : xs.length ≤ 1099511627776) (w : World) (h : Ints w a xs) :
    Calls Try.prog 26 #[cx n (.slice a xs.length c)] w fun e w' => e = .returned (.int .i64 G) ∧ Below w.heap.size w w' := by
  subst hG; exact implFullTo_any n a c xs hcap hlen w h

set_option maxRecDepth 100000 in
set_option maxHeartbeats 2000000 in
theorem implFlag_any (n : Int) (a : Option Addr) (c : Nat) (xs : List Int) (hcap : xs.length ≤ c) (hlen : xs.length ≤ 1099511627776) (w : World) (h : Ints w a xs) :
    Calls Try.prog 22 #[cx n (.slice a xs.length c)] w fun e w' => e = .returned (.bool (flagB n xs)) ∧ Below w.heap.size w w' := by
  have hb0 : Below w.heap.size w (w.alloc (Obj.cells #[Value.int IntKind.i64 n, Value.slice a xs.length c] 26)) := (Below.refl _ _).alloc (Nat.le_refl _) _
  have htwo : Two (w.alloc (Obj.cells #[Value.int IntKind.i64 n, Value.slice a xs.length c] 26)) w.heap.size (.int .i64 n) (.slice a xs.length c) := Two.new _ _ _ _
  have H := Lib.hid (h.keeps hb0)
  have HB0 := Lib.hid hb0
  have HT := Lib.hid htwo
  clear h hb0 htwo
  cases hC : isC n xs with
  | false =>
    have HC := Lib.hid hC
    have HG : Hid (flagB n xs = false) := by
      have : flagB n xs = false := by unfold flagB; rw [hC]; rfl
      exact this
    clear hC
    obtain ⟨t0, t1, t2, _, _⟩ := HT.out
    go_enter Try.func22, Try.ntmps22
    go_wp2_with fail
    refine (implIsC_b n _ _ xs hcap false HC.out hlen _ H.out).mono ?_
    rintro e w1 ⟨rfl, hb1⟩
    clear t0 t1 t2
    go_wp2
    go_ret
    exact ⟨by rw [HG.out]; rfl, HB0.out.trans (hb1.mono (by simp))⟩
  | true =>
    have HC := Lib.hid hC
    obtain ⟨G, hG⟩ : ∃ G, great n xs = G := ⟨_, rfl⟩
    have hgb := great_bounds n xs
    have HF : Hid (flagB n xs = decide (G ≤ 2)) := by
      have : flagB n xs = decide (G ≤ 2) := by unfold flagB; rw [hC, hG, Bool.true_and]
      exact this
    rw [hG] at hgb
    have HG := Lib.hid hG
    clear hC hG
    obtain ⟨t0, t1, t2, _, _⟩ := HT.out
    go_enter Try.func22, Try.ntmps22
    go_wp2_with fail
    refine (implIsC_b n _ _ xs hcap true HC.out hlen _ H.out).mono ?_
    rintro e w1 ⟨rfl, hb1⟩
    have HB1 : Hid (Below w.heap.size w w1) := HB0.out.trans (hb1.mono HB0.out.size)
    have HI1 := Lib.hid (H.out.keeps hb1)
    have HT1 := Lib.hid (HT.out.keeps hb1)
    have hsz1 := HB1.out.size
    clear t0 t1 t2 hb1
    obtain ⟨t0, t1, t2, _, _⟩ := HT1.out
    go_wp2_with fail
    refine (implGreat_b n _ _ xs G HG.out hcap hlen _ HI1.out).mono ?_
    rintro e w2 ⟨rfl, hb2⟩
    go_wp2
    go_ret
    exact ⟨by rw [HF.out]; rfl, HB1.out.trans (hb2.mono hsz1)⟩

theorem implFlag_b (n : Int) (a : Option Addr) (c : Nat) (xs : List Int) (b : Bool) (hb : flagB n xs = b) (hcap : xs.length ≤ c) (hlen : xs.length ≤ 1099511627776) (w : World) (h : Ints w a xs) :
    Calls Try.prog 22 #[cx n (.slice a xs.length c)] w fun e w' => e = .returned (.bool b) ∧ Below w.heap.size w w' := by
  subst hb; exact implFlag_any n a c xs hcap hlen w h

end Go.Proofs.Ytfnpkglijknnoaa
