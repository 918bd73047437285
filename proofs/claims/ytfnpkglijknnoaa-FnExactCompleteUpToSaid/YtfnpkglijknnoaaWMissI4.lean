/-
  WALKS: impl's chapter 7: GreatestMissing, CompleteUpTo, IsFlag, FlagOf (written by genmiss.py).
-/
import Derived.Test.YtfnpkglijknnoaaWMissI2
import Derived.Test.YtfnpkglijknnoaaWMissI3
import Derived.Test.YtfnpkglijknnoaaMissLaw
namespace Go.Proofs.Ytfnpkglijknnoaa
open Go.RowKit
open Sets

theorem implSizeM_b (s p : Nat) (hp : pc s = p) (hs : s < 64) (w : World) : Calls Try.prog 56 #[.int .i64 (s : Int)] w fun e w' => e = .returned (.int .i64 (p : Int)) ∧ w = w' := by
  subst hp; exact implSizeOf_nat s hs w

theorem okN_at {xs : List Int} (h : allOk xs = true) (k : Nat) (hk : k < xs.length) : ∃ t : Nat, xs.getD k 0 = (t : Int) ∧ t < 64 := by
  refine ok_nat h ?_
  rw [List.getD, List.getElem?_eq_getElem hk]; exact List.getElem_mem hk

set_option maxRecDepth 100000 in
set_option maxHeartbeats 2000000 in
theorem implGreat_any (n : Int) (a : Option Addr) (c : Nat) (xs : List Int) (hcap : xs.length ≤ c) (hlen : xs.length ≤ 1099511627776) (w : World) (h : Ints w a xs) :
    Calls Try.prog 24 #[cx n (.slice a xs.length c)] w fun e w' => e = .returned (.int .i64 (great n xs)) ∧ Below w.heap.size w w' := by
  have hb0 : Below w.heap.size w (w.alloc (Obj.cells #[Value.int IntKind.i64 n, Value.slice a xs.length c] 26)) := (Below.refl _ _).alloc (Nat.le_refl _) _
  have htwo : Two (w.alloc (Obj.cells #[Value.int IntKind.i64 n, Value.slice a xs.length c] 26)) w.heap.size (.int .i64 n) (.slice a xs.length c) := Two.new _ _ _ _
  have H := Lib.hid (h.keeps hb0)
  have HB0 := Lib.hid hb0
  have HT := Lib.hid htwo
  clear h hb0 htwo
  obtain ⟨M, hM⟩ : ∃ M, missing n xs = M := ⟨_, rfl⟩
  have hok := missing_ok n xs
  have hle := missing_le n xs
  have hG : great n xs = if M.length = 0 then -1 else (pc (M.getD (M.length - 1) 0).toNat : Int) := by unfold great; rw [hM]
  rw [hM] at hok hle
  by_cases h0 : M.length = 0
  · obtain rfl : M = [] := List.length_eq_zero_iff.1 h0
    have HG : Hid (great n xs = -1) := hG
    have HM := Lib.hid hM
    clear hG hM hok hle h0
    obtain ⟨t0, t1, t2, _, _⟩ := HT.out
    go_enter Try.func24, Try.ntmps24
    go_wp2_with fail
    refine (implMissing_b n _ _ xs [] HM.out hcap hlen _ H.out).mono ?_
    rintro e w1 ⟨v, rfl, hO, hb1⟩
    obtain ⟨a1, c1, g1, rfl, _⟩ := OwnInts.at hO
    clear hO t0 t1 t2
    go_wp2
    go_ret
    exact ⟨by rw [HG.out]; rfl, HB0.out.trans (hb1.mono (by simp))⟩
  · obtain ⟨L, hL⟩ : ∃ L, M.length = L + 1 := ⟨M.length - 1, by omega⟩
    have hL1 : M.length - 1 = L := by omega
    rw [if_neg h0, hL1] at hG
    obtain ⟨t, ht, ht6⟩ := okN_at hok L (by omega)
    rw [ht, Int.toNat_natCast] at hG
    have HG := Lib.hid hG
    have HM := Lib.hid hM
    have HL := Lib.hid hL
    have HTT := Lib.hid ht
    clear hG hM hok h0 hL1 hL ht
    obtain ⟨t0, t1, t2, _, _⟩ := HT.out
    go_enter Try.func24, Try.ntmps24
    go_wp2_with fail
    refine (implMissing_b n _ _ xs M HM.out hcap hlen _ H.out).mono ?_
    rintro e w1 ⟨v, rfl, hO, hb1⟩
    obtain ⟨a1, c1, g1, rfl, _, hI⟩ := OwnInts.at hO
    obtain ⟨rfl, _, hcell, _⟩ := hI L (by rw [HL.out]; omega)
    rw [HTT.out] at hcell
    have hLn : M.length = L + 1 := HL.out
    rw [hLn] at hle ⊢
    have e1 : ((L + 1 : Nat) : Int) - 1 = (L : Int) := by omega
    clear hO hI hLn t0 t1 t2
    go_wp2_with fail
    refine (implSizeM_b t _ rfl ht6 _).mono ?_
    rintro e w' ⟨rfl, rfl⟩
    go_wp2
    go_ret
    exact ⟨by rw [HG.out]; rfl, HB0.out.trans (hb1.mono (by simp))⟩

theorem implGreat_b (n : Int) (a : Option Addr) (c : Nat) (xs : List Int) (G : Int) (hG : great n xs = G) (hcap : xs.length ≤ c) (hlen : xs.length ≤ 1099511627776) (w : World) (h : Ints w a xs) :
    Calls Try.prog 24 #[cx n (.slice a xs.length c)] w fun e w' => e = .returned (.int .i64 G) ∧ Below w.heap.size w w' := by
  subst hG; exact implGreat_any n a c xs hcap hlen w h

set_option maxRecDepth 100000 in
set_option maxHeartbeats 2000000 in
theorem implFullTo_any (n : Int) (a : Option Addr) (c : Nat) (xs : List Int) (hcap : xs.length ≤ c) (hlen : xs.length ≤ 1099511627776) (w : World) (h : Ints w a xs) :
    Calls Try.prog 26 #[cx n (.slice a xs.length c)] w fun e w' => e = .returned (.int .i64 (fullTo n xs)) ∧ Below w.heap.size w w' := by
  have hb0 : Below w.heap.size w (w.alloc (Obj.cells #[Value.int IntKind.i64 n, Value.slice a xs.length c] 26)) := (Below.refl _ _).alloc (Nat.le_refl _) _
  have htwo : Two (w.alloc (Obj.cells #[Value.int IntKind.i64 n, Value.slice a xs.length c] 26)) w.heap.size (.int .i64 n) (.slice a xs.length c) := Two.new _ _ _ _
  have H := Lib.hid (h.keeps hb0)
  have HB0 := Lib.hid hb0
  have HT := Lib.hid htwo
  clear h hb0 htwo
  cases hC : isC n xs with
  | false =>
    have HC := Lib.hid hC
    have HG : Hid (fullTo n xs = -1) := by
      have : fullTo n xs = -1 := by unfold fullTo; rw [if_neg (by rw [hC]; simp)]
      exact this
    clear hC
    obtain ⟨t0, t1, t2, _, _⟩ := HT.out
    go_enter Try.func26, Try.ntmps26
    go_wp2_with fail
    refine (implIsC_b n _ _ xs hcap false HC.out hlen _ H.out).mono ?_
    rintro e w1 ⟨rfl, hb1⟩
    clear t0 t1 t2
    go_wp2
    go_ret
    exact ⟨by rw [HG.out]; rfl, HB0.out.trans (hb1.mono (by simp))⟩
  | true =>
    have HC := Lib.hid hC
    obtain ⟨M, hM⟩ : ∃ M, missing n xs = M := ⟨_, rfl⟩
    have hok := missing_ok n xs
    have hG : fullTo n xs = if M.length = 0 then n else (pc (M.getD 0 0).toNat : Int) - 1 := by unfold fullTo; rw [if_pos hC, hM]
    rw [hM] at hok
    clear hC
    by_cases h0 : M.length = 0
    · obtain rfl : M = [] := List.length_eq_zero_iff.1 h0
      have HG : Hid (fullTo n xs = n) := hG
      have HM := Lib.hid hM
      clear hG hM hok h0
      obtain ⟨t0, t1, t2, _, _⟩ := HT.out
      go_enter Try.func26, Try.ntmps26
      go_wp2_with fail
      refine (implIsC_b n _ _ xs hcap true HC.out hlen _ H.out).mono ?_
      rintro e w1 ⟨rfl, hb1⟩
      have HB1 : Hid (Below w.heap.size w w1) := HB0.out.trans (hb1.mono HB0.out.size)
      have HI1 := Lib.hid (H.out.keeps hb1)
      have HT1 := Lib.hid (HT.out.keeps hb1)
      clear t0 t1 t2 hb1
      obtain ⟨t0, t1, t2, _, _⟩ := HT1.out
      go_wp2_with fail
      refine (implMissing_b n _ _ xs [] HM.out hcap hlen _ HI1.out).mono ?_
      rintro e w2 ⟨v, rfl, hO, hb2⟩
      obtain ⟨a1, c1, g1, rfl, _⟩ := OwnInts.at hO
      clear hO t0 t1 t2
      obtain ⟨t0, t1, t2, _, _⟩ := HT1.out.keeps hb2
      have hsz1 := HB1.out.size
      go_wp2
      go_ret
      exact ⟨by rw [HG.out]; rfl, HB1.out.trans (hb2.mono hsz1)⟩
    · obtain ⟨t, ht, ht6⟩ := okN_at hok 0 (by omega)
      rw [if_neg h0, ht, Int.toNat_natCast] at hG
      have HG := Lib.hid hG
      have HM := Lib.hid hM
      have HTT := Lib.hid ht
      have hpos : 0 < M.length := by omega
      have h0b : ((M.length : Int) == 0) = false := by rw [beq_eq_false_iff_ne]; omega
      clear hG hM hok ht h0
      obtain ⟨t0, t1, t2, _, _⟩ := HT.out
      go_enter Try.func26, Try.ntmps26
      go_wp2_with fail
      refine (implIsC_b n _ _ xs hcap true HC.out hlen _ H.out).mono ?_
      rintro e w1 ⟨rfl, hb1⟩
      have HB1 : Hid (Below w.heap.size w w1) := HB0.out.trans (hb1.mono HB0.out.size)
      have HI1 := Lib.hid (H.out.keeps hb1)
      have HT1 := Lib.hid (HT.out.keeps hb1)
      clear t0 t1 t2 hb1
      obtain ⟨t0, t1, t2, _, _⟩ := HT1.out
      go_wp2_with fail
      refine (implMissing_b n _ _ xs M HM.out hcap hlen _ HI1.out).mono ?_
      rintro e w2 ⟨v, rfl, hO, hb2⟩
      obtain ⟨a1, c1, g1, rfl, _, hI⟩ := OwnInts.at hO
      obtain ⟨rfl, _, hcell, _⟩ := hI 0 hpos
      rw [HTT.out] at hcell
      have hsz1 := HB1.out.size
      have hpt := pc_le t
      clear hO hI t0 t1 t2
      go_wp2_with fail
      refine (implSizeM_b t _ rfl ht6 _).mono ?_
      rintro e w' ⟨rfl, rfl⟩
      go_wp2
      go_ret
      exact ⟨by rw [HG.out]; rfl, HB1.out.trans (hb2.mono hsz1)⟩

theorem implFullTo_b (n : Int) (a : Option Addr) (c : Nat) (xs : List Int) (G : Int) (hG : fullTo n xs = G) (hcap : xs.length ≤ c) (hlen : xs.length ≤ 1099511627776) (w : World) (h : Ints w a xs) :
    Calls Try.prog 26 #[cx n (.slice a xs.length c)] w fun e w' => e = .returned (.int .i64 G) ∧ Below w.heap.size w w' := by
  subst hG; exact implFullTo_any n a c xs hcap hlen w h

set_option maxRecDepth 100000 in
set_option maxHeartbeats 2000000 in
theorem implFlag_any (n : Int) (a : Option Addr) (c : Nat) (xs : List Int) (hcap : xs.length ≤ c) (hlen : xs.length ≤ 1099511627776) (w : World) (h : Ints w a xs) :
    Calls Try.prog 22 #[cx n (.slice a xs.length c)] w fun e w' => e = .returned (.bool (flagB n xs)) ∧ Below w.heap.size w w' := by
  have hb0 : Below w.heap.size w (w.alloc (Obj.cells #[Value.int IntKind.i64 n, Value.slice a xs.length c] 26)) := (Below.refl _ _).alloc (Nat.le_refl _) _
  have htwo : Two (w.alloc (Obj.cells #[Value.int IntKind.i64 n, Value.slice a xs.length c] 26)) w.heap.size (.int .i64 n) (.slice a xs.length c) := Two.new _ _ _ _
  have H := Lib.hid (h.keeps hb0)
  have HB0 := Lib.hid hb0
  have HT := Lib.hid htwo
  clear h hb0 htwo
  cases hC : isC n xs with
  | false =>
    have HC := Lib.hid hC
    have HG : Hid (flagB n xs = false) := by
      have : flagB n xs = false := by unfold flagB; rw [hC]; rfl
      exact this
    clear hC
    obtain ⟨t0, t1, t2, _, _⟩ := HT.out
    go_enter Try.func22, Try.ntmps22
    go_wp2_with fail
    refine (implIsC_b n _ _ xs hcap false HC.out hlen _ H.out).mono ?_
    rintro e w1 ⟨rfl, hb1⟩
    clear t0 t1 t2
    go_wp2
    go_ret
    exact ⟨by rw [HG.out]; rfl, HB0.out.trans (hb1.mono (by simp))⟩
  | true =>
    have HC := Lib.hid hC
    obtain ⟨G, hG⟩ : ∃ G, great n xs = G := ⟨_, rfl⟩
    have hgb := great_bounds n xs
    have HF : Hid (flagB n xs = decide (G ≤ 2)) := by
      have : flagB n xs = decide (G ≤ 2) := by unfold flagB; rw [hC, hG, Bool.true_and]
      exact this
    rw [hG] at hgb
    have HG := Lib.hid hG
    clear hC hG
    obtain ⟨t0, t1, t2, _, _⟩ := HT.out
    go_enter Try.func22, Try.ntmps22
    go_wp2_with fail
    refine (implIsC_b n _ _ xs hcap true HC.out hlen _ H.out).mono ?_
    rintro e w1 ⟨rfl, hb1⟩
    have HB1 : Hid (Below w.heap.size w w1) := HB0.out.trans (hb1.mono HB0.out.size)
    have HI1 := Lib.hid (H.out.keeps hb1)
    have HT1 := Lib.hid (HT.out.keeps hb1)
    have hsz1 := HB1.out.size
    clear t0 t1 t2 hb1
    obtain ⟨t0, t1, t2, _, _⟩ := HT1.out
    go_wp2_with fail
    refine (implGreat_b n _ _ xs G HG.out hcap hlen _ HI1.out).mono ?_
    rintro e w2 ⟨rfl, hb2⟩
    go_wp2
    go_ret
    exact ⟨by rw [HF.out]; rfl, HB1.out.trans (hb2.mono hsz1)⟩

theorem implFlag_b (n : Int) (a : Option Addr) (c : Nat) (xs : List Int) (b : Bool) (hb : flagB n xs = b) (hcap : xs.length ≤ c) (hlen : xs.length ≤ 1099511627776) (w : World) (h : Ints w a xs) :
    Calls Try.prog 22 #[cx n (.slice a xs.length c)] w fun e w' => e = .returned (.bool b) ∧ Below w.heap.size w w' := by
  subst hb; exact implFlag_any n a c xs hcap hlen w h

end Go.Proofs.Ytfnpkglijknnoaa
