/-
  WALKS: IsSymmetricH.
-/
import Derived.Test.YtcgfioakjmbciaaWHSym
import Derived.Test.YtcgfioakjmbciaaWPartM
import Derived.Laws.Cover3
namespace Go.Proofs.Ytcgfioakjmbciaa
open Go.RowKit
open Sets Hn

theorem eqlH_nil (a : Option Addr) (l c : Nat) (w : World) : (binOp .eql 24 (.slice a l c) (.slice none 0 0)).run Try.prog w = .ok (.bool a.isNone) w := by
  unfold binOp
  simp [run_equal_slice_nil w 24 3 a l c Try.underlying24, Result.andThen]

attribute [local go_sem ↓] eqlH_nil

set_option maxRecDepth 100000 in
set_option maxHeartbeats 2000000 in
theorem cloneH_any (a : Option Addr) (c : Nat) (xs : List Int) (hlen : xs.length ≤ 1099511627776) (w : World) (h : Ints w a xs) :
    Calls Try.prog 51 #[.slice a xs.length c] w fun e w' => ∃ v, e = .returned v ∧ OwnInts w' w.heap.size v xs ∧ Below w.heap.size w w' := by
  obtain ⟨i0, hi, hz0, hz1, hz2⟩ := info_parts info_int
  cases a with
  | none =>
    have hx : xs = [] := by
      cases xs with
      | nil => rfl
      | cons x t => obtain ⟨b, o, e, _⟩ := h 0 (by simp); cases e
    subst hx
    go_enter Try.func51, Try.ntmps51
    go_wp2
    go_ret
    exact ⟨_, rfl, OwnInts.nil _ _, Below.refl _ _⟩
  | some ad =>
    have hb1 : Below w.heap.size w (w.alloc (.cells #[] 3)) := (Below.refl _ _).alloc (Nat.le_refl _) _
    have HN1 := Lib.hid (h.keeps hb1)
    have HO0 := Lib.hid (OwnInts.lit w w.heap.size [] (Nat.le_refl _) (by simp))
    have HB1 := Lib.hid hb1
    clear hb1 h
    unfold OwnInts at HO0
    go_enter Try.func51, Try.ntmps51
    go_wp2_with (at_builtin; refine wpList_append_own_at _ rfl _ _ 24 rfl w.heap.size 3 i0 (.int .i64 0) 1 8 Try.underlying24 hi hz0 hz1 hz2 rfl (by decide) (.slice (some ⟨w.heap.size, 0, none⟩) 0 0) 0 [] rfl HO0.out ad xs.length c (xs.map (Value.int .i64)) rfl ?c0 (Ints.news HN1.out) (one_ints _) ?c3 ?c4 ?c5 ?_)
    case c0 => rw [List.length_map]; simp
    case c3 => unfold maxLen; omega
    case c4 => omega
    case c5 => simp
    intro v1 w3 hown1 hgrow1 _ _
    have hb3 : Below w.heap.size w w3 := HB1.out.grown hgrow1 (by simp) (fun g hg => by simp only [Value.ownBlock, Option.some.injEq] at hg; omega)
    have hO3 : OwnInts w3 w.heap.size v1 xs := by
      unfold OwnInts
      have h := hown1
      exact h
    have HO3 := Lib.hid hO3
    have HB3 := Lib.hid hb3
    clear hown1 hgrow1 hO3 hb3
    go_wp2
    go_ret
    exact ⟨_, rfl, HO3.out, HB3.out⟩

theorem sym_yes {L : List Int} {l : Nat} (hl : L.length = l) (h0 : 0 < l) (h : ∀ j, j < l → L.getD j 0 = L.getD (l - 1 - j) 0) : symB L = true := by
  have e : (L == L.reverse) = true := by
    apply eq_at (l := l) hl (by rw [List.length_reverse, hl])
    intro j hj
    rw [h j hj, List.getD, List.getD, List.getElem?_reverse (by omega), hl]
  unfold symB
  rw [e, Bool.and_true]
  cases L with
  | nil => simp at hl; omega
  | cons x t => rfl
theorem sym_no {L : List Int} {l k : Nat} (hl : L.length = l) (hk : k < l) (h : L.getD k 0 ≠ L.getD (l - 1 - k) 0) : symB L = false := by
  have e : (L == L.reverse) = false := by
    apply ne_at (j := k)
    rw [List.getD, List.getD, List.getElem?_reverse (by omega), hl, ← List.getD_eq_getElem?_getD, ← List.getD_eq_getElem?_getD]
    exact h
  unfold symB
  rw [e, Bool.and_false]

set_option maxRecDepth 100000 in
set_option maxHeartbeats 4000000 in
theorem implSym_any (n : Int) (a : Option Addr) (c : Nat) (xs : List Int) (hcap : xs.length ≤ c) (hlen : xs.length ≤ 1099511627776) (w : World) (h : Ints w a xs) :
    Calls Try.prog 23 #[cx n (.slice a xs.length c)] w fun e w' => e = .returned (.bool (symB (hnum n xs))) ∧ Below w.heap.size w w' := by
  have hb0 : Below w.heap.size w (w.alloc (Obj.cells #[Value.int IntKind.i64 n, Value.slice a xs.length c] 26)) := (Below.refl _ _).alloc (Nat.le_refl _) _
  have htwo := (Two.new w (.int .i64 n) (.slice a xs.length c) 26)
  have H := Lib.hid (h.keeps hb0)
  have HB0 := Lib.hid hb0
  have HT := Lib.hid htwo
  clear h hb0 htwo
  have hl7 := hnum_le7 n xs
  obtain ⟨L, hL⟩ : ∃ L, hnum n xs = L := ⟨_, rfl⟩
  have HLL := Lib.hid hL
  rw [hL] at hl7
  rw [hL]
  clear hL
  go_enter Try.func23, Try.ntmps23
  obtain ⟨t0, t1, t2, _, _⟩ := HT.out
  go_wp2_with fail
  refine (implH_any n _ _ xs hcap hlen _ H.out).mono ?_
  rw [HLL.out]
  rintro e w1 ⟨v1, rfl, hO1, hb1⟩
  obtain ⟨a1, d1, g1, rfl, _, hr1⟩ := hO1.at
  have HB1 : Hid (Below w.heap.size w w1) := HB0.out.trans (hb1.mono HB0.out.size)
  have HR1 := Lib.hid hr1.ints
  clear hO1 hr1 hb1 t0 t1 t2 HB0 HT H
  have hz1w := HB1.out.size
  obtain ⟨l, hl⟩ : ∃ l, L.length = l := ⟨_, rfl⟩
  have hl7 : l ≤ 7 := by rw [← hl]; exact hl7
  have HCL := Lib.hid (cloneH_any a1 d1 L (by omega) w1 HR1.out)
  have HLN := Lib.hid hl
  rw [hl] at HCL ⊢
  clear hl
  go_wp2_with fail
  refine HCL.out.mono ?_
  rintro e w2 ⟨v2, rfl, hO2, hb2⟩
  obtain ⟨a2, d2, g2, rfl, _, _⟩ := hO2.at
  rw [HLN.out] at hO2
  rw [HLN.out]
  have hsz2 := hb2.size
  have HB2 : Hid (Below w.heap.size w w2) := HB1.out.trans (hb2.mono hz1w)
  have HR2 := Lib.hid (HR1.out.keeps hb2)
  have HRV := Lib.hid (reverse_any w1.heap.size a2 d2 L l HLN.out (by omega) w2 hO2 hsz2)
  have HK2 : Hid (∀ w3, Below w1.heap.size w2 w3 → Below w1.heap.size w1 w3) := by
    have : ∀ w3, Below w1.heap.size w2 w3 → Below w1.heap.size w1 w3 := fun w3 h => hb2.trans h
    exact this
  clear hO2 hb2 HCL
  go_wp2_with fail
  refine HRV.out.mono ?_
  rintro e w3 ⟨rfl, hO3, hb3⟩
  have hO3b := hO3
  rw [show l = L.reverse.length by rw [List.length_reverse, HLN.out]] at hO3b
  obtain ⟨a3, d3, g3, hv3, _, hr3⟩ := hO3b.at
  injection hv3 with e1 e2 e3
  subst e1
  have HR3 := Lib.hid hr3.ints
  have HR13 := Lib.hid (HR1.out.keeps (HK2.out _ hb3))
  have HB3 : Hid (Below w.heap.size w w3) := HB1.out.trans ((HK2.out _ hb3).mono hz1w)
  clear hO3 hO3b hb3 hr3 HRV HK2 e2 e3
  by_cases h0 : l = 0
  · subst h0
    have hE : Hid (symB L = false) := by
      have : symB L = false := by rw [List.eq_nil_of_length_eq_zero HLN.out]; rfl
      exact this
    go_wp2
    go_ret
    exact ⟨by rw [hE.out]; rfl, HB3.out⟩
  · obtain ⟨b, hb⟩ : ∃ b, (L == L.reverse) = b := ⟨_, rfl⟩
    have hE : Hid (symB L = b) := by
      have : symB L = b := by
        unfold symB
        rw [hb]
        cases L with
        | nil => exact absurd HLN.out.symm h0
        | cons x t => rfl
      exact this
    have HEQ := Lib.hid (equalS_b a1 a2 d1 d2 L L.reverse l HLN.out (by rw [List.length_reverse, HLN.out]) (by omega) b hb w3 HR13.out HR3.out)
    have hd : decide (0 < l) = true := by simp; omega
    clear hb
    go_wp2_with fail
    refine HEQ.out.mono ?_
    rintro e w4 ⟨rfl, hb4⟩
    have HB4 : Hid (Below w.heap.size w w4) := HB3.out.trans (hb4.mono HB3.out.size)
    clear hb4
    go_wp2
    go_ret
    exact ⟨by rw [hE.out]; rfl, HB4.out⟩

set_option maxRecDepth 100000 in
set_option maxHeartbeats 4000000 in
theorem specSym_any (n : Int) (a : Option Addr) (c : Nat) (xs : List Int) (hlen : xs.length ≤ 1099511627776) (w : World) (h : Ints w a xs) :
    Calls Try.prog 24 #[cx n (.slice a xs.length c)] w fun e w' => e = .returned (.bool (symB (hnum n xs))) ∧ Below w.heap.size w w' := by
  have hb0 : Below w.heap.size w (w.alloc (Obj.cells #[Value.int IntKind.i64 n, Value.slice a xs.length c] 26)) := (Below.refl _ _).alloc (Nat.le_refl _) _
  have htwo := (Two.new w (.int .i64 n) (.slice a xs.length c) 26)
  have H := Lib.hid (h.keeps hb0)
  have HB0 := Lib.hid hb0
  have HT := Lib.hid htwo
  clear h hb0 htwo
  have hl7 := hnum_le7 n xs
  obtain ⟨L, hL⟩ : ∃ L, hnum n xs = L := ⟨_, rfl⟩
  have HLL := Lib.hid hL
  rw [hL] at hl7
  rw [hL]
  clear hL
  go_enter Try.func24, Try.ntmps24
  obtain ⟨t0, t1, t2, _, _⟩ := HT.out
  go_wp2_with fail
  refine (specH_any n _ _ xs hlen _ H.out).mono ?_
  rw [HLL.out]
  rintro e w1 ⟨v1, rfl, hO1, hb1⟩
  obtain ⟨a1, d1, g1, rfl, _, hr1⟩ := hO1.at
  have HB1 : Hid (Below w.heap.size w w1) := HB0.out.trans (hb1.mono HB0.out.size)
  have HR1 := Lib.hid hr1.ints
  clear hO1 hr1 hb1 t0 t1 t2 HB0 HT H
  have hz1w := HB1.out.size
  obtain ⟨l, hl⟩ : ∃ l, L.length = l := ⟨_, rfl⟩
  have hl7 : l ≤ 7 := by rw [← hl]; exact hl7
  have HLN := Lib.hid hl
  rw [hl]
  clear hl
  go_wp2
  go_loopw [4] (fun i wr => ∃ k m : Nat, k ≤ l ∧ i = .int .i64 (k : Int) ∧ wr = w1.drewN m ∧ (∀ j, j < k → L.getD j 0 = L.getD (l - 1 - j) 0)) (fun i _ => l - (intOf i).toNat)
  case atStart => exact ⟨0, 0, Nat.zero_le _, rfl, rfl, fun j hj => absurd hj (Nat.not_lt_zero _)⟩
  case round =>
    obtain ⟨k, m, hk, rfl, rfl, hq⟩ := hrel
    have HQ := Lib.hid hq
    clear hq
    by_cases hlt : k < l
    · obtain ⟨b1, o1, rfl, g1⟩ := HR1.out k (by rw [HLN.out]; exact hlt)
      obtain ⟨b2, o2, e2, g2⟩ := HR1.out (l - 1 - k) (by rw [HLN.out]; omega)
      injection e2 with e2
      injection e2 with e2 e3
      subst e2 e3
      obtain ⟨x, hx⟩ : ∃ x, L.getD k 0 = x := ⟨_, rfl⟩
      obtain ⟨y, hy⟩ : ∃ y, L.getD (l - 1 - k) 0 = y := ⟨_, rfl⟩
      rw [hx] at g1
      rw [hy] at g2
      have HXK := Lib.hid hx
      have HYK := Lib.hid hy
      obtain ⟨z, hzz⟩ : ∃ z, l - 1 - k = z := ⟨_, rfl⟩
      rw [hzz] at g2
      have hzl : z < l := by omega
      have hzk : (l : Int) - 1 - (k : Int) = (z : Int) := by omega
      clear hx hy hzz
      by_cases e : x = y
      · subst e
        go_wp2
        go_quiet (fail)
        go_wp2
        go_roundw
        case rel =>
          refine ⟨k + 1, m + nq, by omega, by go_num, rfl, fun j hj => ?_⟩
          by_cases e : j = k
          · subst e; rw [HXK.out, HYK.out]
          · exact HQ.out j (by omega)
        case measure => simp [intOf]; omega
      · have hne : (x == y) = false := by simpa using e
        have HR : Hid (symB L = false) := by
          have : symB L = false := sym_no HLN.out hlt (by rw [HXK.out, HYK.out]; exact e)
          exact this
        clear e
        go_wp2
        go_quiet (fail)
        go_wp2
        go_ret
        exact ⟨by rw [HR.out]; rfl, bdrew (bdrew HB1.out _) _⟩
    · have E := Lib.hid (show k = l by omega)
      by_cases h0 : l = 0
      · subst h0
        have hE : Hid (symB L = false) := by
          have : symB L = false := by rw [List.eq_nil_of_length_eq_zero HLN.out]; rfl
          exact this
        go_wp2
        go_ret
        exact ⟨by rw [hE.out]; rfl, bdrew HB1.out _⟩
      · have hE : Hid (symB L = true) := by
          have : symB L = true := sym_yes HLN.out (by omega) (fun j hj => HQ.out j (by rw [E.out]; exact hj))
          exact this
        have hd : decide (0 < l) = true := by simp; omega
        go_wp2
        go_ret
        exact ⟨by rw [hE.out]; rfl, bdrew HB1.out _⟩

end Go.Proofs.Ytcgfioakjmbciaa
