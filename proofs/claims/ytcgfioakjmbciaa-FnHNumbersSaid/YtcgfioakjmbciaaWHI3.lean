/-
  WALKS: impl's chapter 10: HNumbers, TopH, CountsFromH.
-/
import Derived.Test.YtcgfioakjmbciaaWHI2
import Derived.Test.YtcgfioakjmbciaaJg6
import Derived.Test.YtcgfioakjmbciaaJg4
namespace Go.Proofs.Ytcgfioakjmbciaa
open Go.RowKit
open Sets Hn

set_option maxRecDepth 100000 in
set_option maxHeartbeats 4000000 in
theorem implH_any (n : Int) (a : Option Addr) (c : Nat) (xs : List Int) (hcap : xs.length ≤ c) (hlen : xs.length ≤ 1099511627776) (w : World) (h : Ints w a xs) :
    Calls Try.prog 12 #[cx n (.slice a xs.length c)] w fun e w' => ∃ v, e = .returned v ∧ OwnInts w' w.heap.size v (hnum n xs) ∧ Below w.heap.size w w' := by
  have hb0 : Below w.heap.size w (w.alloc (Obj.cells #[Value.int IntKind.i64 n, Value.slice a xs.length c] 26)) := (Below.refl _ _).alloc (Nat.le_refl _) _
  have htwo := (Two.new w (.int .i64 n) (.slice a xs.length c) 26)
  have H := Lib.hid (h.keeps hb0)
  have HB0 := Lib.hid hb0
  have HT := Lib.hid htwo
  clear h hb0 htwo
  have hl7 := counts_le7 (faces n xs)
  have HFEW := Lib.hid (counts_few n xs)
  obtain ⟨F, hF⟩ : ∃ F, counts (faces n xs) = F := ⟨_, rfl⟩
  have HN : Hid (hnum n xs = hsums (-1) F) := by
    have : hnum n xs = hsums (-1) F := by rw [← hF]; rfl
    exact this
  have HFF := Lib.hid hF
  rw [hF] at hl7 HFEW
  rw [HN.out]
  clear hF
  go_enter Try.func12, Try.ntmps12
  obtain ⟨t0, t1, t2, _, _⟩ := HT.out
  go_wp2_with fail
  refine (implCounts_any n _ _ xs hcap hlen _ H.out).mono ?_
  rw [HFF.out]
  rintro e w1 ⟨v1, rfl, hO1, hb1⟩
  obtain ⟨a1, d1, g1, rfl, _, _, hr1, _⟩ := HasInts.ata hO1 hb1.size
  have HB1 : Hid (Below w.heap.size w w1) := HB0.out.trans (hb1.mono HB0.out.size)
  have HR1 := Lib.hid hr1.ints
  clear hO1 hr1 hb1 t0 t1 t2 HB0 HT H
  by_cases h0 : F.length = 0
  · obtain rfl := List.eq_nil_of_length_eq_zero h0
    simp only [List.length_nil]
    go_wp2
    go_ret
    exact ⟨_, rfl, OwnInts.nil _ _, HB1.out⟩
  · have hz : ((F.length : Int) == 0) = false := by simp; exact fun e => h0 (by rw [e]; rfl)
    have HX : Hid (∀ j, -1000 ≤ F.getD j 0 ∧ F.getD j 0 ≤ 1000) := by
      have : ∀ j, -1000 ≤ F.getD j 0 ∧ F.getD j 0 ≤ 1000 := fun j => by have := HFEW.out j; omega
      exact this
    have HL7 := Lib.hid hl7
    clear h0 hl7
    go_wp2_with fail
    refine (sums_any (-1) (Or.inr rfl) a1 d1 F HL7.out HX.out _ HR1.out).mono ?_
    rintro e w2 ⟨v, rfl, hO, hb⟩
    have HO := Lib.hid hO
    have HB := Lib.hid hb
    clear hO hb
    go_wp2
    go_ret
    exact ⟨_, rfl, HO.out.lower HB1.out.size, HB1.out.trans (HB.out.mono HB1.out.size)⟩

set_option maxRecDepth 100000 in
set_option maxHeartbeats 4000000 in
theorem implTop_any (n : Int) (a : Option Addr) (c : Nat) (xs : List Int) (hcap : xs.length ≤ c) (hlen : xs.length ≤ 1099511627776) (w : World) (h : Ints w a xs) :
    Calls Try.prog 25 #[cx n (.slice a xs.length c)] w fun e w' => e = .returned (.int .i64 (topZ (hnum n xs))) ∧ Below w.heap.size w w' := by
  have hb0 : Below w.heap.size w (w.alloc (Obj.cells #[Value.int IntKind.i64 n, Value.slice a xs.length c] 26)) := (Below.refl _ _).alloc (Nat.le_refl _) _
  have htwo := (Two.new w (.int .i64 n) (.slice a xs.length c) 26)
  have H := Lib.hid (h.keeps hb0)
  have HB0 := Lib.hid hb0
  have HT := Lib.hid htwo
  clear h hb0 htwo
  have hl7 := hnum_le7 n xs
  obtain ⟨L, hL⟩ : ∃ L, hnum n xs = L := ⟨_, rfl⟩
  have HLL := Lib.hid hL
  rw [hL] at hl7
  rw [hL]
  clear hL
  go_enter Try.func25, Try.ntmps25
  obtain ⟨t0, t1, t2, _, _⟩ := HT.out
  go_wp2_with fail
  refine (implH_any n _ _ xs hcap hlen _ H.out).mono ?_
  rw [HLL.out]
  rintro e w1 ⟨v1, rfl, hO1, hb1⟩
  obtain ⟨a1, d1, g1, rfl, _, hr1⟩ := hO1.at
  have HB1 : Hid (Below w.heap.size w w1) := HB0.out.trans (hb1.mono HB0.out.size)
  have HR1 := Lib.hid hr1.ints
  clear hO1 hr1 hb1 t0 t1 t2 HB0 HT H
  by_cases h0 : L.length = 0
  · obtain rfl := List.eq_nil_of_length_eq_zero h0
    simp only [List.length_nil]
    go_wp2
    go_ret
    exact ⟨rfl, HB1.out⟩
  · obtain ⟨l, hl⟩ : ∃ l, L.length = l + 1 := ⟨L.length - 1, by omega⟩
    obtain ⟨b, o, rfl, g⟩ := HR1.out l (by omega)
    have HT2 : Hid (topZ L = L.getD l 0) := by
      have : topZ L = L.getD l 0 := by unfold topZ; rw [hl]; rfl
      exact this
    rw [hl] at hl7 ⊢
    obtain ⟨x, hx⟩ : ∃ x, L.getD l 0 = x := ⟨_, rfl⟩
    have HX := Lib.hid hx
    rw [hx] at g
    have e1 : (((l + 1 : Nat) : Int) - 1) = (l : Int) := by omega
    clear hl h0 hx
    go_wp2
    go_ret
    exact ⟨by rw [HT2.out, HX.out]; rfl, HB1.out⟩

theorem far1_asks (zs : List Int) (w : World) : Asks 47 #[] (fun x => decide (x < -1000) || decide (1000 < x)) zs w := by
  intro W j _ _
  generalize zs.getD j 0 = x
  show Calls Try.prog 47 #[.int .i64 x] W _
  by_cases h1 : x < -1000
  · have hd1 : decide (x < -1000) = true := by simpa using h1
    have HR : Hid ((decide (x < -1000) || decide (1000 < x)) = true) := by
      have : (decide (x < -1000) || decide (1000 < x)) = true := by rw [hd1]; rfl
      exact this
    dsimp only
    rw [HR.out]
    go_enter Try.func47, Try.ntmps47
    go_wp2
    go_ret
    exact ⟨rfl, 0, rfl⟩
  · have hd1 : decide (x < -1000) = false := by simpa using h1
    obtain ⟨b, hb⟩ : ∃ b, decide (1000 < x) = b := ⟨_, rfl⟩
    have HR : Hid ((decide (x < -1000) || decide (1000 < x)) = b) := by
      have : (decide (x < -1000) || decide (1000 < x)) = b := by rw [hd1, hb]; rfl
      exact this
    dsimp only
    rw [HR.out]
    go_enter Try.func47, Try.ntmps47
    go_wp2
    go_ret
    exact ⟨rfl, 0, rfl⟩

theorem near_far (L : List Int) : nearB L = !(L.any fun x => decide (x < -1000) || decide (1000 < x)) := by
  unfold nearB
  rw [List.all_eq_not_any_not]
  congr 2
  funext x
  rw [Bool.eq_iff_iff]
  simp

set_option maxRecDepth 100000 in
set_option maxHeartbeats 4000000 in
theorem implFrom_any (a : Option Addr) (c : Nat) (L : List Int) (hlen : L.length ≤ 1099511627776) (w : World) (h : Ints w a L) :
    Calls Try.prog 18 #[.slice a L.length c] w fun e w' => ∃ v, e = .returned v ∧ OwnInts w' w.heap.size v (fromH L) ∧ Below w.heap.size w w' := by
  have eg : ∀ args w, (callFunc 47 args).run Try.prog w = .ok (.enter 47 args) w := enters_of Try.func47 (by kernel_rfl) rfl
  have H := Lib.hid h
  clear h
  by_cases h0 : L.length = 0
  · obtain rfl := List.eq_nil_of_length_eq_zero h0
    have HF : Hid (fromH [] = []) := by
      have : fromH [] = [] := rfl
      exact this
    rw [HF.out]
    simp only [List.length_nil]
    go_enter Try.func18, Try.ntmps18
    go_wp2
    go_ret
    exact ⟨_, rfl, OwnInts.nil _ _, Below.refl _ _⟩
  · have hz : ((L.length : Int) == 0) = false := by simp; exact fun e => h0 (by rw [e]; rfl)
    by_cases h7 : 7 < L.length
    · have HF : Hid (fromH L = []) := by
        have : fromH L = [] := by unfold fromH; rw [if_neg (by omega)]
        exact this
      have hd7 : decide (7 < L.length) = true := by simpa using h7
      rw [HF.out]
      go_enter Try.func18, Try.ntmps18
      go_wp2
      go_ret
      exact ⟨_, rfl, OwnInts.nil _ _, Below.refl _ _⟩
    · have hd7 : decide (7 < L.length) = false := by simpa using h7
      obtain ⟨b, hb⟩ : ∃ b, (L.any fun x => decide (x < -1000) || decide (1000 < x)) = b := ⟨_, rfl⟩
      have HC := Lib.hid (containsFunc_any 47 #[] (fun x => decide (x < -1000) || decide (1000 < x)) b a c L hb w eg (far1_asks L w) hlen H.out)
      have hnf := near_far L
      rw [hb] at hnf
      cases b with
      | true =>
        have HF : Hid (fromH L = []) := by
          have : fromH L = [] := by unfold fromH; rw [if_neg (by rw [hnf]; simp)]
          exact this
        rw [HF.out]
        clear hb hnf
        go_enter Try.func18, Try.ntmps18
        go_wp2_with fail
        refine HC.out.mono ?_
        rintro e w1 ⟨rfl, m, rfl⟩
        go_wp2
        go_ret
        exact ⟨_, rfl, OwnInts.nil _ _, Mem.below_drewN w m⟩
      | false =>
        have HF : Hid (fromH L = hsums 1 L) := by
          have : fromH L = hsums 1 L := by unfold fromH; rw [if_pos ⟨by omega, by omega, by rw [hnf]; rfl⟩]
          exact this
        have HX : Hid (∀ j, -1000 ≤ L.getD j 0 ∧ L.getD j 0 ≤ 1000) := by
          have : ∀ j, -1000 ≤ L.getD j 0 ∧ L.getD j 0 ≤ 1000 := near_at (by rw [hnf]; rfl)
          exact this
        have HL7 : Hid (L.length ≤ 7) := by
          have : L.length ≤ 7 := by omega
          exact this
        rw [HF.out]
        clear hb hnf
        go_enter Try.func18, Try.ntmps18
        go_wp2_with fail
        refine HC.out.mono ?_
        rintro e w1 ⟨rfl, m, rfl⟩
        go_wp2_with fail
        refine (sums_any 1 (Or.inl rfl) a c L HL7.out HX.out _ (Ints.drewN H.out m)).mono ?_
        rintro e w2 ⟨v, rfl, hO, hb⟩
        have HO := Lib.hid hO
        have HB := Lib.hid hb
        clear hO hb
        go_wp2
        go_ret
        exact ⟨_, rfl, HO.out, (Mem.below_drewN w m).trans (HB.out.mono (Nat.le_refl _))⟩

end Go.Proofs.Ytcgfioakjmbciaa
