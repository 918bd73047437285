/-
  WALK of chapter 14 (spec): parts counted one after another.
-/
import Derived.Test.YtenpcjmhlnalcaaJg19
import Derived.Test.YtenpcjmhlnalcaaJg8
import Derived.Test.YtenpcjmhlnalcaaCntLaw
import Derived.Test.YtenpcjmhlnalcaaJg14
namespace Go.Proofs.Ytenpcjmhlnalcaa
open Go.RowKit
open Sets Lin Hom

/-- CountParts. -/
def partsZ (n : Int) (xs : List Int) : Int := if isC n xs = true then (partsN (inF xs) : Int) else 0
theorem partsZ_yes {n : Int} {xs : List Int} (h : isC n xs = true) : partsZ n xs = (partsN (inF xs) : Int) := if_pos h
theorem partsZ_no {n : Int} {xs : List Int} (h : isC n xs = false) : partsZ n xs = 0 := if_neg (by rw [h]; simp)
theorem low_bits : ∀ P : Fin 64, bits BinOp.and IntKind.i64 (P.val : Int) (-(P.val : Int)) = ((loP P.val : Nat) : Int) := by decide +kernel
theorem low_point : ∀ P : Fin 64, 0 < P.val → loP P.val < 64 ∧ pc (loP P.val) = 1 ∧ sub (loP P.val) P.val = true := by decide +kernel
theorem card_le6 (q : Nat → Bool) : (J q 1).length ≤ 6 := by
  have e : J q 1 = ((List.range 64).filter fun s => pc s == 1).filter q := by
    unfold J
    rw [List.filter_filter]
    exact List.filter_congr fun s _ => Bool.and_comm _ _
  rw [e]
  exact Nat.le_trans (List.length_filter_le _ _) (by decide +kernel)
theorem Grown.sup {q : Nat → Bool} {m C : Nat} (h : Grown q m C) : C < 64 := h.1
/-- What is left: shut, and of points only. -/
def Left (q : Nat → Bool) (P : Nat) : Prop := P < 64 ∧ shut q P = true ∧ ∀ v : Fin 6, sub (2 ^ v.val) P = true → 2 ^ v.val ∈ J q 1
theorem Left.low {q : Nat → Bool} {P : Nat} (h : Left q P) (h0 : 0 < P) : loP P ∈ J q 1 ∧ sub (loP P) P = true := by
  obtain ⟨b1, b2, b3⟩ := low_point ⟨P, h.1⟩ h0
  obtain ⟨v, hv⟩ := one_bits ⟨_, b1⟩ b2
  dsimp only at hv b3
  rw [hv] at b3 ⊢
  exact ⟨h.2.2 v b3, b3⟩
theorem Left.less {q : Nat → Bool} {P C : Nat} (h : Left q P) (h0 : 0 < P) (hC : Grown q (loP P) C) (hs : shut q C = true) : Left q (P - (P &&& C)) ∧ cntR q P = cntR q (P - (P &&& C)) + 1 ∧ P - (P &&& C) < P := by
  obtain ⟨l1, l2⟩ := h.low h0
  refine ⟨⟨by have := h.1; omega, shut_off h.1 hC.1 h.2.1 hs, fun v hv => h.2.2 v ?_⟩, cntR_step h.1 hC.1 h.2.1 l1 l2 (hC.part hs), ?_⟩
  · have := (sub_off h.1 hC.1 (s := 2 ^ v.val) ⟨v, rfl⟩).symm.trans hv
    rw [Bool.and_eq_true] at this
    exact this.1
  · obtain ⟨v, hv⟩ := point_J l1
    have : P &&& C ≠ 0 := sub_both (a := loP P) (by rw [hv]; exact two_pow_ne _) l2 hC.2.1
    omega
theorem Left.start {n : Int} {xs : List Int} (h : isC n xs = true) : Left (inF xs) (orN xs) ∧ cntR (inF xs) (orN xs) = partsN (inF xs) := by
  have hlt := orN_lt xs (isC_ok h)
  have hin : ∀ f, f ∈ xs → sub f.toNat (orN xs) = true := fun f hf => by
    unfold sub
    rw [beq_iff_eq]
    refine Nat.eq_of_testBit_eq fun i => ?_
    rw [Nat.testBit_and]
    cases e : f.toNat.testBit i with
    | false => rfl
    | true =>
      have := orN_bit i xs 0
      unfold orN
      rw [this, List.any_eq_true.2 ⟨f, hf, e⟩]
      simp
  have hsh : shut (inF xs) (orN xs) = true := shut_facets fun f hf _ => hin f hf
  refine ⟨⟨hlt, hsh, fun v hv => ?_⟩, cntR_all fun s hs => ?_⟩
  · obtain ⟨b1, b2⟩ := bit_one v
    refine (mem_J _ 1 _).2 ⟨b1, b2, ?_⟩
    have h1 : (orN xs).testBit v.val = true := by
      have H : ∀ (v : Fin 6) (P : Fin 64), sub (2 ^ v.val) P.val = true → P.val.testBit v.val = true := by decide +kernel
      exact H v ⟨_, hlt⟩ hv
    unfold orN at h1
    rw [orN_bit] at h1
    simp only [Nat.zero_testBit, Bool.false_or] at h1
    obtain ⟨f, hf, hb⟩ := List.any_eq_true.1 h1
    unfold inF
    refine List.any_eq_true.2 ⟨f, hf, ?_⟩
    unfold sub
    rw [beq_iff_eq]
    refine Nat.eq_of_testBit_eq fun i => ?_
    rw [Nat.testBit_and, Nat.testBit_two_pow]
    by_cases e : v.val = i
    · subst e; simp [hb]
    · simp [e]
  · obtain ⟨s1, s2, s3⟩ := (mem_J _ 1 s).1 hs
    unfold inF at s3
    obtain ⟨f, hf, hsf⟩ := List.any_eq_true.1 s3
    exact sub_trans hsf (hin f hf)
/-- One round over the facets: the first j are gathered. -/
def Round (xs : List Int) (C N j : Nat) : Prop := sub C N = true ∧ ∀ i, i < j → (xs.getD i 0).toNat &&& C ≠ 0 → sub (xs.getD i 0).toNat N = true
theorem Round.start (xs : List Int) (C : Nat) : Round xs C C 0 := ⟨by simp [sub], fun i hi => absurd hi (Nat.not_lt_zero _)⟩
theorem Round.skip {xs : List Int} {C N j : Nat} (h : Round xs C N j) (hm : (xs.getD j 0).toNat &&& C = 0) : Round xs C N (j + 1) :=
  ⟨h.1, fun i hi hm2 => by
    by_cases e : i = j
    · subst e; exact absurd hm hm2
    · exact h.2 i (by omega) hm2⟩
theorem sub_orl {a N f : Nat} (h : sub a N = true) : sub a (N ||| f) = true := by
  unfold sub at *
  rw [beq_iff_eq] at *
  refine Nat.eq_of_testBit_eq fun i => ?_
  rw [Nat.testBit_and, Nat.testBit_or]
  have : (a &&& N).testBit i = a.testBit i := by rw [h]
  rw [Nat.testBit_and] at this
  cases e : a.testBit i
  · rfl
  · rw [e] at this; simp at this; simp [this]
theorem sub_orr (N f : Nat) : sub f (N ||| f) = true := by
  unfold sub
  rw [beq_iff_eq]
  refine Nat.eq_of_testBit_eq fun i => ?_
  rw [Nat.testBit_and, Nat.testBit_or]
  cases f.testBit i <;> simp
theorem Round.take {xs : List Int} {C N j : Nat} (h : Round xs C N j) : Round xs C (N ||| (xs.getD j 0).toNat) (j + 1) :=
  ⟨sub_orl h.1, fun i hi hm2 => by
    by_cases e : i = j
    · subst e; exact sub_orr _ _
    · exact sub_orl (h.2 i (by omega) hm2)⟩
theorem Round.shut {xs : List Int} {C : Nat} (h : Round xs C C xs.length) : shut (inF xs) C = true := shut_facets fun f hf hm => by
  obtain ⟨i, hi, rfl⟩ := List.mem_iff_getElem.1 hf
  have e : xs.getD i 0 = xs[i] := by simp [List.getD, List.getElem?_eq_getElem hi]
  rw [← e] at hm ⊢
  exact h.2 i hi hm
theorem facet_in {xs : List Int} {j : Nat} (hj : j < xs.length) : inF xs (xs.getD j 0).toNat = true := by
  unfold inF
  refine List.any_eq_true.2 ⟨xs.getD j 0, ?_, by simp [sub]⟩
  rw [List.getD, List.getElem?_eq_getElem hj]; exact List.getElem_mem hj

set_option maxRecDepth 100000 in
set_option maxHeartbeats 4000000 in
theorem specParts_any (n : Int) (a : Option Addr) (c : Nat) (xs : List Int) (hlen : xs.length ≤ 1099511627776) (w : World) (h : Ints w a xs) :
    Calls Try.prog 23 #[cx n (.slice a xs.length c)] w fun e w' => e = .returned (.int .i64 (partsZ n xs)) ∧ Below w.heap.size w w' := by
  have hb0 : Below w.heap.size w (w.alloc (Obj.cells #[Value.int IntKind.i64 n, Value.slice a xs.length c] 27)) := (Below.refl _ _).alloc (Nat.le_refl _) _
  have htwo := Two.new w (.int .i64 n) (.slice a xs.length c) 27
  have H := Lib.hid (h.keeps hb0)
  have HB0 := Lib.hid hb0
  have HT := Lib.hid htwo
  clear h hb0 htwo
  cases hC : isC n xs with
  | false =>
    have HU := Lib.hid (used_no hC)
    have HF := Lib.hid (partsZ_no hC)
    clear hC
    go_enter Try.func23, Try.ntmps23
    obtain ⟨t0, t1, t2, _, _⟩ := HT.out
    go_wp2_with fail
    refine (specUsed_any n a c xs hlen _ H.out).mono ?_
    rw [HU.out]
    rintro e w1 ⟨rfl, hb1⟩
    have HB1 : Hid (Below w.heap.size w w1) := HB0.out.trans (hb1.mono HB0.out.size)
    clear hb1 t0 t1 t2
    go_wp2
    refine wp_loop_rounds 1 ?_
    rw [rounds_succ]
    go_wp2
    go_ret
    exact ⟨by rw [HF.out]; rfl, HB1.out⟩
  | true =>
    have HU := Lib.hid (used_yes hC)
    have HF := Lib.hid (partsZ_yes hC)
    have HC := Lib.hid hC
    obtain ⟨hL, hS⟩ := Left.start hC
    have HQ := Lib.hid (inF_down xs)
    obtain ⟨P0, hP0⟩ : ∃ P, orN xs = P := ⟨_, rfl⟩
    rw [hP0] at HU hL hS
    have HS := Lib.hid hS
    have HL := Lib.hid hL
    clear hC hP0 hL hS
    go_enter Try.func23, Try.ntmps23
    obtain ⟨t0, t1, t2, _, _⟩ := HT.out
    go_wp2_with fail
    refine (specUsed_any n a c xs hlen _ H.out).mono ?_
    rw [HU.out]
    rintro e w1 ⟨rfl, hb1⟩
    have HB1 : Hid (Below w.heap.size w w1) := HB0.out.trans (hb1.mono HB0.out.size)
    have H1 := Lib.hid (H.out.keeps hb1)
    have HT1 := Lib.hid (HT.out.keeps hb1)
    clear hb1 t0 t1 t2
    obtain ⟨t0, t1, t2, _, _⟩ := HT1.out
    go_wp2
    go_loopw [3, 4] (fun kv pv wr => ∃ k P : Nat, kv = .int .i64 (k : Int) ∧ pv = .int .i64 (P : Int) ∧ Left (inF xs) P ∧ k + cntR (inF xs) P = partsN (inF xs) ∧ w1 = wr) (fun _ pv _ => (intOf pv).toNat)
    case atStart => exact ⟨0, P0, rfl, rfl, HL.out, by rw [HS.out]; omega, rfl⟩
    case round =>
      obtain ⟨k, P, rfl, rfl, hL, hS, rfl⟩ := hrel
      have HL := Lib.hid hL
      have HS := Lib.hid hS
      have hk6 : k ≤ 6 := by
        have h1 : partsN (inF xs) ≤ 6 := by
          refine Nat.le_trans (List.length_filter_le _ _) ?_
          exact card_le6 _
        omega
      have hP64 := hL.1
      clear hL hS
      by_cases h0 : 0 < P
      · have hd : decide ((0 : Int) < (P : Int)) = true := by simpa using h0
        have hlow := low_bits ⟨P, hP64⟩
        have hwn : IntKind.i64.wrap (-(P : Int)) = -(P : Int) := IntWalk.i64_in _ (by omega)
        obtain ⟨l1, l2⟩ := HL.out.low h0
        obtain ⟨m, hm⟩ : ∃ m, loP P = m := ⟨_, rfl⟩
        have HM := Lib.hid hm
        have HG0 := Lib.hid (Grown.start l1)
        rw [hm] at hlow HG0
        have HLOW : Hid (bits BinOp.and IntKind.i64 (P : Int) (-(P : Int)) = (m : Int)) := hlow
        have hlow2 := HLOW.out
        clear l1 l2 hm hlow
        go_wp2
        go_loopw [5] (fun cv wr => ∃ C : Nat, cv = .int .i64 (C : Int) ∧ Grown (inF xs) m C ∧ w1 = wr) (fun cv _ => 64 - (intOf cv).toNat)
        case atStart => exact ⟨m, rfl, HG0.out, rfl⟩
        case round =>
          obtain ⟨C, rfl, hG, rfl⟩ := hrel
          have HG := Lib.hid hG
          have hC64 := hG.1
          clear hG
          go_wp2
          go_loopw [6, 7] (fun nv iv wr => ∃ N j : Nat, nv = .int .i64 (N : Int) ∧ iv = .int .i64 (j : Int) ∧ j ≤ xs.length ∧ Grown (inF xs) m N ∧ Round xs C N j ∧ w1 = wr) (fun _ iv _ => xs.length - (intOf iv).toNat)
          case atStart => exact ⟨C, 0, rfl, rfl, Nat.zero_le _, HG.out, Round.start _ _, rfl⟩
          case round =>
            obtain ⟨N, j, rfl, rfl, hj, hN, hR, rfl⟩ := hrel
            have HN := Lib.hid hN
            have HR := Lib.hid hR
            have hN64 := hN.1
            clear hN hR
            by_cases hlt : j < xs.length
            · have hdj : decide ((j : Int) < (xs.length : Int)) = true := by simpa using hlt
              obtain ⟨b0, o, ea, g⟩ := H1.out j hlt
              obtain ⟨t, ht, ht64⟩ := isC_at HC.out j hlt
              have HFI := Lib.hid (facet_in hlt)
              have HSK := Lib.hid (fun hh => HR.out.skip hh)
              have HTK := Lib.hid HR.out.take
              rw [ht] at g HFI HSK HTK
              simp only [Int.toNat_natCast] at HFI HSK HTK
              subst ea
              have hand := and_nat t C ht64 hC64
              have hor := or_nat N t hN64 ht64
              clear ht
              by_cases hm : t &&& C = 0
              · have hz : (((t &&& C : Nat) : Int) == 0) = true := by rw [hm]; rfl
                have hz2 : (((t &&& C : Nat) : Int) != 0) = false := by rw [hm]; rfl
                go_wp2
                go_roundw
                case rel => exact ⟨N, j + 1, rfl, by go_num, by omega, HN.out, HSK.out hm, trivial⟩
                case measure => simp [intOf]; omega
              · have hz : (((t &&& C : Nat) : Int) == 0) = false := by rw [beq_eq_false_iff_ne]; omega
                have hz2 : (((t &&& C : Nat) : Int) != 0) = true := by rw [bne_iff_ne]; omega
                go_wp2
                go_roundw
                case rel => exact ⟨N ||| t, j + 1, rfl, by go_num, by omega, Grown.next HQ.out HG.out HN.out ht64 HFI.out hm, HTK.out, trivial⟩
                case measure => simp [intOf]; omega
            · have hdj : decide ((j : Int) < (xs.length : Int)) = false := by simpa using hlt
              have hjl : j = xs.length := by omega
              subst hjl
              by_cases he : N = C
              · subst he
                have hsh := HR.out.shut
                obtain ⟨q1, q2, q3⟩ := HL.out.less h0 (by rw [HM.out]; exact HN.out) hsh
                have hand := and_nat P N hP64 hN64
                have hle : P &&& N ≤ P := Nat.and_le_left
                have HQ1 := Lib.hid q1
                have HQ2 := Lib.hid q2
                have hws : IntKind.i64.wrap ((P : Int) - ((P &&& N : Nat) : Int)) = ((P - (P &&& N) : Nat) : Int) := by rw [IntWalk.i64_in _ (by omega)]; omega
                have hws2 : (P : Int) - ((P &&& N : Nat) : Int) = ((P - (P &&& N) : Nat) : Int) := by omega
                clear hsh q1 q2
                go_wp2
                go_roundw
                case rel => exact ⟨k + 1, P - (P &&& N), by go_num, by go_num, HQ1.out, by have := HS.out; have := HQ2.out; omega, trivial⟩
                case measure => simp [intOf]; omega
              · have hz : ((N : Int) == (C : Int)) = false := by rw [beq_eq_false_iff_ne]; omega
                have hz2 : decide (N = C) = false := decide_eq_false he
                have hle : C ≤ N := by
                  have := HR.out.1
                  unfold sub at this
                  rw [beq_iff_eq] at this
                  rw [← this]; exact Nat.and_le_right
                go_wp2
                go_roundw
                case rel => exact ⟨N, rfl, HN.out, trivial⟩
                case measure => simp [intOf]; omega
      · have hd : decide ((0 : Int) < (P : Int)) = false := by simpa using h0
        have hP0 : P = 0 := by omega
        subst hP0
        have E : Hid (k = partsN (inF xs)) := by have := HS.out; rw [cntR_none] at this; exact this
        go_wp2
        go_ret
        exact ⟨by rw [HF.out, E.out]; rfl, HB1.out⟩

end Go.Proofs.Ytenpcjmhlnalcaa
