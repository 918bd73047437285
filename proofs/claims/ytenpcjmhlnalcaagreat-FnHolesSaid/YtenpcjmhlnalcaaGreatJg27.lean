/-
  TEXTS of one claim, put together: CntLaw, WHlS2, HlC, Join1.
-/
import Derived.Test.YtenpcjmhlnalcaaGreatJg7
import Derived.Test.YtenpcjmhlnalcaaGreatJg26
import Derived.Test.YtenpcjmhlnalcaaGreatJg11
import Derived.Test.YtenpcjmhlnalcaaGreatJg3
import Derived.Test.YtenpcjmhlnalcaaGreatJg25
/-! COUNTS OF FACES, of no program: what the law of chapter 4 says of them. -/

namespace Go.Proofs.YtenpcjmhlnalcaaGreat
open Sets

/-- The sum of the first k. -/
def tsumK (xs : List Int) : Nat → Int
  | 0 => 0
  | k + 1 => tsumK xs k + xs.getD k 0
def sgn (k : Nat) (x : Int) : Int := if k % 2 = 1 then x else -x
theorem sgn0 (x : Int) : sgn 0 x = -x := rfl
theorem sgn1 (x : Int) : sgn 1 x = x := rfl
theorem sgn2 (x : Int) : sgn 2 x = -x := rfl
theorem sgn3 (x : Int) : sgn 3 x = x := rfl
theorem sgn4 (x : Int) : sgn 4 x = -x := rfl
theorem sgn5 (x : Int) : sgn 5 x = x := rfl
theorem sgn6 (x : Int) : sgn 6 x = -x := rfl
/-- The sum of the first k with signs, + for odd indices. -/
def ssumK (xs : List Int) : Nat → Int
  | 0 => 0
  | k + 1 => ssumK xs k + sgn k (xs.getD k 0)

theorem cnt_all (L : List Int) : cnt 0 L + cnt 1 L + cnt 2 L + cnt 3 L + cnt 4 L + cnt 5 L + cnt 6 L = L.length := by
  induction L with
  | nil => rfl
  | cons x L ih =>
    have hx : ∀ k, cnt k (x :: L) = cnt k L + if pc x.toNat = k then 1 else 0 := fun k => by
      unfold cnt; rw [List.countP_cons]
      by_cases h : pc x.toNat = k <;> simp [h]
    simp only [hx, List.length_cons]
    have h := pc_le x.toNat
    generalize pc x.toNat = p at h
    rcases (by omega : p = 0 ∨ p = 1 ∨ p = 2 ∨ p = 3 ∨ p = 4 ∨ p = 5 ∨ p = 6) with rfl | rfl | rfl | rfl | rfl | rfl | rfl <;> simp <;> omega

theorem counts_total (L : List Int) : tsumK (counts L) (counts L).length = (L.length : Int) := by
  have h := cnt_all L
  have h7 := top_le L
  have hg := ge_top L
  have hc := counts_at L
  rw [counts_length]
  generalize counts L = f at hc ⊢
  generalize top L = T at hc hg h7 ⊢
  have e : ∀ k, k < T → f.getD k 0 = (cnt k L : Int) := fun k hk => hc k hk
  rcases (by omega : T = 0 ∨ T = 1 ∨ T = 2 ∨ T = 3 ∨ T = 4 ∨ T = 5 ∨ T = 6 ∨ T = 7) with rfl | rfl | rfl | rfl | rfl | rfl | rfl | rfl
  · have g0 := hg 0 (by omega); have g1 := hg 1 (by omega); have g2 := hg 2 (by omega); have g3 := hg 3 (by omega); have g4 := hg 4 (by omega); have g5 := hg 5 (by omega); have g6 := hg 6 (by omega)
    simp only [tsumK]; omega
  · have g1 := hg 1 (by omega); have g2 := hg 2 (by omega); have g3 := hg 3 (by omega); have g4 := hg 4 (by omega); have g5 := hg 5 (by omega); have g6 := hg 6 (by omega)
    simp only [tsumK, e 0 (by omega)]; omega
  · have g2 := hg 2 (by omega); have g3 := hg 3 (by omega); have g4 := hg 4 (by omega); have g5 := hg 5 (by omega); have g6 := hg 6 (by omega)
    simp only [tsumK, e 0 (by omega), e 1 (by omega)]; omega
  · have g3 := hg 3 (by omega); have g4 := hg 4 (by omega); have g5 := hg 5 (by omega); have g6 := hg 6 (by omega)
    simp only [tsumK, e 0 (by omega), e 1 (by omega), e 2 (by omega)]; omega
  · have g4 := hg 4 (by omega); have g5 := hg 5 (by omega); have g6 := hg 6 (by omega)
    simp only [tsumK, e 0 (by omega), e 1 (by omega), e 2 (by omega), e 3 (by omega)]; omega
  · have g5 := hg 5 (by omega); have g6 := hg 6 (by omega)
    simp only [tsumK, e 0 (by omega), e 1 (by omega), e 2 (by omega), e 3 (by omega), e 4 (by omega)]; omega
  · have g6 := hg 6 (by omega)
    simp only [tsumK, e 0 (by omega), e 1 (by omega), e 2 (by omega), e 3 (by omega), e 4 (by omega), e 5 (by omega)]; omega
  · simp only [tsumK, e 0 (by omega), e 1 (by omega), e 2 (by omega), e 3 (by omega), e 4 (by omega), e 5 (by omega), e 6 (by omega)]; omega

theorem counts_signed (L : List Int) : ssumK (counts L) (counts L).length = eul L := by
  have h7 := top_le L
  have hg := ge_top L
  have hc := counts_at L
  unfold eul
  rw [counts_length]
  generalize counts L = f at hc ⊢
  generalize top L = T at hc hg h7 ⊢
  have e : ∀ k, k < T → f.getD k 0 = (cnt k L : Int) := fun k hk => hc k hk
  rcases (by omega : T = 0 ∨ T = 1 ∨ T = 2 ∨ T = 3 ∨ T = 4 ∨ T = 5 ∨ T = 6 ∨ T = 7) with rfl | rfl | rfl | rfl | rfl | rfl | rfl | rfl
  · have g0 := hg 0 (by omega); have g1 := hg 1 (by omega); have g2 := hg 2 (by omega); have g3 := hg 3 (by omega); have g4 := hg 4 (by omega); have g5 := hg 5 (by omega); have g6 := hg 6 (by omega)
    simp only [ssumK]; omega
  · have g1 := hg 1 (by omega); have g2 := hg 2 (by omega); have g3 := hg 3 (by omega); have g4 := hg 4 (by omega); have g5 := hg 5 (by omega); have g6 := hg 6 (by omega)
    simp only [ssumK, e 0 (by omega), sgn0]; omega
  · have g2 := hg 2 (by omega); have g3 := hg 3 (by omega); have g4 := hg 4 (by omega); have g5 := hg 5 (by omega); have g6 := hg 6 (by omega)
    simp only [ssumK, e 0 (by omega), e 1 (by omega), sgn0, sgn1]; omega
  · have g3 := hg 3 (by omega); have g4 := hg 4 (by omega); have g5 := hg 5 (by omega); have g6 := hg 6 (by omega)
    simp only [ssumK, e 0 (by omega), e 1 (by omega), e 2 (by omega), sgn0, sgn1, sgn2]; omega
  · have g4 := hg 4 (by omega); have g5 := hg 5 (by omega); have g6 := hg 6 (by omega)
    simp only [ssumK, e 0 (by omega), e 1 (by omega), e 2 (by omega), e 3 (by omega), sgn0, sgn1, sgn2, sgn3]; omega
  · have g5 := hg 5 (by omega); have g6 := hg 6 (by omega)
    simp only [ssumK, e 0 (by omega), e 1 (by omega), e 2 (by omega), e 3 (by omega), e 4 (by omega), sgn0, sgn1, sgn2, sgn3, sgn4]; omega
  · have g6 := hg 6 (by omega)
    simp only [ssumK, e 0 (by omega), e 1 (by omega), e 2 (by omega), e 3 (by omega), e 4 (by omega), e 5 (by omega), sgn0, sgn1, sgn2, sgn3, sgn4, sgn5]; omega
  · simp only [ssumK, e 0 (by omega), e 1 (by omega), e 2 (by omega), e 3 (by omega), e 4 (by omega), e 5 (by omega), e 6 (by omega), sgn0, sgn1, sgn2, sgn3, sgn4, sgn5, sgn6]; omega

/-! ### faces of one point are the used points -/

theorem sub_bit (t i : Nat) (ht : t < 64) (hi : i < 6) : sub (2 ^ i) t = t.testBit i := by
  have H : ∀ (t : Fin 64) (i : Fin 6), sub (2 ^ i.val) t.val = t.val.testBit i.val := by decide +kernel
  exact H ⟨t, ht⟩ ⟨i, hi⟩
theorem orN_bit (i : Nat) : ∀ (xs : List Int) (a : Nat), (xs.foldl (fun a x => a ||| x.toNat) a).testBit i = (a.testBit i || xs.any fun x => x.toNat.testBit i)
  | [], a => by simp
  | x :: xs, a => by
    rw [List.foldl_cons, orN_bit i xs, Nat.testBit_or, List.any_cons, Bool.or_assoc]
theorem inF_bit (xs : List Int) (h : allOk xs = true) (i : Nat) (hi : i < 6) : inF xs (2 ^ i) = (orN xs).testBit i := by
  unfold orN
  rw [orN_bit, Nat.zero_testBit, Bool.false_or]
  unfold inF
  rw [Bool.eq_iff_iff, List.any_eq_true, List.any_eq_true]
  unfold allOk at h
  constructor
  · rintro ⟨x, hx, e⟩
    obtain ⟨t, rfl, ht⟩ := okZ_cast x (List.all_eq_true.1 h x hx)
    exact ⟨_, hx, by show t.testBit i = true; rw [← sub_bit _ i ht hi]; exact e⟩
  · rintro ⟨x, hx, e⟩
    obtain ⟨t, rfl, ht⟩ := okZ_cast x (List.all_eq_true.1 h x hx)
    exact ⟨_, hx, by show sub (2 ^ i) t = true; rw [sub_bit _ i ht hi]; exact e⟩
theorem cnt1_ord (p : Nat → Bool) : cnt 1 (ord p) = ([1, 2, 4, 8, 16, 32] : List Int).countP fun x => p x.toNat := by
  have e : (ord fun _ => true).filter (fun x => pc x.toNat == 1) = [1, 2, 4, 8, 16, 32] := by decide +kernel
  rw [← e, List.countP_filter, ord_filter p]
  unfold cnt
  rw [List.countP_filter]
  apply List.countP_congr
  intro x _
  rw [Bool.and_comm]
theorem pc_bits (u : Nat) (h : u < 64) : pc u = ([1, 2, 4, 8, 16, 32] : List Int).countP fun x => u.testBit (pc (x.toNat - 1)) := by
  have H : ∀ u : Fin 64, pc u.val = ([1, 2, 4, 8, 16, 32] : List Int).countP fun x => u.val.testBit (pc (x.toNat - 1)) := by decide +kernel
  exact H ⟨u, h⟩
theorem cnt1_used {n : Int} {xs : List Int} (h : isC n xs = true) : cnt 1 (faces n xs) = pc (orN xs) := by
  have hok := isC_ok h
  have hF : faces n xs = ord (inF xs) := by unfold faces; rw [if_pos h]
  rw [hF, cnt1_ord, pc_bits _ (orN_lt xs hok)]
  apply List.countP_congr
  intro x hx
  have e : x.toNat = 2 ^ pc (x.toNat - 1) ∧ pc (x.toNat - 1) < 6 := by
    simp only [List.mem_cons, List.not_mem_nil, or_false] at hx
    rcases hx with rfl | rfl | rfl | rfl | rfl | rfl <;> decide
  have hb := inF_bit xs hok (pc (x.toNat - 1)) e.2
  rw [← e.1] at hb
  rw [hb]
/-- The law's last comparison. -/
theorem cnt1_size (n : Int) (xs : List Int) : (cnt 1 (faces n xs) : Int) = sizeZ (used n xs) := by
  cases h : isC n xs with
  | true =>
    have hu : used n xs = (orN xs : Int) := by unfold used; rw [if_pos h]
    rw [hu, sizeZ_nat _ (orN_lt xs (isC_ok h)), cnt1_used h]
  | false =>
    have hu : used n xs = 0 := by unfold used; rw [if_neg (by rw [h]; simp)]
    have hf : faces n xs = [] := by unfold faces; rw [if_neg (by rw [h]; simp)]
    rw [hu, hf]; rfl
/-- The law's first one. -/
theorem counts_dim (n : Int) (xs : List Int) : ((counts (faces n xs)).length : Int) = dimZ n xs + 2 := by
  rw [counts_length]
  cases h : isC n xs with
  | true =>
    by_cases h0 : 0 < xs.length
    · exact faces_top h h0
    · have : xs = [] := List.eq_nil_of_length_eq_zero (by omega)
      subst this
      rw [faces_nil, dimZ_nil]; rfl
  | false =>
    have hf : faces n xs = [] := by unfold faces; rw [if_neg (by rw [h]; simp)]
    rw [hf, dimZ_no h]; rfl
theorem dim_range (n : Int) (xs : List Int) : -2 ≤ dimZ n xs ∧ dimZ n xs ≤ 5 := by
  have h := counts_dim n xs
  rw [counts_length] at h
  have := top_le (faces n xs)
  omega

end Go.Proofs.YtenpcjmhlnalcaaGreat

/-! WALK of chapter 14 (spec): parts counted one after another. -/

namespace Go.Proofs.YtenpcjmhlnalcaaGreat
open Go.RowKit
open Sets Lin Hom

/-- CountParts. -/
def partsZ (n : Int) (xs : List Int) : Int := if isC n xs = true then (partsN (inF xs) : Int) else 0
theorem partsZ_yes {n : Int} {xs : List Int} (h : isC n xs = true) : partsZ n xs = (partsN (inF xs) : Int) := if_pos h
theorem partsZ_no {n : Int} {xs : List Int} (h : isC n xs = false) : partsZ n xs = 0 := if_neg (by rw [h]; simp)
theorem low_bits : ∀ P : Fin 64, bits BinOp.and IntKind.i64 (P.val : Int) (-(P.val : Int)) = ((loP P.val : Nat) : Int) := by decide +kernel
theorem low_point : ∀ P : Fin 64, 0 < P.val → loP P.val < 64 ∧ pc (loP P.val) = 1 ∧ sub (loP P.val) P.val = true := by decide +kernel
theorem card_le6 (q : Nat → Bool) : (J q 1).length ≤ 6 := by
  have e : J q 1 = ((List.range 64).filter fun s => pc s == 1).filter q := by
    unfold J
    rw [List.filter_filter]
    exact List.filter_congr fun s _ => Bool.and_comm _ _
  rw [e]
  exact Nat.le_trans (List.length_filter_le _ _) (by decide +kernel)
theorem Grown.sup {q : Nat → Bool} {m C : Nat} (h : Grown q m C) : C < 64 := h.1
/-- What is left: shut, and of points only. -/
def Left (q : Nat → Bool) (P : Nat) : Prop := P < 64 ∧ shut q P = true ∧ ∀ v : Fin 6, sub (2 ^ v.val) P = true → 2 ^ v.val ∈ J q 1
theorem Left.low {q : Nat → Bool} {P : Nat} (h : Left q P) (h0 : 0 < P) : loP P ∈ J q 1 ∧ sub (loP P) P = true := by
  obtain ⟨b1, b2, b3⟩ := low_point ⟨P, h.1⟩ h0
  obtain ⟨v, hv⟩ := one_bits ⟨_, b1⟩ b2
  dsimp only at hv b3
  rw [hv] at b3 ⊢
  exact ⟨h.2.2 v b3, b3⟩
theorem Left.less {q : Nat → Bool} {P C : Nat} (h : Left q P) (h0 : 0 < P) (hC : Grown q (loP P) C) (hs : shut q C = true) : Left q (P - (P &&& C)) ∧ cntR q P = cntR q (P - (P &&& C)) + 1 ∧ P - (P &&& C) < P := by
  obtain ⟨l1, l2⟩ := h.low h0
  refine ⟨⟨by have := h.1; omega, shut_off h.1 hC.1 h.2.1 hs, fun v hv => h.2.2 v ?_⟩, cntR_step h.1 hC.1 h.2.1 l1 l2 (hC.part hs), ?_⟩
  · have := (sub_off h.1 hC.1 (s := 2 ^ v.val) ⟨v, rfl⟩).symm.trans hv
    rw [Bool.and_eq_true] at this
    exact this.1
  · obtain ⟨v, hv⟩ := point_J l1
    have : P &&& C ≠ 0 := sub_both (a := loP P) (by rw [hv]; exact two_pow_ne _) l2 hC.2.1
    omega
theorem Left.start {n : Int} {xs : List Int} (h : isC n xs = true) : Left (inF xs) (orN xs) ∧ cntR (inF xs) (orN xs) = partsN (inF xs) := by
  have hlt := orN_lt xs (isC_ok h)
  have hin : ∀ f, f ∈ xs → sub f.toNat (orN xs) = true := fun f hf => by
    unfold sub
    rw [beq_iff_eq]
    refine Nat.eq_of_testBit_eq fun i => ?_
    rw [Nat.testBit_and]
    cases e : f.toNat.testBit i with
    | false => rfl
    | true =>
      have := orN_bit i xs 0
      unfold orN
      rw [this, List.any_eq_true.2 ⟨f, hf, e⟩]
      simp
  have hsh : shut (inF xs) (orN xs) = true := shut_facets fun f hf _ => hin f hf
  refine ⟨⟨hlt, hsh, fun v hv => ?_⟩, cntR_all fun s hs => ?_⟩
  · obtain ⟨b1, b2⟩ := bit_one v
    refine (mem_J _ 1 _).2 ⟨b1, b2, ?_⟩
    have h1 : (orN xs).testBit v.val = true := by
      have H : ∀ (v : Fin 6) (P : Fin 64), sub (2 ^ v.val) P.val = true → P.val.testBit v.val = true := by decide +kernel
      exact H v ⟨_, hlt⟩ hv
    unfold orN at h1
    rw [orN_bit] at h1
    simp only [Nat.zero_testBit, Bool.false_or] at h1
    obtain ⟨f, hf, hb⟩ := List.any_eq_true.1 h1
    unfold inF
    refine List.any_eq_true.2 ⟨f, hf, ?_⟩
    unfold sub
    rw [beq_iff_eq]
    refine Nat.eq_of_testBit_eq fun i => ?_
    rw [Nat.testBit_and, Nat.testBit_two_pow]
    by_cases e : v.val = i
    · subst e; simp [hb]
    · simp [e]
  · obtain ⟨s1, s2, s3⟩ := (mem_J _ 1 s).1 hs
    unfold inF at s3
    obtain ⟨f, hf, hsf⟩ := List.any_eq_true.1 s3
    exact sub_trans hsf (hin f hf)
/-- One round over the facets: the first j are gathered. -/
def Round (xs : List Int) (C N j : Nat) : Prop := sub C N = true ∧ ∀ i, i < j → (xs.getD i 0).toNat &&& C ≠ 0 → sub (xs.getD i 0).toNat N = true
theorem Round.start (xs : List Int) (C : Nat) : Round xs C C 0 := ⟨by simp [sub], fun i hi => absurd hi (Nat.not_lt_zero _)⟩
theorem Round.skip {xs : List Int} {C N j : Nat} (h : Round xs C N j) (hm : (xs.getD j 0).toNat &&& C = 0) : Round xs C N (j + 1) :=
  ⟨h.1, fun i hi hm2 => by
    by_cases e : i = j
    · subst e; exact absurd hm hm2
    · exact h.2 i (by omega) hm2⟩
theorem sub_orl {a N f : Nat} (h : sub a N = true) : sub a (N ||| f) = true := by
  unfold sub at *
  rw [beq_iff_eq] at *
  refine Nat.eq_of_testBit_eq fun i => ?_
  rw [Nat.testBit_and, Nat.testBit_or]
  have : (a &&& N).testBit i = a.testBit i := by rw [h]
  rw [Nat.testBit_and] at this
  cases e : a.testBit i
  · rfl
  · rw [e] at this; simp at this; simp [this]
theorem sub_orr (N f : Nat) : sub f (N ||| f) = true := by
  unfold sub
  rw [beq_iff_eq]
  refine Nat.eq_of_testBit_eq fun i => ?_
  rw [Nat.testBit_and, Nat.testBit_or]
  cases f.testBit i <;> simp
theorem Round.take {xs : List Int} {C N j : Nat} (h : Round xs C N j) : Round xs C (N ||| (xs.getD j 0).toNat) (j + 1) :=
  ⟨sub_orl h.1, fun i hi hm2 => by
    by_cases e : i = j
    · subst e; exact sub_orr _ _
    · exact sub_orl (h.2 i (by omega) hm2)⟩
theorem Round.shut {xs : List Int} {C : Nat} (h : Round xs C C xs.length) : shut (inF xs) C = true := shut_facets fun f hf hm => by
  obtain ⟨i, hi, rfl⟩ := List.mem_iff_getElem.1 hf
  have e : xs.getD i 0 = xs[i] := by simp [List.getD, List.getElem?_eq_getElem hi]
  rw [← e] at hm ⊢
  exact h.2 i hi hm
theorem facet_in {xs : List Int} {j : Nat} (hj : j < xs.length) : inF xs (xs.getD j 0).toNat = true := by
  unfold inF
  refine List.any_eq_true.2 ⟨xs.getD j 0, ?_, by simp [sub]⟩
  rw [List.getD, List.getElem?_eq_getElem hj]; exact List.getElem_mem hj

set_option maxRecDepth 100000 in
set_option maxHeartbeats 4000000 in
theorem specParts_any (n : Int) (a : Option Addr) (c : Nat) (xs : List Int) (hlen : xs.length ≤ 1099511627776) (w : World) (h : Ints w a xs) :
    Calls Tryz.prog 19 #[cx n (.slice a xs.length c)] w fun e w' => e = .returned (.int .i64 (partsZ n xs)) ∧ Below w.heap.size w w' := by
  have hb0 : Below w.heap.size w (w.alloc (Obj.cells #[Value.int IntKind.i64 n, Value.slice a xs.length c] 26)) := (Below.refl _ _).alloc (Nat.le_refl _) _
  have htwo := Two.new w (.int .i64 n) (.slice a xs.length c) 26
  have H := Lib.hid (h.keeps hb0)
  have HB0 := Lib.hid hb0
  have HT := Lib.hid htwo
  clear h hb0 htwo
  cases hC : isC n xs with
  | false =>
    have HU := Lib.hid (used_no hC)
    have HF := Lib.hid (partsZ_no hC)
    clear hC
    go_enter Tryz.func19, Tryz.ntmps19
    obtain ⟨t0, t1, t2, _, _⟩ := HT.out
    go_wp2_with fail
    refine (specUsed_any n a c xs hlen _ H.out).mono ?_
    rw [HU.out]
    rintro e w1 ⟨rfl, hb1⟩
    have HB1 : Hid (Below w.heap.size w w1) := HB0.out.trans (hb1.mono HB0.out.size)
    clear hb1 t0 t1 t2
    go_wp2
    refine wp_loop_rounds 1 ?_
    rw [rounds_succ]
    go_wp2
    go_ret
    exact ⟨by rw [HF.out]; rfl, HB1.out⟩
  | true =>
    have HU := Lib.hid (used_yes hC)
    have HF := Lib.hid (partsZ_yes hC)
    have HC := Lib.hid hC
    obtain ⟨hL, hS⟩ := Left.start hC
    have HQ := Lib.hid (inF_down xs)
    obtain ⟨P0, hP0⟩ : ∃ P, orN xs = P := ⟨_, rfl⟩
    rw [hP0] at HU hL hS
    have HS := Lib.hid hS
    have HL := Lib.hid hL
    clear hC hP0 hL hS
    go_enter Tryz.func19, Tryz.ntmps19
    obtain ⟨t0, t1, t2, _, _⟩ := HT.out
    go_wp2_with fail
    refine (specUsed_any n a c xs hlen _ H.out).mono ?_
    rw [HU.out]
    rintro e w1 ⟨rfl, hb1⟩
    have HB1 : Hid (Below w.heap.size w w1) := HB0.out.trans (hb1.mono HB0.out.size)
    have H1 := Lib.hid (H.out.keeps hb1)
    have HT1 := Lib.hid (HT.out.keeps hb1)
    clear hb1 t0 t1 t2
    obtain ⟨t0, t1, t2, _, _⟩ := HT1.out
    go_wp2
    go_loopw [3, 4] (fun kv pv wr => ∃ k P : Nat, kv = .int .i64 (k : Int) ∧ pv = .int .i64 (P : Int) ∧ Left (inF xs) P ∧ k + cntR (inF xs) P = partsN (inF xs) ∧ w1 = wr) (fun _ pv _ => (intOf pv).toNat)
    case atStart => exact ⟨0, P0, rfl, rfl, HL.out, by rw [HS.out]; omega, rfl⟩
    case round =>
      obtain ⟨k, P, rfl, rfl, hL, hS, rfl⟩ := hrel
      have HL := Lib.hid hL
      have HS := Lib.hid hS
      have hk6 : k ≤ 6 := by
        have h1 : partsN (inF xs) ≤ 6 := by
          refine Nat.le_trans (List.length_filter_le _ _) ?_
          exact card_le6 _
        omega
      have hP64 := hL.1
      clear hL hS
      by_cases h0 : 0 < P
      · have hd : decide ((0 : Int) < (P : Int)) = true := by simpa using h0
        have hlow := low_bits ⟨P, hP64⟩
        have hwn : IntKind.i64.wrap (-(P : Int)) = -(P : Int) := IntWalk.i64_in _ (by omega)
        obtain ⟨l1, l2⟩ := HL.out.low h0
        obtain ⟨m, hm⟩ : ∃ m, loP P = m := ⟨_, rfl⟩
        have HM := Lib.hid hm
        have HG0 := Lib.hid (Grown.start l1)
        rw [hm] at hlow HG0
        have HLOW : Hid (bits BinOp.and IntKind.i64 (P : Int) (-(P : Int)) = (m : Int)) := hlow
        have hlow2 := HLOW.out
        clear l1 l2 hm hlow
        go_wp2
        go_loopw [5] (fun cv wr => ∃ C : Nat, cv = .int .i64 (C : Int) ∧ Grown (inF xs) m C ∧ w1 = wr) (fun cv _ => 64 - (intOf cv).toNat)
        case atStart => exact ⟨m, rfl, HG0.out, rfl⟩
        case round =>
          obtain ⟨C, rfl, hG, rfl⟩ := hrel
          have HG := Lib.hid hG
          have hC64 := hG.1
          clear hG
          go_wp2
          go_loopw [6, 7] (fun nv iv wr => ∃ N j : Nat, nv = .int .i64 (N : Int) ∧ iv = .int .i64 (j : Int) ∧ j ≤ xs.length ∧ Grown (inF xs) m N ∧ Round xs C N j ∧ w1 = wr) (fun _ iv _ => xs.length - (intOf iv).toNat)
          case atStart => exact ⟨C, 0, rfl, rfl, Nat.zero_le _, HG.out, Round.start _ _, rfl⟩
          case round =>
            obtain ⟨N, j, rfl, rfl, hj, hN, hR, rfl⟩ := hrel
            have HN := Lib.hid hN
            have HR := Lib.hid hR
            have hN64 := hN.1
            clear hN hR
            by_cases hlt : j < xs.length
            · have hdj : decide ((j : Int) < (xs.length : Int)) = true := by simpa using hlt
              obtain ⟨b0, o, ea, g⟩ := H1.out j hlt
              obtain ⟨t, ht, ht64⟩ := isC_at HC.out j hlt
              have HFI := Lib.hid (facet_in hlt)
              have HSK := Lib.hid (fun hh => HR.out.skip hh)
              have HTK := Lib.hid HR.out.take
              rw [ht] at g HFI HSK HTK
              simp only [Int.toNat_natCast] at HFI HSK HTK
              subst ea
              have hand := and_nat t C ht64 hC64
              have hor := or_nat N t hN64 ht64
              clear ht
              by_cases hm : t &&& C = 0
              · have hz : (((t &&& C : Nat) : Int) == 0) = true := by rw [hm]; rfl
                have hz2 : (((t &&& C : Nat) : Int) != 0) = false := by rw [hm]; rfl
                go_wp2
                go_roundw
                case rel => exact ⟨N, j + 1, rfl, by go_num, by omega, HN.out, HSK.out hm, trivial⟩
                case measure => simp [intOf]; omega
              · have hz : (((t &&& C : Nat) : Int) == 0) = false := by rw [beq_eq_false_iff_ne]; omega
                have hz2 : (((t &&& C : Nat) : Int) != 0) = true := by rw [bne_iff_ne]; omega
                go_wp2
                go_roundw
                case rel => exact ⟨N ||| t, j + 1, rfl, by go_num, by omega, Grown.next HQ.out HG.out HN.out ht64 HFI.out hm, HTK.out, trivial⟩
                case measure => simp [intOf]; omega
            · have hdj : decide ((j : Int) < (xs.length : Int)) = false := by simpa using hlt
              have hjl : j = xs.length := by omega
              subst hjl
              by_cases he : N = C
              · subst he
                have hsh := HR.out.shut
                obtain ⟨q1, q2, q3⟩ := HL.out.less h0 (by rw [HM.out]; exact HN.out) hsh
                have hand := and_nat P N hP64 hN64
                have hle : P &&& N ≤ P := Nat.and_le_left
                have HQ1 := Lib.hid q1
                have HQ2 := Lib.hid q2
                have hws : IntKind.i64.wrap ((P : Int) - ((P &&& N : Nat) : Int)) = ((P - (P &&& N) : Nat) : Int) := by rw [IntWalk.i64_in _ (by omega)]; omega
                have hws2 : (P : Int) - ((P &&& N : Nat) : Int) = ((P - (P &&& N) : Nat) : Int) := by omega
                clear hsh q1 q2
                go_wp2
                go_roundw
                case rel => exact ⟨k + 1, P - (P &&& N), by go_num, by go_num, HQ1.out, by have := HS.out; have := HQ2.out; omega, trivial⟩
                case measure => simp [intOf]; omega
              · have hz : ((N : Int) == (C : Int)) = false := by rw [beq_eq_false_iff_ne]; omega
                have hz2 : decide (N = C) = false := decide_eq_false he
                have hle : C ≤ N := by
                  have := HR.out.1
                  unfold sub at this
                  rw [beq_iff_eq] at this
                  rw [← this]; exact Nat.and_le_right
                go_wp2
                go_roundw
                case rel => exact ⟨N, rfl, HN.out, trivial⟩
                case measure => simp [intOf]; omega
      · have hd : decide ((0 : Int) < (P : Int)) = false := by simpa using h0
        have hP0 : P = 0 := by omega
        subst hP0
        have E : Hid (k = partsN (inF xs)) := by have := HS.out; rw [cntR_none] at this; exact this
        go_wp2
        go_ret
        exact ⟨by rw [HF.out, E.out]; rfl, HB1.out⟩

end Go.Proofs.YtenpcjmhlnalcaaGreat

/-! HOLES: a cone at any point has none. -/

namespace Go.Proofs.YtenpcjmhlnalcaaGreat
open Sets Lin

namespace Hom

theorem Card.inj_le {α β : Type} {S : α → Prop} {T : β → Prop} {c d : Nat} (h : Card S c) (h' : Card T d) (f : α → β) (hf : ∀ x, S x → T (f x)) (hi : ∀ x y, S x → S y → f x = f y → x = y) : c ≤ d := by
  obtain ⟨l, hn, hm, rfl⟩ := h
  have h2 : Card (fun z => z ∈ l.map f) l.length := ⟨l.map f, nodup_map_of f l hn fun a ha b hb e => hi a b ((hm a).1 ha) ((hm b).1 hb) e, fun _ => Iff.rfl, List.length_map ..⟩
  refine h'.mono h2 fun z hz => ?_
  obtain ⟨x, hx, rfl⟩ := List.mem_map.1 hz
  exact hf x ((hm x).1 hx)

/-- The faces of k points without the point m. -/
def offJ (q : Nat → Bool) (m k : Nat) : List Nat := (J q k).filter fun s => s &&& m == 0
def onJ (q : Nat → Bool) (m k : Nat) : List Nat := (J q k).filter fun s => !(s &&& m == 0)
theorem off_on (q : Nat → Bool) (m k : Nat) : (offJ q m k).length + (onJ q m k).length = fN q k := by
  unfold offJ onJ fN
  generalize J q k = l
  induction l with
  | nil => rfl
  | cons s l ih =>
    rw [List.filter_cons, List.filter_cons]
    cases (s &&& m == 0) with
    | true => simp only [if_true, Bool.not_true, Bool.false_eq_true, if_false, List.length_cons]; omega
    | false => simp only [if_true, Bool.not_false, Bool.false_eq_true, if_false, List.length_cons]; omega
theorem pt_add : ∀ (v : Fin 6) (s : Fin 64), s.val &&& 2 ^ v.val = 0 → (s.val ||| 2 ^ v.val) < 64 ∧ pc (s.val ||| 2 ^ v.val) = pc s.val + 1 ∧ (s.val ||| 2 ^ v.val) &&& 2 ^ v.val ≠ 0 ∧ (s.val ||| 2 ^ v.val) ^^^ 2 ^ v.val = s.val := by decide +kernel
theorem pt_off : ∀ (v : Fin 6) (s : Fin 64), s.val &&& 2 ^ v.val ≠ 0 → (s.val ^^^ 2 ^ v.val) < 64 ∧ pc (s.val ^^^ 2 ^ v.val) + 1 = pc s.val ∧ (s.val ^^^ 2 ^ v.val) &&& 2 ^ v.val = 0 ∧ (s.val ^^^ 2 ^ v.val) ||| 2 ^ v.val = s.val ∧ sub (s.val ^^^ 2 ^ v.val) s.val = true := by decide +kernel
theorem pt_only : ∀ (v : Fin 6) (t s : Fin 64), t.val &&& 2 ^ v.val = 0 → sub t.val s.val = true → pc s.val = pc t.val + 1 → s.val &&& 2 ^ v.val ≠ 0 → s.val = t.val ||| 2 ^ v.val := by decide +kernel
theorem on_off {q : Nat → Bool} (hq : Down q) (v : Fin 6) (hc : ∀ s, s < 64 → q s = true → q (s ||| 2 ^ v.val) = true) (k : Nat) : (onJ q (2 ^ v.val) (k + 1)).length = (offJ q (2 ^ v.val) k).length := by
  have h1 : Card (fun s => s ∈ offJ q (2 ^ v.val) k) (offJ q (2 ^ v.val) k).length := ⟨_, (J_nodup q k).filter _, fun _ => Iff.rfl, rfl⟩
  have h2 : Card (fun s => s ∈ onJ q (2 ^ v.val) (k + 1)) (onJ q (2 ^ v.val) (k + 1)).length := ⟨_, (J_nodup q (k + 1)).filter _, fun _ => Iff.rfl, rfl⟩
  have m1 : ∀ s, s ∈ offJ q (2 ^ v.val) k ↔ (s < 64 ∧ pc s = k ∧ q s = true) ∧ s &&& 2 ^ v.val = 0 := fun s => by
    unfold offJ; rw [List.mem_filter, mem_J, beq_iff_eq]
  have m2 : ∀ s, s ∈ onJ q (2 ^ v.val) (k + 1) ↔ (s < 64 ∧ pc s = k + 1 ∧ q s = true) ∧ s &&& 2 ^ v.val ≠ 0 := fun s => by
    unfold onJ; rw [List.mem_filter, mem_J]; simp
  refine (h2.unique (h1.bij (fun s => s ||| 2 ^ v.val) (fun s => s ^^^ 2 ^ v.val) ?_ ?_ ?_ ?_))
  · intro s hs
    obtain ⟨⟨a1, a2, a3⟩, a4⟩ := (m1 s).1 hs
    obtain ⟨b1, b2, b3, _⟩ := pt_add v ⟨s, a1⟩ a4
    exact (m2 _).2 ⟨⟨b1, b2.trans (by rw [← a2]), hc s a1 a3⟩, b3⟩
  · intro s hs
    obtain ⟨⟨a1, a2, a3⟩, a4⟩ := (m2 s).1 hs
    obtain ⟨b1, b2, b3, _, b5⟩ := pt_off v ⟨s, a1⟩ a4
    try dsimp only at b2
    exact (m1 _).2 ⟨⟨b1, by omega, hq _ s b1 a1 b5 a3⟩, b3⟩
  · intro s hs
    obtain ⟨⟨a1, _, _⟩, a4⟩ := (m1 s).1 hs
    exact (pt_add v ⟨s, a1⟩ a4).2.2.2
  · intro s hs
    obtain ⟨⟨a1, _, _⟩, a4⟩ := (m2 s).1 hs
    exact (pt_off v ⟨s, a1⟩ a4).2.2.2.1
theorem on_zero (q : Nat → Bool) (m : Nat) : onJ q m 0 = [] := by
  unfold onJ
  rw [List.filter_eq_nil_iff]
  intro s hs
  obtain ⟨h1, h2, _⟩ := (mem_J q 0 s).1 hs
  have := pc_zero ⟨s, h1⟩
  try dsimp only at this
  rw [h2] at this
  have h0 : s = 0 := by simpa using this.symm
  subst h0
  simp
/-- A cycle of a cone is told by what lies off the apex. -/
theorem cone_rank {p : Nat} (hP : IsP p) {q : Nat → Bool} (hq : Down q) (v : Fin 6) (hc : ∀ s, s < 64 → q s = true → q (s ||| 2 ^ v.val) = true) (k : Nat) : (offJ q (2 ^ v.val) k).length ≤ rk p q (k + 1) := by
  obtain ⟨h1, l1⟩ := card_cyc hP hq (k + 1)
  have hn : (offJ q (2 ^ v.val) (k + 1)).Nodup := (J_nodup q (k + 1)).filter _
  have hle := Card.inj_le h1 (card_vec p _ hn) (fun y s => if s ∈ offJ q (2 ^ v.val) (k + 1) then y s else 0)
    (fun y hy => ⟨fun s hs => by dsimp only; rw [if_pos hs]; exact hy.1.1 s (List.mem_filter.1 hs).1, fun s hs => if_neg hs⟩)
    (fun x y hx hy e => by
      have hA : ∀ s, s ∈ offJ q (2 ^ v.val) (k + 1) → x s = y s := fun s hs => by
        have := congrFun e s
        try dsimp only at this
        rw [if_pos hs, if_pos hs] at this
        exact this
      funext s
      by_cases hs : s ∈ J q (k + 1)
      · by_cases hm : s &&& 2 ^ v.val = 0
        · exact hA s (List.mem_filter.2 ⟨hs, by rw [hm]; rfl⟩)
        · obtain ⟨a1, a2, a3⟩ := (mem_J q (k + 1) s).1 hs
          obtain ⟨b1, b2, b3, b4, b5⟩ := pt_off v ⟨s, a1⟩ hm
          try dsimp only at b1 b2 b3 b4 b5
          obtain ⟨t, ht⟩ : ∃ t, s ^^^ 2 ^ v.val = t := ⟨_, rfl⟩
          rw [ht] at b1 b2 b3 b4 b5
          have hsum : bd x t - bd y t = sgn t s * (x s - y s) := by
            have e1 : bd x t = bd (fun u => (x u - y u) + y u) t := bd_congr t fun u _ _ _ => by omega
            have e2 : bd (fun u => x u - y u) t = sm (J q (k + 1)) fun u => sgn t u * (x u - y u) := by
              unfold bd S J
              rw [sm_filter]
              refine sm_congr _ _ _ fun u hu => ?_
              split
              · rfl
              · rename_i hn
                have hu2 : u ∉ J q (k + 1) := fun hm2 => by unfold J at hm2; exact absurd (List.mem_filter.1 hm2).2 hn
                show sgn t u * (x u - y u) = 0
                rw [hx.1.2 u hu2, hy.1.2 u hu2]; simp
            rw [e1, bd_add, e2]
            rw [sm_one s (fun u => sgn t u * (x u - y u)) _ (J_nodup q (k + 1)) hs fun u hu hus => by
              obtain ⟨u1, u2, _⟩ := (mem_J q (k + 1) u).1 hu
              try dsimp only
              by_cases hum : u &&& 2 ^ v.val = 0
              · rw [hA u (List.mem_filter.2 ⟨hu, by rw [hum]; rfl⟩)]; simp
              · rw [sgn_zero fun hh => hus ((pt_only v ⟨t, b1⟩ ⟨u, u1⟩ b3 hh.1 hh.2 hum).trans b4)]; simp]
            omega
          have hd : (p : Int) ∣ sgn t s * (x s - y s) := by
            rw [← hsum]; exact Int.dvd_sub (hx.2 t b1) (hy.2 t b1)
          have hs1 : sgn t s = 1 ∨ sgn t s = -1 := by
            unfold sgn
            rw [if_pos ⟨b5, by omega⟩]
            omega
          refine vec_ext hx.1 hy.1 s ?_
          rcases hs1 with h | h
          · rw [h, Int.one_mul] at hd; exact hd
          · rw [h] at hd
            have : (p : Int) ∣ -(-1 * (x s - y s)) := Int.dvd_neg.2 hd
            rw [show -(-1 * (x s - y s)) = x s - y s by omega] at this
            exact this
      · rw [hx.1.2 s hs, hy.1.2 s hs])
  have := (Nat.pow_le_pow_iff_right hP.1).1 hle
  have e1 := off_on q (2 ^ v.val) (k + 1)
  have e2 := on_off hq v hc k
  unfold fN at e1
  omega
/-- CONES HAVE NO HOLES. -/
theorem cone_none {p : Nat} (hP : IsP p) {q : Nat → Bool} (hq : Down q) (v : Fin 6) (hc : ∀ s, s < 64 → q s = true → q (s ||| 2 ^ v.val) = true) (k : Nat) : hol p q k = 0 := by
  have r0 := cone_rank hP hq v hc k
  have n0 := rk_rk hP hq k
  cases k with
  | zero =>
    have e1 := off_on q (2 ^ v.val) 0
    rw [on_zero] at e1
    have : rk p q 0 = 0 := rfl
    unfold hol
    simp at e1
    omega
  | succ k =>
    have r1 := cone_rank hP hq v hc (k)
    have e1 := off_on q (2 ^ v.val) (k + 1)
    have e2 := on_off hq v hc k
    unfold hol
    omega

end Hom
end Go.Proofs.YtenpcjmhlnalcaaGreat

/-! JOINS, of no program: the faces of joins, of disjoint unions, of cross complexes. -/

namespace Go.Proofs.YtenpcjmhlnalcaaGreat
namespace Join
open Sets Lin Hom

theorem sub_parts {n f g s : Nat} (hf : f < 2 ^ n) : sub s (f + 2 ^ n * g) = (sub (s % 2 ^ n) f && sub (s / 2 ^ n) g) := by
  rw [Bool.eq_iff_iff, Bool.and_eq_true, sub_iff, sub_iff, sub_iff, Nat.add_comm]
  constructor
  · intro h
    constructor
    · intro i hi
      rw [Nat.testBit_mod_two_pow, Bool.and_eq_true, decide_eq_true_eq] at hi
      have := h i hi.2
      rwa [Nat.testBit_two_pow_mul_add _ hf, if_pos hi.1] at this
    · intro i hi
      rw [Nat.testBit_div_two_pow] at hi
      have := h _ hi
      rwa [Nat.testBit_two_pow_mul_add _ hf, if_neg (by omega), show i + n - n = i by omega] at this
  · rintro ⟨h1, h2⟩ i hi
    rw [Nat.testBit_two_pow_mul_add _ hf]
    by_cases e : i < n
    · rw [if_pos e]; exact h1 i (by rw [Nat.testBit_mod_two_pow, decide_eq_true e, hi]; rfl)
    · rw [if_neg e]; exact h2 (i - n) (by rw [Nat.testBit_div_two_pow, show i - n + n = i by omega]; exact hi)

/-- The sets of a join: each facet of the one with each of the other. -/
def pairs (n : Nat) (xs ys : List Int) : List Int := xs.flatMap fun x => ys.map fun y => x + 2 ^ n * y
def disQ (n : Nat) (q r : Nat → Bool) (s : Nat) : Bool := (decide (s < 2 ^ n) && q s) || (s % 2 ^ n == 0 && r (s / 2 ^ n))
def both (n : Nat) (xs ys : List Int) : List Int := xs ++ ys.map fun y => 2 ^ n * y

theorem inF_pairs {n : Nat} {xs ys : List Int} (hx : ∀ x, x ∈ xs → ∃ f : Nat, x = (f : Int) ∧ f < 2 ^ n) (hy : ∀ y, y ∈ ys → ∃ g : Nat, y = (g : Int)) (s : Nat) : inF (pairs n xs ys) s = joinQ n (inF xs) (inF ys) s := by
  unfold joinQ
  rw [Bool.eq_iff_iff, Bool.and_eq_true, inF_iff, inF_iff, inF_iff]
  unfold pairs
  constructor
  · rintro ⟨z, hz, hs⟩
    obtain ⟨x, hx', hz⟩ := List.mem_flatMap.1 hz
    obtain ⟨y, hy', rfl⟩ := List.mem_map.1 hz
    obtain ⟨f, rfl, hf⟩ := hx x hx'
    obtain ⟨g, rfl⟩ := hy y hy'
    have e : ((f : Int) + 2 ^ n * (g : Int)).toNat = f + 2 ^ n * g := by
      rw [show (2 : Int) ^ n * (g : Int) = ((2 ^ n * g : Nat) : Int) by push_cast; rfl]; omega
    rw [e, sub_parts hf, Bool.and_eq_true] at hs
    exact ⟨⟨_, hx', hs.1⟩, ⟨_, hy', hs.2⟩⟩
  · rintro ⟨⟨x, hx', h1⟩, ⟨y, hy', h2⟩⟩
    obtain ⟨f, rfl, hf⟩ := hx x hx'
    obtain ⟨g, rfl⟩ := hy y hy'
    refine ⟨(f : Int) + 2 ^ n * (g : Int), List.mem_flatMap.2 ⟨_, hx', List.mem_map.2 ⟨_, hy', rfl⟩⟩, ?_⟩
    have e : ((f : Int) + 2 ^ n * (g : Int)).toNat = f + 2 ^ n * g := by
      rw [show (2 : Int) ^ n * (g : Int) = ((2 ^ n * g : Nat) : Int) by push_cast; rfl]; omega
    rw [e, sub_parts hf, Bool.and_eq_true]
    exact ⟨h1, h2⟩

theorem inF_both {n : Nat} {xs ys : List Int} (hx : ∀ x, x ∈ xs → ∃ f : Nat, x = (f : Int) ∧ f < 2 ^ n) (hy : ∀ y, y ∈ ys → ∃ g : Nat, y = (g : Int)) (s : Nat) : inF (both n xs ys) s = disQ n (inF xs) (inF ys) s := by
  have h2 := Nat.two_pow_pos n
  unfold disQ both
  rw [Bool.eq_iff_iff, Bool.or_eq_true, Bool.and_eq_true, Bool.and_eq_true, decide_eq_true_eq, beq_iff_eq, inF_iff, inF_iff, inF_iff]
  have e : ∀ g : Nat, ((2 : Int) ^ n * (g : Int)).toNat = 0 + 2 ^ n * g := fun g => by
    rw [show (2 : Int) ^ n * (g : Int) = ((2 ^ n * g : Nat) : Int) by push_cast; rfl]; omega
  have z : ∀ t : Nat, sub t 0 = true ↔ t = 0 := fun t => ⟨fun h => by have := sub_le h; omega, fun h => by rw [h]; exact sub_refl 0⟩
  constructor
  · rintro ⟨z', hz, hs⟩
    rcases List.mem_append.1 hz with hz | hz
    · obtain ⟨f, rfl, hf⟩ := hx z' hz
      have := sub_le hs
      exact .inl ⟨by simp at this; omega, _, hz, hs⟩
    · obtain ⟨y, hy', rfl⟩ := List.mem_map.1 hz
      obtain ⟨g, rfl⟩ := hy y hy'
      rw [e, sub_parts h2, Bool.and_eq_true, z] at hs
      exact .inr ⟨hs.1, _, hy', hs.2⟩
  · rintro (⟨hl, x, hx', h⟩ | ⟨h0, y, hy', h⟩)
    · exact ⟨x, List.mem_append_left _ hx', h⟩
    · obtain ⟨g, rfl⟩ := hy y hy'
      exact ⟨_, List.mem_append_right _ (List.mem_map.2 ⟨_, hy', rfl⟩), by rw [e, sub_parts h2, Bool.and_eq_true, z]; exact ⟨h0, h⟩⟩

theorem sub_mod {n s t : Nat} (h : sub s t = true) : sub (s % 2 ^ n) (t % 2 ^ n) = true := by
  rw [sub_iff] at h ⊢
  intro i hi
  rw [Nat.testBit_mod_two_pow, Bool.and_eq_true] at hi ⊢
  exact ⟨hi.1, h i hi.2⟩
theorem sub_div {n s t : Nat} (h : sub s t = true) : sub (s / 2 ^ n) (t / 2 ^ n) = true := by
  rw [sub_iff] at h ⊢
  intro i hi
  rw [Nat.testBit_div_two_pow] at hi ⊢
  exact h _ hi
theorem joinQ_down {n : Nat} {q r : Nat → Bool} (hq : Down q) (hr : Down r) : Down (joinQ n q r) := fun s t hs ht h k => by
  unfold joinQ at k ⊢
  rw [Bool.and_eq_true] at k ⊢
  have hm := fun x => Nat.mod_le x (2 ^ n)
  have hd := fun x => Nat.div_le_self x (2 ^ n)
  have a1 := hm s
  have a2 := hm t
  have a3 := hd s
  have a4 := hd t
  exact ⟨hq _ _ (by omega) (by omega) (sub_mod h) k.1, hr _ _ (by omega) (by omega) (sub_div h) k.2⟩
theorem disQ_down {n : Nat} {q r : Nat → Bool} (hq : Down q) (hr : Down r) : Down (disQ n q r) := fun s t hs ht h k => by
  unfold disQ at k ⊢
  rw [Bool.or_eq_true, Bool.and_eq_true, Bool.and_eq_true, decide_eq_true_eq, beq_iff_eq] at k ⊢
  have hd := fun x => Nat.div_le_self x (2 ^ n)
  have a3 := hd s
  have a4 := hd t
  have a5 := sub_le h
  rcases k with ⟨k1, k2⟩ | ⟨k1, k2⟩
  · exact .inl ⟨by omega, hq s t hs ht h k2⟩
  · refine .inr ⟨?_, hr _ _ (by omega) (by omega) (sub_div h) k2⟩
    have := sub_le (sub_mod (n := n) h)
    omega

/-- The sets that contain no two points 2 i and 2 i + 1, of k pairs. -/
def crossQ (k s : Nat) : Bool := (List.range k).all fun i => !(s / 2 ^ (2 * i) % 4 == 3)

def joinOk (n m : Int) (xs ys : List Int) : Bool := isC n xs && isC m ys && decide (n + m ≤ 6)
def joinO (n m : Int) (xs ys : List Int) := partO (joinOk n m xs ys) (n + m) (joinQ n.toNat (inF xs) (inF ys))
def disO (n m : Int) (xs ys : List Int) := partO (joinOk n m xs ys) (n + m) (disQ n.toNat (inF xs) (inF ys))
def crossO (k : Int) := partO (inB 1 3 k) (2 * k) fun s => decide (s < 2 ^ (2 * k.toNat)) && crossQ k.toNat s
/-- The points of all facets. -/
def conePts (n : Int) (xs : List Int) : Nat := if isC n xs = true ∧ xs ≠ [] then xs.foldl (fun a x => a &&& x.toNat) 63 else 0

theorem card_ord (q : Nat → Bool) : Card (fun s => s < 64 ∧ q s = true) (ord q).length := by
  refine Card.bij (S := fun x : Int => x ∈ ord q) ⟨ord q, ?_, fun _ => Iff.rfl, rfl⟩ Int.toNat (fun s : Nat => (s : Int)) ?_ ?_ ?_ ?_
  · exact (ord_rises q).imp fun {a b} h e => by subst e; exact befZ_asym h h
  · intro x hx
    obtain ⟨s, rfl, h1, h2⟩ := (mem_ord q x).1 hx
    exact ⟨h1, h2⟩
  · rintro s ⟨h1, h2⟩
    exact (mem_ord q _).2 ⟨s, rfl, h1, h2⟩
  · intro x hx
    obtain ⟨s, rfl, h1, h2⟩ := (mem_ord q x).1 hx
    rfl
  · rintro s _
    rfl
/-- FACES OF A JOIN ARE PAIRS OF FACES. -/
theorem join_faces {n m : Nat} (hnm : n + m ≤ 6) {q r : Nat → Bool} (hq : Low n q) (hr : Low m r) : (ord (joinQ n q r)).length = (ord q).length * (ord r).length := by
  refine (card_ord _).unique (((card_ord q).prod (card_ord r)).bij (fun z => z.1 + 2 ^ n * z.2) (fun s => (s % 2 ^ n, s / 2 ^ n)) ?_ ?_ ?_ ?_)
  all_goals have h2 := Nat.two_pow_pos n
  · rintro ⟨a, b⟩ ⟨⟨ha, qa⟩, ⟨hb, rb⟩⟩
    dsimp only at ha qa hb rb ⊢
    have la := hq a ha qa
    have lb := hr b hb rb
    have e1 : (a + 2 ^ n * b) % 2 ^ n = a := by rw [Nat.add_mul_mod_self_left]; exact Nat.mod_eq_of_lt la
    have e2 : (a + 2 ^ n * b) / 2 ^ n = b := by rw [Nat.add_mul_div_left _ _ h2, Nat.div_eq_of_lt la, Nat.zero_add]
    refine ⟨?_, by unfold joinQ; rw [e1, e2, qa, rb]; rfl⟩
    have : 2 ^ n * (b + 1) ≤ 2 ^ n * 2 ^ m := Nat.mul_le_mul_left _ (by omega)
    rw [← Nat.pow_add, Nat.mul_add] at this
    have := Nat.pow_le_pow_right (n := 2) (by decide) hnm
    omega
  · rintro s ⟨h, k⟩
    unfold joinQ at k
    rw [Bool.and_eq_true] at k
    have a1 := Nat.mod_le s (2 ^ n)
    have a2 := Nat.div_le_self s (2 ^ n)
    exact ⟨⟨by dsimp only; omega, k.1⟩, ⟨by dsimp only; omega, k.2⟩⟩
  · rintro ⟨a, b⟩ ⟨⟨ha, qa⟩, _⟩
    dsimp only at ha qa ⊢
    have la := hq a ha qa
    rw [Nat.add_mul_mod_self_left, Nat.mod_eq_of_lt la, Nat.add_mul_div_left _ _ h2, Nat.div_eq_of_lt la, Nat.zero_add]
  · rintro s _
    exact Nat.mod_add_div s (2 ^ n)

end Join
end Go.Proofs.YtenpcjmhlnalcaaGreat
