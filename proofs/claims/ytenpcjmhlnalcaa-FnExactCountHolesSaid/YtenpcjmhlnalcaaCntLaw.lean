/-
  COUNTS OF FACES, of no program: what the law of chapter 4 says of them.
-/
import Derived.Test.YtenpcjmhlnalcaaJg8
namespace Go.Proofs.Ytenpcjmhlnalcaa
open Sets

/-- The sum of the first k. -/
def tsumK (xs : List Int) : Nat → Int
  | 0 => 0
  | k + 1 => tsumK xs k + xs.getD k 0
def sgn (k : Nat) (x : Int) : Int := if k % 2 = 1 then x else -x
theorem sgn0 (x : Int) : sgn 0 x = -x := rfl
theorem sgn1 (x : Int) : sgn 1 x = x := rfl
theorem sgn2 (x : Int) : sgn 2 x = -x := rfl
theorem sgn3 (x : Int) : sgn 3 x = x := rfl
theorem sgn4 (x : Int) : sgn 4 x = -x := rfl
theorem sgn5 (x : Int) : sgn 5 x = x := rfl
theorem sgn6 (x : Int) : sgn 6 x = -x := rfl
/-- The sum of the first k with signs, + for odd indices. -/
def ssumK (xs : List Int) : Nat → Int
  | 0 => 0
  | k + 1 => ssumK xs k + sgn k (xs.getD k 0)

theorem cnt_all (L : List Int) : cnt 0 L + cnt 1 L + cnt 2 L + cnt 3 L + cnt 4 L + cnt 5 L + cnt 6 L = L.length := by
  induction L with
  | nil => rfl
  | cons x L ih =>
    have hx : ∀ k, cnt k (x :: L) = cnt k L + if pc x.toNat = k then 1 else 0 := fun k => by
      unfold cnt; rw [List.countP_cons]
      by_cases h : pc x.toNat = k <;> simp [h]
    simp only [hx, List.length_cons]
    have h := pc_le x.toNat
    generalize pc x.toNat = p at h
    rcases (by omega : p = 0 ∨ p = 1 ∨ p = 2 ∨ p = 3 ∨ p = 4 ∨ p = 5 ∨ p = 6) with rfl | rfl | rfl | rfl | rfl | rfl | rfl <;> simp <;> omega

theorem counts_total (L : List Int) : tsumK (counts L) (counts L).length = (L.length : Int) := by
  have h := cnt_all L
  have h7 := top_le L
  have hg := ge_top L
  have hc := counts_at L
  rw [counts_length]
  generalize counts L = f at hc ⊢
  generalize top L = T at hc hg h7 ⊢
  have e : ∀ k, k < T → f.getD k 0 = (cnt k L : Int) := fun k hk => hc k hk
  rcases (by omega : T = 0 ∨ T = 1 ∨ T = 2 ∨ T = 3 ∨ T = 4 ∨ T = 5 ∨ T = 6 ∨ T = 7) with rfl | rfl | rfl | rfl | rfl | rfl | rfl | rfl
  · have g0 := hg 0 (by omega); have g1 := hg 1 (by omega); have g2 := hg 2 (by omega); have g3 := hg 3 (by omega); have g4 := hg 4 (by omega); have g5 := hg 5 (by omega); have g6 := hg 6 (by omega)
    simp only [tsumK]; omega
  · have g1 := hg 1 (by omega); have g2 := hg 2 (by omega); have g3 := hg 3 (by omega); have g4 := hg 4 (by omega); have g5 := hg 5 (by omega); have g6 := hg 6 (by omega)
    simp only [tsumK, e 0 (by omega)]; omega
  · have g2 := hg 2 (by omega); have g3 := hg 3 (by omega); have g4 := hg 4 (by omega); have g5 := hg 5 (by omega); have g6 := hg 6 (by omega)
    simp only [tsumK, e 0 (by omega), e 1 (by omega)]; omega
  · have g3 := hg 3 (by omega); have g4 := hg 4 (by omega); have g5 := hg 5 (by omega); have g6 := hg 6 (by omega)
    simp only [tsumK, e 0 (by omega), e 1 (by omega), e 2 (by omega)]; omega
  · have g4 := hg 4 (by omega); have g5 := hg 5 (by omega); have g6 := hg 6 (by omega)
    simp only [tsumK, e 0 (by omega), e 1 (by omega), e 2 (by omega), e 3 (by omega)]; omega
  · have g5 := hg 5 (by omega); have g6 := hg 6 (by omega)
    simp only [tsumK, e 0 (by omega), e 1 (by omega), e 2 (by omega), e 3 (by omega), e 4 (by omega)]; omega
  · have g6 := hg 6 (by omega)
    simp only [tsumK, e 0 (by omega), e 1 (by omega), e 2 (by omega), e 3 (by omega), e 4 (by omega), e 5 (by omega)]; omega
  · simp only [tsumK, e 0 (by omega), e 1 (by omega), e 2 (by omega), e 3 (by omega), e 4 (by omega), e 5 (by omega), e 6 (by omega)]; omega

theorem counts_signed (L : List Int) : ssumK (counts L) (counts L).length = eul L := by
  have h7 := top_le L
  have hg := ge_top L
  have hc := counts_at L
  unfold eul
  rw [counts_length]
  generalize counts L = f at hc ⊢
  generalize top L = T at hc hg h7 ⊢
  have e : ∀ k, k < T → f.getD k 0 = (cnt k L : Int) := fun k hk => hc k hk
  rcases (by omega : T = 0 ∨ T = 1 ∨ T = 2 ∨ T = 3 ∨ T = 4 ∨ T = 5 ∨ T = 6 ∨ T = 7) with rfl | rfl | rfl | rfl | rfl | rfl | rfl | rfl
  · have g0 := hg 0 (by omega); have g1 := hg 1 (by omega); have g2 := hg 2 (by omega); have g3 := hg 3 (by omega); have g4 := hg 4 (by omega); have g5 := hg 5 (by omega); have g6 := hg 6 (by omega)
    simp only [ssumK]; omega
  · have g1 := hg 1 (by omega); have g2 := hg 2 (by omega); have g3 := hg 3 (by omega); have g4 := hg 4 (by omega); have g5 := hg 5 (by omega); have g6 := hg 6 (by omega)
    simp only [ssumK, e 0 (by omega), sgn0]; omega
  · have g2 := hg 2 (by omega); have g3 := hg 3 (by omega); have g4 := hg 4 (by omega); have g5 := hg 5 (by omega); have g6 := hg 6 (by omega)
    simp only [ssumK, e 0 (by omega), e 1 (by omega), sgn0, sgn1]; omega
  · have g3 := hg 3 (by omega); have g4 := hg 4 (by omega); have g5 := hg 5 (by omega); have g6 := hg 6 (by omega)
    simp only [ssumK, e 0 (by omega), e 1 (by omega), e 2 (by omega), sgn0, sgn1, sgn2]; omega
  · have g4 := hg 4 (by omega); have g5 := hg 5 (by omega); have g6 := hg 6 (by omega)
    simp only [ssumK, e 0 (by omega), e 1 (by omega), e 2 (by omega), e 3 (by omega), sgn0, sgn1, sgn2, sgn3]; omega
  · have g5 := hg 5 (by omega); have g6 := hg 6 (by omega)
    simp only [ssumK, e 0 (by omega), e 1 (by omega), e 2 (by omega), e 3 (by omega), e 4 (by omega), sgn0, sgn1, sgn2, sgn3, sgn4]; omega
  · have g6 := hg 6 (by omega)
    simp only [ssumK, e 0 (by omega), e 1 (by omega), e 2 (by omega), e 3 (by omega), e 4 (by omega), e 5 (by omega), sgn0, sgn1, sgn2, sgn3, sgn4, sgn5]; omega
  · simp only [ssumK, e 0 (by omega), e 1 (by omega), e 2 (by omega), e 3 (by omega), e 4 (by omega), e 5 (by omega), e 6 (by omega), sgn0, sgn1, sgn2, sgn3, sgn4, sgn5, sgn6]; omega

/-! ### faces of one point are the used points -/

theorem sub_bit (t i : Nat) (ht : t < 64) (hi : i < 6) : sub (2 ^ i) t = t.testBit i := by
  have H : ∀ (t : Fin 64) (i : Fin 6), sub (2 ^ i.val) t.val = t.val.testBit i.val := by decide +kernel
  exact H ⟨t, ht⟩ ⟨i, hi⟩
theorem orN_bit (i : Nat) : ∀ (xs : List Int) (a : Nat), (xs.foldl (fun a x => a ||| x.toNat) a).testBit i = (a.testBit i || xs.any fun x => x.toNat.testBit i)
  | [], a => by simp
  | x :: xs, a => by
    rw [List.foldl_cons, orN_bit i xs, Nat.testBit_or, List.any_cons, Bool.or_assoc]
theorem inF_bit (xs : List Int) (h : allOk xs = true) (i : Nat) (hi : i < 6) : inF xs (2 ^ i) = (orN xs).testBit i := by
  unfold orN
  rw [orN_bit, Nat.zero_testBit, Bool.false_or]
  unfold inF
  rw [Bool.eq_iff_iff, List.any_eq_true, List.any_eq_true]
  unfold allOk at h
  constructor
  · rintro ⟨x, hx, e⟩
    obtain ⟨t, rfl, ht⟩ := okZ_cast x (List.all_eq_true.1 h x hx)
    exact ⟨_, hx, by show t.testBit i = true; rw [← sub_bit _ i ht hi]; exact e⟩
  · rintro ⟨x, hx, e⟩
    obtain ⟨t, rfl, ht⟩ := okZ_cast x (List.all_eq_true.1 h x hx)
    exact ⟨_, hx, by show sub (2 ^ i) t = true; rw [sub_bit _ i ht hi]; exact e⟩
theorem cnt1_ord (p : Nat → Bool) : cnt 1 (ord p) = ([1, 2, 4, 8, 16, 32] : List Int).countP fun x => p x.toNat := by
  have e : (ord fun _ => true).filter (fun x => pc x.toNat == 1) = [1, 2, 4, 8, 16, 32] := by decide +kernel
  rw [← e, List.countP_filter, ord_filter p]
  unfold cnt
  rw [List.countP_filter]
  apply List.countP_congr
  intro x _
  rw [Bool.and_comm]
theorem pc_bits (u : Nat) (h : u < 64) : pc u = ([1, 2, 4, 8, 16, 32] : List Int).countP fun x => u.testBit (pc (x.toNat - 1)) := by
  have H : ∀ u : Fin 64, pc u.val = ([1, 2, 4, 8, 16, 32] : List Int).countP fun x => u.val.testBit (pc (x.toNat - 1)) := by decide +kernel
  exact H ⟨u, h⟩
theorem cnt1_used {n : Int} {xs : List Int} (h : isC n xs = true) : cnt 1 (faces n xs) = pc (orN xs) := by
  have hok := isC_ok h
  have hF : faces n xs = ord (inF xs) := by unfold faces; rw [if_pos h]
  rw [hF, cnt1_ord, pc_bits _ (orN_lt xs hok)]
  apply List.countP_congr
  intro x hx
  have e : x.toNat = 2 ^ pc (x.toNat - 1) ∧ pc (x.toNat - 1) < 6 := by
    simp only [List.mem_cons, List.not_mem_nil, or_false] at hx
    rcases hx with rfl | rfl | rfl | rfl | rfl | rfl <;> decide
  have hb := inF_bit xs hok (pc (x.toNat - 1)) e.2
  rw [← e.1] at hb
  rw [hb]
/-- The law's last comparison. -/
theorem cnt1_size (n : Int) (xs : List Int) : (cnt 1 (faces n xs) : Int) = sizeZ (used n xs) := by
  cases h : isC n xs with
  | true =>
    have hu : used n xs = (orN xs : Int) := by unfold used; rw [if_pos h]
    rw [hu, sizeZ_nat _ (orN_lt xs (isC_ok h)), cnt1_used h]
  | false =>
    have hu : used n xs = 0 := by unfold used; rw [if_neg (by rw [h]; simp)]
    have hf : faces n xs = [] := by unfold faces; rw [if_neg (by rw [h]; simp)]
    rw [hu, hf]; rfl
/-- The law's first one. -/
theorem counts_dim (n : Int) (xs : List Int) : ((counts (faces n xs)).length : Int) = dimZ n xs + 2 := by
  rw [counts_length]
  cases h : isC n xs with
  | true =>
    by_cases h0 : 0 < xs.length
    · exact faces_top h h0
    · have : xs = [] := List.eq_nil_of_length_eq_zero (by omega)
      subst this
      rw [faces_nil, dimZ_nil]; rfl
  | false =>
    have hf : faces n xs = [] := by unfold faces; rw [if_neg (by rw [h]; simp)]
    rw [hf, dimZ_no h]; rfl
theorem dim_range (n : Int) (xs : List Int) : -2 ≤ dimZ n xs ∧ dimZ n xs ≤ 5 := by
  have h := counts_dim n xs
  rw [counts_length] at h
  have := top_le (faces n xs)
  omega

end Go.Proofs.Ytenpcjmhlnalcaa
