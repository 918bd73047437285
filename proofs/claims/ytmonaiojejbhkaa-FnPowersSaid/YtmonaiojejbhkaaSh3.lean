/-
  H NUMBERS OF SHELLABLE COMPLEXES are possible counts of monomials, for six points and eight facets: the numbers checked; of no program.
-/
import Derived.Test.YtmonaiojejbhkaaJg9
namespace Go.Proofs.Ytmonaiojejbhkaa.Sh
open Sets Hn Kk

/-- All lists of d numbers that add up to at most s. -/
def gen : Nat → Nat → List (List Nat)
  | 0, _ => [[]]
  | d + 1, s => (List.range (s + 1)).flatMap fun x => (gen d (s - x)).map (x :: ·)
theorem mem_gen : ∀ (l : List Nat) (s : Nat), l.sum ≤ s → l ∈ gen l.length s
  | [], _, _ => by simp [gen]
  | x :: l, s, h => by
    rw [List.sum_cons] at h
    rw [List.length_cons, gen, List.mem_flatMap]
    refine ⟨x, by rw [List.mem_range]; omega, ?_⟩
    rw [List.mem_map]
    exact ⟨l, mem_gen l (s - x) (by omega), rfl⟩
def fOf (d : Nat) (l : List Nat) (k : Nat) : Nat := hsN (fun i => (1 :: l).getD i 0) d k (k + 1)
/-- Where one is 0, the next one is. -/
def zerosB : List Nat → Bool
  | a :: b :: r => (!Nat.beq a 0 || Nat.beq b 0) && zerosB (b :: r)
  | _ => true
def endB (l : List Nat) : Bool := (List.range l.length).all fun k => k == 0 || Nat.ble (l.getD k 0) (sh 1 k (l.getD (k - 1) 0))
def chk (d : Nat) (l : List Nat) : Bool :=
  !(zerosB l && Nat.ble (fOf d l 1) 6 && Nat.ble (fOf d l 4) 15 && Nat.ble (fOf d l 5) 6 && Nat.ble (fOf d l 2) (pmax (fOf d l 1)) && Nat.ble (fOf d l 3) (tmax (fOf d l 2)) && Nat.ble (20 - fOf d l 3) (tmax (15 - fOf d l 4)) && Nat.ble (15 - fOf d l 4) (pmax (6 - fOf d l 5))
    && (!(Nat.beq d 3 && Nat.beq (fOf d l 1) 6 && Nat.beq (fOf d l 2) 10) || Nat.ble (fOf d l 3) 6)) || endB l
theorem checked : ∀ d : Fin 7, (gen d.val 7).all (chk d.val) = true := by decide +kernel

theorem hsN_congr {r r' : Nat → Nat} (d k : Nat) (h : ∀ i, r i = r' i) (m : Nat) : hsN r d k m = hsN r' d k m := by
  rw [show r = r' from funext h]
theorem threes_all : ∀ t : Fin 64, pc t.val = 3 → t.val ∈ threes := by decide +kernel
theorem inF_same {A B : List Int} (h : ∀ x, x ∈ A ↔ x ∈ B) : inF A = inF B := by
  funext t
  rw [Bool.eq_iff_iff, inF_iff, inF_iff]
  constructor
  · rintro ⟨f, hf, e⟩; exact ⟨f, (h f).1 hf, e⟩
  · rintro ⟨f, hf, e⟩; exact ⟨f, (h f).2 hf, e⟩
theorem hOf_six (L : List Int) (i : Nat) (h : 7 ≤ i) : hOf L i = 0 := by
  unfold hOf cnt
  rw [List.countP_eq_zero]
  intro x _ e
  rw [beq_iff_eq] at e
  have := pc_le x.toNat
  omega
theorem news_mem {L : List Int} {r : Int} (h : r ∈ news L) : ∃ k, k < L.length ∧ r = (newN (L.take k) (L.getD k 0).toNat : Int) := by
  unfold news at h
  obtain ⟨k, hk, e⟩ := List.mem_map.1 h
  exact ⟨k, List.mem_range.1 hk, e.symm⟩
theorem getD_mem {L : List Int} {k : Nat} (h : k < L.length) : L.getD k 0 ∈ L := by
  rw [List.getD, List.getElem?_eq_getElem h]; exact List.getElem_mem h
theorem hOf_above {L : List Int} (hU : Under L) {d : Nat} (hd : ∀ x ∈ L, pc x.toNat = d) (i : Nat) (h : d < i) : hOf L i = 0 := by
  unfold hOf cnt
  rw [List.countP_eq_zero]
  intro x hx e
  rw [beq_iff_eq] at e
  obtain ⟨k, hk, rfl⟩ := news_mem hx
  have hm := getD_mem hk
  have h1 := pc_sub (newN_lt (L.take k) (L.getD k 0).toNat) (hU _ hm) (newN_sub (L.take k) (hU _ hm))
  rw [hd _ hm] at h1
  have e : pc (newN (L.take k) (L.getD k 0).toNat) = i := e
  omega
/-- The numbers behind the first. -/
def tailOf (L : List Int) (d : Nat) : List Nat := (List.range d).map fun i => hOf L (i + 1)
theorem tailOf_at (L : List Int) (d i : Nat) (hi : i < d) : (tailOf L d).getD i 0 = hOf L (i + 1) := by simp [tailOf, List.getD, hi]
theorem tailOf_length (L : List Int) (d : Nat) : (tailOf L d).length = d := by simp [tailOf]
theorem tailOf_sum (L : List Int) (d : Nat) (hd : d ≤ 6) : (tailOf L d).sum ≤ hOf L 1 + hOf L 2 + hOf L 3 + hOf L 4 + hOf L 5 + hOf L 6 := by
  unfold tailOf
  rcases (by omega : d = 0 ∨ d = 1 ∨ d = 2 ∨ d = 3 ∨ d = 4 ∨ d = 5 ∨ d = 6) with rfl | rfl | rfl | rfl | rfl | rfl | rfl <;> simp [r2, r3, r4, r5, r6] <;> omega
theorem zerosB_of (l : List Nat) (h : ∀ k, k + 1 < l.length → l.getD k 0 = 0 → l.getD (k + 1) 0 = 0) : zerosB l = true := by
  induction l with
  | nil => rfl
  | cons a l ih =>
    cases l with
    | nil => rfl
    | cons b l =>
      rw [zerosB, Bool.and_eq_true]
      refine ⟨?_, ih fun k hk e => ?_⟩
      · have := h 0 (by simp) 
        simp only [List.getD_cons_zero, List.getD_cons_succ] at this
        rw [Bool.or_eq_true, Bool.not_eq_true', Nat.beq_eq]
        by_cases e : a = 0
        · exact .inr (this e)
        · left
          cases hb : Nat.beq a 0 with
          | false => rfl
          | true => exact absurd (Nat.eq_of_beq_eq_true hb) e
      · have := h (k + 1) (by simp only [List.length_cons] at hk ⊢; omega)
        simp only [List.getD_cons_succ] at this
        exact this e

/-- THE H NUMBERS BEHIND THE FIRST, of a shelling of at most eight facets of d points. -/
theorem shell_end {L : List Int} {d : Nat} (hU : Under L) (hS : shellB L = true) (hd : ∀ x ∈ L, pc x.toNat = d) (h0 : 0 < L.length) (h8 : L.length ≤ 8) : hOf L 0 = 1 ∧ endB (tailOf L d) = true ∧ (tailOf L d).sum ≤ 7 := by
  have hd6 : d ≤ 6 := by rw [← hd _ (getD_mem h0)]; exact pc_le _
  have hC := fun k hk => shell_counts d k hk L hU hS hd
  have hz : inF L 0 = true := by
    rw [inF_iff]
    exact ⟨_, getD_mem h0, by simp [sub]⟩
  have r0 : hOf L 0 = 1 := by
    have h1 := hC 0 (by decide)
    rw [cnt0] at h1
    simp [hsN, ch_zero, hz] at h1
    omega
  have hsum : hOf L 0 + hOf L 1 + hOf L 2 + hOf L 3 + hOf L 4 + hOf L 5 + hOf L 6 = L.length := by
    have := cnt_all (news L)
    rw [news_length] at this
    exact this
  have hts := tailOf_sum L d hd6
  refine ⟨r0, ?_, by omega⟩
  have hg : ∀ i, (1 :: tailOf L d).getD i 0 = hOf L i := by
    intro i
    cases i with
    | zero => rw [r0]; rfl
    | succ i =>
      rw [List.getD_cons_succ]
      by_cases hi : i < d
      · rw [tailOf_at L d i hi]
      · rw [hOf_above hU hd (i + 1) (by omega), List.getD, List.getElem?_eq_none (by rw [tailOf_length]; omega)]; rfl
  have hf : ∀ k, k < 7 → fOf d (tailOf L d) k = cnt k (ord (inF L)) := by
    intro k hk
    rw [hC k hk]
    exact hsN_congr d k hg (k + 1)
  have hck := checked ⟨d, by omega⟩
  rw [List.all_eq_true] at hck
  have hm := mem_gen (tailOf L d) 7 (by omega)
  rw [tailOf_length] at hm
  have hck := hck _ hm
  dsimp only at hck
  unfold chk at hck
  rw [hf 1 (by decide), hf 2 (by decide), hf 3 (by decide), hf 4 (by decide), hf 5 (by decide)] at hck
  have hdn := inF_down L
  obtain ⟨b0, b1, b2, b3, b4, b5, b6⟩ := cnt_bounds (inF L)
  have z : zerosB (tailOf L d) = true := zerosB_of _ fun k hk e => by
    rw [tailOf_length] at hk
    rw [tailOf_at L d k (by omega)] at e
    rw [tailOf_at L d (k + 1) (by omega)]
    have hno : ∀ r ∈ news L, pc r.toNat ≠ k + 1 := by
      intro r hr e2
      unfold hOf cnt at e
      rw [List.countP_eq_zero] at e
      exact e r hr (by rw [beq_iff_eq]; exact e2)
    have hlt := none_above (k + 1) (by omega) L hU hS hno
    unfold hOf cnt
    rw [List.countP_eq_zero]
    intro r hr e2
    rw [beq_iff_eq] at e2
    have := hlt r hr
    omega
  have g1 : Nat.ble (cnt 1 (ord (inF L))) 6 = true := Nat.ble_eq_true_of_le b1
  have q4 : Nat.ble (cnt 4 (ord (inF L))) 15 = true := Nat.ble_eq_true_of_le b4
  have q5 : Nat.ble (cnt 5 (ord (inF L))) 6 = true := Nat.ble_eq_true_of_le b5
  have g2 := Nat.ble_eq_true_of_le (le2 hdn)
  have g3 := Nat.ble_eq_true_of_le (le3 hdn)
  have g4 := Nat.ble_eq_true_of_le (le4 hdn)
  have g5 := Nat.ble_eq_true_of_le (le5 hdn)
  have g6 : (!(Nat.beq d 3 && Nat.beq (cnt 1 (ord (inF L))) 6 && Nat.beq (cnt 2 (ord (inF L))) 10) || Nat.ble (cnt 3 (ord (inF L))) 6) = true := by
    cases h3 : (Nat.beq d 3 && Nat.beq (cnt 1 (ord (inF L))) 6 && Nat.beq (cnt 2 (ord (inF L))) 10) with
    | false => rfl
    | true =>
      rw [Bool.and_eq_true, Bool.and_eq_true] at h3
      have e1 := Nat.eq_of_beq_eq_true h3.1.1
      have e2 := Nat.eq_of_beq_eq_true h3.1.2
      have e3 := Nat.eq_of_beq_eq_true h3.2
      rw [cnt1] at e2
      rw [cnt2] at e3
      rw [cnt3]
      rw [Bool.not_true, Bool.false_or]
      refine Nat.ble_eq_true_of_le (six_tri hdn (fun i hi => ?_) e3)
      have hall := List.countP_eq_length.1 (show Kk.ones.countP (inF L) = Kk.ones.length from e2)
      have hi2 : ∀ i : Fin 6, 2 ^ i.val ∈ Kk.ones := by decide
      have h4 := hall (2 ^ i) (hi2 ⟨i, hi⟩)
      rw [inF_iff] at h4
      obtain ⟨f, hf1, hf2⟩ := h4
      refine ⟨f.toNat, threes_all ⟨f.toNat, hU f hf1⟩ (by rw [hd f hf1, e1]), ?_, ?_⟩
      · rw [sub_iff] at hf2
        exact hf2 i (by rw [Nat.testBit_two_pow]; simp)
      · rw [inF_iff]
        exact ⟨f, hf1, sub_refl _⟩
  rw [z, g1, q4, q5, g2, g3, g4, g5, g6] at hck
  simpa using hck

theorem back2 : ∀ L : List Int, L.length ≤ 7 → hsums (-1) (hsums 1 L) = L := by
  apply short
  · rfl
  all_goals
    intros
    simp [hsums, r2, r3, r4, r5, r6, r7, hs, pw, ch]
    try omega
theorem hs_nat (r : Nat → Nat) (L : List Int) (d k : Nat) : ∀ m, (∀ i, i < m → L.getD i 0 = (r i : Int)) → hs 1 L d k m = (hsN r d k m : Int)
  | 0, _ => rfl
  | m + 1, h => by
    rw [hs, hsN, hs_nat r L d k m (fun i hi => h i (by omega)), h m (by omega), pw_one, Int.one_mul]
    omega
/-- The h numbers of a pure complex with a shelling. -/
theorem shell_hnum {n : Int} {xs L : List Int} (hC : isC n xs = true) (h0 : 0 < xs.length) (hev : evenB xs = true) (hm : ∀ x, x ∈ L ↔ x ∈ xs) (hS : shellB L = true) : hnum n xs = (List.range (pc (xs.getD 0 0).toNat + 1)).map fun i => (hOf L i : Int) := by
  have hU : Under L := fun x hx => by
    obtain ⟨s, rfl, hs⟩ := ok_nat (isC_ok hC) ((hm x).1 hx)
    exact hs
  have hd : ∀ x ∈ L, pc x.toNat = pc (xs.getD 0 0).toNat := fun x hx => even_at hev x ((hm x).1 hx)
  generalize hdd : pc (xs.getD 0 0).toNat = d at hd ⊢
  have hd6 : d ≤ 6 := by rw [← hdd]; exact pc_le _
  have hF : faces n xs = ord (inF L) := by unfold faces; rw [if_pos hC, inF_same hm]
  have hmem : xs.getD 0 0 ∈ L := (hm _).2 (getD_mem h0)
  have htop : top (ord (inF L)) = d + 1 := by
    apply Nat.le_antisymm
    · apply top_le_of
      intro x hx
      obtain ⟨s, rfl, hs, hp⟩ := (mem_ord _ _).1 hx
      rw [inF_iff] at hp
      obtain ⟨f, hf, hsf⟩ := hp
      have := pc_sub hs (hU f hf) hsf
      rw [hd f hf] at this
      show pc s + 1 ≤ d + 1
      omega
    · have hx : (((xs.getD 0 0).toNat : Nat) : Int) ∈ ord (inF L) := (mem_ord _ _).2 ⟨_, rfl, hU _ hmem, by rw [inF_iff]; exact ⟨_, hmem, sub_refl _⟩⟩
      have := top_ge _ _ hx
      have e : pc (((xs.getD 0 0).toNat : Nat) : Int).toNat = d := hdd
      omega
  have hcs : counts (faces n xs) = hsums 1 ((List.range (d + 1)).map fun i => (hOf L i : Int)) := by
    rw [hF]
    apply List.ext_getElem
    · rw [counts_length, htop, hsums_length]; simp
    · intro k h1 h2
      rw [counts_length, htop] at h1
      have e1 : (counts (ord (inF L)))[k] = (counts (ord (inF L))).getD k 0 := by
        rw [List.getD, List.getElem?_eq_getElem]; rfl
      have e2 : (hsums 1 ((List.range (d + 1)).map fun i => (hOf L i : Int)))[k] = (hsums 1 ((List.range (d + 1)).map fun i => (hOf L i : Int))).getD k 0 := by
        rw [List.getD, List.getElem?_eq_getElem]; rfl
      rw [e1, e2, counts_at _ k (by omega), hsums_at _ _ k (by simpa using h1), shell_counts d k (by omega) L hU hS hd]
      rw [hs_nat (hOf L)]
      · simp
      · intro i hi
        simp [List.getD, show i < d + 1 by omega]
  unfold hnum
  rw [hcs, back2 _ (by simp; omega)]
/-- H NUMBERS OF SHELLABLE COMPLEXES ARE POSSIBLE COUNTS OF MONOMIALS. -/
theorem shell_mono {n : Int} {xs L : List Int} (hC : isC n xs = true) (h0 : 0 < xs.length) (hev : evenB xs = true) (hm : ∀ x, x ∈ L ↔ x ∈ xs) (h8 : L.length ≤ 8) (hS : shellB L = true) : monoB (hnum n xs) = true := by
  have hU : Under L := fun x hx => by
    obtain ⟨s, rfl, hs⟩ := ok_nat (isC_ok hC) ((hm x).1 hx)
    exact hs
  have hd : ∀ x ∈ L, pc x.toNat = pc (xs.getD 0 0).toNat := fun x hx => even_at hev x ((hm x).1 hx)
  have hl0 : 0 < L.length := List.length_pos_of_mem ((hm _).2 (getD_mem h0))
  rw [shell_hnum hC h0 hev hm hS]
  generalize hdd : pc (xs.getD 0 0).toNat = d at hd ⊢
  have hd6 : d ≤ 6 := by rw [← hdd]; exact pc_le _
  obtain ⟨k0, k1, k2⟩ := shell_end hU hS hd hl0 h8
  unfold monoB
  have hlen : ((List.range (d + 1)).map fun i => (hOf L i : Int)).length = d + 1 := by simp
  have hat : ∀ k, k ≤ d → ((List.range (d + 1)).map fun i => (hOf L i : Int)).getD k 0 = (hOf L k : Int) := by
    intro k hk
    simp [List.getD, show k < d + 1 by omega]
  have hle : ∀ k, hOf L k ≤ 8 := fun k => Nat.le_trans (cnt_le k _) (by rw [news_length]; exact h8)
  rw [hlen, Bool.and_eq_true, Bool.and_eq_true, List.all_eq_true]
  refine ⟨⟨decide_eq_true (by omega), decide_eq_true (by omega)⟩, fun k hk => ?_⟩
  rw [List.mem_range] at hk
  unfold stepM
  have hlk := hle k
  rw [hat k (by omega), Bool.and_eq_true, Bool.and_eq_true]
  refine ⟨⟨decide_eq_true (by omega), decide_eq_true (by omega)⟩, ?_⟩
  by_cases e0 : k = 0
  · rw [if_pos e0, hat 0 (by omega), k0]; rfl
  · rw [if_neg e0]
    by_cases e1 : k = 1
    · rw [if_pos e1]
    · rw [if_neg e1, hat (k - 1) (by omega)]
      have hlk1 := hle (k - 1)
      rw [boundZ_in (by omega) (by omega) (by omega)]
      unfold endB at k1
      rw [List.all_eq_true] at k1
      have h2 := k1 (k - 1) (by rw [List.mem_range, tailOf_length]; omega)
      rw [tailOf_at L d (k - 1) (by omega), tailOf_at L d (k - 1 - 1) (by omega), Bool.or_eq_true] at h2
      rcases h2 with h2 | h2
      · rw [beq_iff_eq] at h2; omega
      · have h3 := Nat.le_of_ble_eq_true h2
        rw [show k - 1 + 1 = k by omega, show k - 1 - 1 + 1 = k - 1 by omega] at h3
        exact decide_eq_true (by omega)

end Go.Proofs.Ytmonaiojejbhkaa.Sh
