/-
  TEXTS of one claim, put together: Kk3, Kk4, Kk5.
-/
import Derived.Test.YtmonaiojejbhkaaJg5
/-! COUNTS OF COMPLEXES OF SIX POINTS ARE POSSIBLE ONES, of no program. -/

namespace Go.Proofs.Ytmonaiojejbhkaa.Kk
open Sets Hn

/-- ShadowBound (t = 0), PowerBound (t = 1). -/
def boundZ (t : Nat) (m k : Int) : Int := if 0 ≤ m ∧ m ≤ 1000 ∧ 1 ≤ k ∧ k ≤ 6 then (sh t k.toNat m.toNat : Int) else -1
theorem boundZ_in {t m k : Nat} (hm : m ≤ 1000) (h1 : 1 ≤ k) (h6 : k ≤ 6) : boundZ t (m : Int) (k : Int) = (sh t k m : Int) := by
  unfold boundZ; rw [if_pos (by omega)]; rfl
/-- What AreFaceCounts asks at the index k. -/
def stepB (L : List Int) (k : Nat) : Bool :=
  decide (1 ≤ L.getD k 0) && decide (L.getD k 0 ≤ 1000) && (if k = 0 then decide (L.getD 0 0 = 1) else decide (boundZ 0 (L.getD k 0) (k : Int) ≤ L.getD (k - 1) 0))
def countsB (L : List Int) : Bool := decide (1 ≤ L.length) && decide (L.length ≤ 7) && (List.range L.length).all (stepB L)
theorem countsB_step {L : List Int} (h : countsB L = true) (k : Nat) (hk : k < L.length) : stepB L k = true := by
  unfold countsB at h
  rw [Bool.and_eq_true, List.all_eq_true] at h
  exact h.2 k (List.mem_range.2 hk)
theorem countsB_length {L : List Int} (h : countsB L = true) : 1 ≤ L.length ∧ L.length ≤ 7 := by
  unfold countsB at h
  rw [Bool.and_eq_true, Bool.and_eq_true] at h
  exact ⟨of_decide_eq_true h.1.1, of_decide_eq_true h.1.2⟩
theorem stepB_iff (L : List Int) (k : Nat) : stepB L k = true ↔ 1 ≤ L.getD k 0 ∧ L.getD k 0 ≤ 1000 ∧ (k = 0 → L.getD 0 0 = 1) ∧ (0 < k → boundZ 0 (L.getD k 0) (k : Int) ≤ L.getD (k - 1) 0) := by
  unfold stepB
  rw [Bool.and_eq_true, Bool.and_eq_true, decide_eq_true_eq, decide_eq_true_eq]
  by_cases e : k = 0
  · rw [if_pos e, decide_eq_true_eq]
    exact ⟨fun h => ⟨h.1.1, h.1.2, fun _ => h.2, fun h' => by omega⟩, fun h => ⟨⟨h.1, h.2.1⟩, h.2.2.1 e⟩⟩
  · rw [if_neg e, decide_eq_true_eq]
    exact ⟨fun h => ⟨h.1.1, h.1.2, fun h' => absurd h' e, fun _ => h.2⟩, fun h => ⟨⟨h.1, h.2.1⟩, h.2.2.2 (by omega)⟩⟩

/-! ### the bounds, checked -/
theorem c2 : ∀ v : Fin 7, ∀ e : Fin 16, e.val ≤ pmax v.val → sh 0 2 e.val ≤ v.val := by decide +kernel
theorem c3 : ∀ e : Fin 16, ∀ f : Fin 21, f.val ≤ tmax e.val → sh 0 3 f.val ≤ e.val := by decide +kernel
theorem c4 : ∀ f : Fin 21, ∀ g : Fin 16, 20 - f.val ≤ tmax (15 - g.val) → sh 0 4 g.val ≤ f.val := by decide +kernel
theorem c5 : ∀ g : Fin 16, ∀ h : Fin 7, 15 - g.val ≤ pmax (6 - h.val) → sh 0 5 h.val ≤ g.val := by decide +kernel
theorem c1 : ∀ v : Fin 7, sh 0 1 v.val ≤ 1 := by decide +kernel
theorem c6 : ∀ x : Fin 2, sh 0 6 x.val ≤ 6 := by decide +kernel
theorem z2 : ∀ e : Fin 16, e.val ≤ pmax 0 → e.val = 0 := by decide +kernel
theorem z3 : ∀ f : Fin 21, f.val ≤ tmax 0 → f.val = 0 := by decide +kernel
theorem z4 : ∀ g : Fin 16, 20 - 0 ≤ tmax (15 - g.val) → g.val = 0 := by decide +kernel
theorem z5 : ∀ h : Fin 7, 15 - 0 ≤ pmax (6 - h.val) → h.val = 0 := by decide +kernel

theorem cnt_bounds (p : Nat → Bool) : cnt 0 (ord p) ≤ 1 ∧ cnt 1 (ord p) ≤ 6 ∧ cnt 2 (ord p) ≤ 15 ∧ cnt 3 (ord p) ≤ 20 ∧ cnt 4 (ord p) ≤ 15 ∧ cnt 5 (ord p) ≤ 6 ∧ cnt 6 (ord p) ≤ 1 := by
  rw [cnt0, cnt1, cnt2, cnt3, cnt4, cnt5, cnt6]
  exact ⟨List.countP_le_length, List.countP_le_length, List.countP_le_length, List.countP_le_length, List.countP_le_length, List.countP_le_length, List.countP_le_length⟩
theorem zero_of_point {p : Nat → Bool} (hd : Down p) (h : 0 < cnt 1 (ord p)) : cnt 0 (ord p) = 1 := by
  rw [cnt1, List.countP_pos_iff] at h
  obtain ⟨s, hs, hp⟩ := h
  have h0 : p 0 = true := hd 0 s (by decide) (ones_lt s hs) (by simp [sub]) hp
  rw [cnt0, List.countP_cons, h0]
  rfl

/-- The bound holds at every size, and below a count there is a count. -/
theorem kk {p : Nat → Bool} (hd : Down p) (k : Nat) (h1 : 1 ≤ k) (h6 : k ≤ 6) (hc : 0 < cnt k (ord p)) : 0 < cnt (k - 1) (ord p) ∧ sh 0 k (cnt k (ord p)) ≤ cnt (k - 1) (ord p) := by
  obtain ⟨b0, b1, b2, b3, b4, b5, b6⟩ := cnt_bounds p
  rcases (by omega : k = 1 ∨ k = 2 ∨ k = 3 ∨ k = 4 ∨ k = 5 ∨ k = 6) with rfl | rfl | rfl | rfl | rfl | rfl
  · have h := zero_of_point hd hc
    have h2 := c1 ⟨cnt 1 (ord p), by omega⟩
    dsimp only at h2
    show 0 < cnt 0 (ord p) ∧ sh 0 1 (cnt 1 (ord p)) ≤ cnt 0 (ord p)
    omega
  · have h := le2 hd
    have hz : 0 < cnt 1 (ord p) := by
      rcases Nat.eq_zero_or_pos (cnt 1 (ord p)) with e | e
      · rw [e] at h; have := z2 ⟨cnt 2 (ord p), by omega⟩ h; dsimp only at this; omega
      · exact e
    exact ⟨hz, c2 ⟨cnt 1 (ord p), by omega⟩ ⟨cnt 2 (ord p), by omega⟩ h⟩
  · have h := le3 hd
    have hz : 0 < cnt 2 (ord p) := by
      rcases Nat.eq_zero_or_pos (cnt 2 (ord p)) with e | e
      · rw [e] at h; have := z3 ⟨cnt 3 (ord p), by omega⟩ h; dsimp only at this; omega
      · exact e
    exact ⟨hz, c3 ⟨cnt 2 (ord p), by omega⟩ ⟨cnt 3 (ord p), by omega⟩ h⟩
  · have h := le4 hd
    have hz : 0 < cnt 3 (ord p) := by
      rcases Nat.eq_zero_or_pos (cnt 3 (ord p)) with e | e
      · rw [e] at h; have := z4 ⟨cnt 4 (ord p), by omega⟩ h; dsimp only at this; omega
      · exact e
    exact ⟨hz, c4 ⟨cnt 3 (ord p), by omega⟩ ⟨cnt 4 (ord p), by omega⟩ h⟩
  · have h := le5 hd
    have hz : 0 < cnt 4 (ord p) := by
      rcases Nat.eq_zero_or_pos (cnt 4 (ord p)) with e | e
      · rw [e] at h; have := z5 ⟨cnt 5 (ord p), by omega⟩ h; dsimp only at this; omega
      · exact e
    exact ⟨hz, c5 ⟨cnt 4 (ord p), by omega⟩ ⟨cnt 5 (ord p), by omega⟩ h⟩
  · have h := le6 hd hc
    have h2 := c6 ⟨cnt 6 (ord p), by omega⟩
    dsimp only at h2
    show 0 < cnt 5 (ord p) ∧ sh 0 6 (cnt 6 (ord p)) ≤ cnt 5 (ord p)
    omega
theorem down_pos {p : Nat → Bool} (hd : Down p) : ∀ (j k : Nat), k + j ≤ 6 → 0 < cnt (k + j) (ord p) → 0 < cnt k (ord p)
  | 0, k, _, h => h
  | j + 1, k, h6, h => down_pos hd j k (by omega) (by
    have := (kk hd (k + (j + 1)) (by omega) h6 h).1
    rwa [show k + (j + 1) - 1 = k + j by omega] at this)
theorem top_pos (L : List Int) (h : 0 < top L) : 0 < cnt (top L - 1) L := by
  have hm : ∀ (L : List Int) (m : Nat), m < L.foldl (fun m x => max m (pc x.toNat + 1)) m → ∃ x ∈ L, pc x.toNat + 1 = L.foldl (fun m x => max m (pc x.toNat + 1)) m := by
    intro L
    induction L with
    | nil => intro m h; simp at h
    | cons x L ih =>
      intro m h
      rw [List.foldl_cons] at h ⊢
      rcases Nat.lt_or_ge (max m (pc x.toNat + 1)) (L.foldl (fun m x => max m (pc x.toNat + 1)) (max m (pc x.toNat + 1))) with h1 | h1
      · obtain ⟨y, hy, e⟩ := ih _ h1
        exact ⟨y, List.mem_cons_of_mem _ hy, e⟩
      · have hge : ∀ (L : List Int) (m : Nat), m ≤ L.foldl (fun m x => max m (pc x.toNat + 1)) m := by
          intro L
          induction L with
          | nil => intro m; exact Nat.le_refl _
          | cons x L ih => intro m; exact Nat.le_trans (Nat.le_max_left _ _) (ih _)
        have h2 := hge L (max m (pc x.toNat + 1))
        refine ⟨x, List.mem_cons_self .., ?_⟩
        omega
  obtain ⟨x, hx, e⟩ := hm L 0 h
  unfold cnt
  rw [List.countP_pos_iff]
  refine ⟨x, hx, ?_⟩
  rw [beq_iff_eq]
  have e : pc x.toNat + 1 = top L := e
  omega

/-- COUNTS OF COMPLEXES ARE POSSIBLE ONES. -/
theorem counts_possible (n : Int) (xs : List Int) (h : 0 < (counts (faces n xs)).length) : countsB (counts (faces n xs)) = true := by
  have ht := h
  rw [counts_length] at ht
  have h7 := top_le (faces n xs)
  by_cases hC : isC n xs = true
  · have hF : faces n xs = ord (inF xs) := by unfold faces; rw [if_pos hC]
    have hd := inF_down xs
    rw [hF] at ht h7 ⊢
    have hb := cnt_bounds (inF xs)
    have htp := top_pos _ ht
    have hpos : ∀ k, k < top (ord (inF xs)) → 0 < cnt k (ord (inF xs)) := fun k hk =>
      down_pos hd (top (ord (inF xs)) - 1 - k) k (by omega) (by rw [show k + (top (ord (inF xs)) - 1 - k) = top (ord (inF xs)) - 1 by omega]; exact htp)
    unfold countsB
    rw [counts_length, Bool.and_eq_true, Bool.and_eq_true, List.all_eq_true]
    refine ⟨⟨decide_eq_true (by omega), decide_eq_true (by omega)⟩, fun k hk => ?_⟩
    rw [List.mem_range] at hk
    have hle : cnt k (ord (inF xs)) ≤ 20 := by
      rcases (by omega : k = 0 ∨ k = 1 ∨ k = 2 ∨ k = 3 ∨ k = 4 ∨ k = 5 ∨ k = 6) with rfl | rfl | rfl | rfl | rfl | rfl | rfl <;> omega
    rw [stepB_iff, counts_at _ k hk]
    have hp := hpos k hk
    refine ⟨by omega, by omega, fun e => ?_, fun e => ?_⟩
    · subst e
      rw [counts_at _ 0 hk]
      omega
    · rw [counts_at _ (k - 1) (by omega), boundZ_in (by omega) e (by omega)]
      have := (kk hd k e (by omega) hp).2
      omega
  · exfalso
    have : faces n xs = [] := by unfold faces; rw [if_neg hC]
    rw [this] at ht
    exact absurd ht (by decide)

end Go.Proofs.Ytmonaiojejbhkaa.Kk

/-! COMPRESSED COMPLEXES, of no program: they have the counts that they are made of. -/

namespace Go.Proofs.Ytmonaiojejbhkaa.Kk
open Sets Hn

/-- The sets with k points, ascending. -/
def lev : Nat → List Nat
  | 0 => [0]
  | 1 => ones
  | 2 => twos
  | 3 => threes
  | 4 => [15, 23, 27, 29, 30, 39, 43, 45, 46, 51, 53, 54, 57, 58, 60]
  | 5 => [31, 47, 55, 59, 61, 62]
  | 6 => [63]
  | _ => []
theorem lev_is : ∀ k : Fin 7, lev k.val = (List.range 64).filter fun s => pc s == k.val := by decide +kernel
theorem lev_ord : ∀ k : Fin 7, (ord fun _ => true).filter (fun x => pc x.toNat == k.val) = (lev k.val).map Int.ofNat := by decide +kernel
theorem lev_len : ∀ k : Fin 7, (lev k.val).length = ch 6 k.val := by decide +kernel
theorem lev_nodup : ∀ k : Fin 7, (lev k.val).Nodup := by decide +kernel
theorem mem_lev {k s : Nat} (hk : k ≤ 6) : s ∈ lev k ↔ s < 64 ∧ pc s = k := by
  rw [lev_is ⟨k, by omega⟩, List.mem_filter, List.mem_range, beq_iff_eq]
def firstN (k m : Nat) : List Nat := (lev k).take m
/-- FirstSets. -/
def fsZ (k m : Int) : List Int := if 0 ≤ k ∧ k ≤ 6 ∧ 0 ≤ m ∧ m ≤ (ch 6 k.toNat : Int) then (firstN k.toNat m.toNat).map Int.ofNat else []
theorem fsZ_le (k m : Int) : (fsZ k m).length ≤ 20 := by
  unfold fsZ
  split
  · rename_i h
    rw [List.length_map]
    unfold firstN
    rw [List.length_take]
    have := ch_few 6 k.toNat (by omega)
    omega
  · simp
theorem fsZ_in {k m : Nat} (hk : k ≤ 6) (hm : m ≤ ch 6 k) : fsZ (k : Int) (m : Int) = (firstN k m).map Int.ofNat := by
  unfold fsZ; rw [if_pos (by rw [Int.toNat_natCast]; omega)]; rfl

theorem shadows : ∀ k : Fin 6, ∀ m : Fin 21, ((firstN (k.val + 1) m.val).all fun t => (lev k.val).all fun s => !sub s t || (firstN k.val (sh 0 (k.val + 1) m.val)).contains s) = true := by decide +kernel
theorem between : ∀ s t : Fin 64, sub s.val t.val = true → s.val ≠ t.val → ∃ i : Fin 6, sub s.val (t.val - 2 ^ i.val) = true ∧ sub (t.val - 2 ^ i.val) t.val = true ∧ pc (t.val - 2 ^ i.val) + 1 = pc t.val := by decide +kernel

/-- May such a list be compressed? -/
def fitsB (L : List Int) : Bool := countsB L && (List.range L.length).all fun k => decide (L.getD k 0 ≤ (ch 6 k : Int))
/-- What is a face then. -/
def inL (L : List Int) (s : Nat) : Bool := decide (pc s < L.length) && (firstN (pc s) (L.getD (pc s) 0).toNat).contains s
/-- All the sets, one size behind the other. -/
def setsTo (L : List Int) : Nat → List Int
  | 0 => []
  | k + 1 => setsTo L k ++ fsZ (k : Int) (L.getD k 0)
/-- CompressedComplex. -/
def compO (L : List Int) : Option (Int × List Int) := if fitsB L = true then some (6, maximal (setsTo L L.length)) else none

theorem fits_at {L : List Int} (h : fitsB L = true) (k : Nat) (hk : k < L.length) : 1 ≤ L.getD k 0 ∧ L.getD k 0 ≤ (ch 6 k : Int) ∧ k ≤ 6 ∧ (0 < k → sh 0 k (L.getD k 0).toNat ≤ (L.getD (k - 1) 0).toNat) := by
  unfold fitsB at h
  rw [Bool.and_eq_true, List.all_eq_true] at h
  have h1 := (stepB_iff L k).1 (countsB_step h.1 k hk)
  have h2 := of_decide_eq_true (h.2 k (List.mem_range.2 hk))
  have h3 := countsB_length h.1
  refine ⟨h1.1, h2, by omega, fun h0 => ?_⟩
  have h4 := h1.2.2.2 h0
  have e : L.getD k 0 = ((L.getD k 0).toNat : Int) := by omega
  rw [e, boundZ_in (by omega) h0 (by omega)] at h4
  omega
theorem inL_iff {L : List Int} (s : Nat) : inL L s = true ↔ pc s < L.length ∧ s ∈ firstN (pc s) (L.getD (pc s) 0).toNat := by
  unfold inL
  rw [Bool.and_eq_true, decide_eq_true_eq, List.contains_iff_mem]
theorem take_mono {α : Type} {l : List α} {m n : Nat} (h : m ≤ n) {x : α} (hx : x ∈ l.take m) : x ∈ l.take n := by
  have e : l.take m = (l.take n).take m := by rw [List.take_take, Nat.min_eq_left h]
  rw [e] at hx
  exact List.mem_of_mem_take hx
theorem inL_step {L : List Int} (h : fitsB L = true) {s t : Nat} (hs : s < 64) (hst : sub s t = true) (hpc : pc s + 1 = pc t) (hp : inL L t = true) : inL L s = true := by
  rw [inL_iff] at hp ⊢
  obtain ⟨h1, h2⟩ := hp
  obtain ⟨a1, a2, a3, a4⟩ := fits_at h (pc t) h1
  have hs1 := pc_le t
  refine ⟨by omega, ?_⟩
  have h20 := ch_few 6 (pc t) (by omega)
  have hsh := shadows ⟨pc s, by omega⟩ ⟨(L.getD (pc t) 0).toNat, by omega⟩
  dsimp only at hsh
  rw [hpc, List.all_eq_true] at hsh
  have h3 := hsh t h2
  rw [List.all_eq_true] at h3
  have h4 := h3 s ((mem_lev (by omega)).2 ⟨hs, rfl⟩)
  rw [hst] at h4
  have h5 : s ∈ firstN (pc s) (sh 0 (pc t) (L.getD (pc t) 0).toNat) := by
    rw [← List.contains_iff_mem]; simpa using h4
  have h6 := a4 (by omega)
  rw [show pc t - 1 = pc s by omega] at h6
  exact take_mono h6 h5
theorem inL_down {L : List Int} (h : fitsB L = true) : Down (inL L) := by
  have key : ∀ (d s t : Nat), pc t = pc s + d → s < 64 → t < 64 → sub s t = true → inL L t = true → inL L s = true := by
    intro d
    induction d with
    | zero =>
      intro s t hd hs ht hst hp
      by_cases e : s = t
      · rw [e]; exact hp
      · exfalso
        obtain ⟨i, h1, h2, h3⟩ := between ⟨s, hs⟩ ⟨t, ht⟩ hst e
        have : ∀ a b : Fin 64, sub a.val b.val = true → pc a.val ≤ pc b.val := by decide +kernel
        have := this ⟨s, hs⟩ ⟨t - 2 ^ i.val, Nat.lt_of_le_of_lt (Nat.sub_le _ _) ht⟩ h1
        dsimp only at this h3
        omega
    | succ d ih =>
      intro s t hd hs ht hst hp
      have e : s ≠ t := fun e => by rw [e] at hd; omega
      obtain ⟨i, h1, h2, h3⟩ := between ⟨s, hs⟩ ⟨t, ht⟩ hst e
      dsimp only at h1 h2 h3
      have hu : t - 2 ^ i.val < 64 := Nat.lt_of_le_of_lt (Nat.sub_le _ _) ht
      exact ih s (t - 2 ^ i.val) (by omega) hs hu h1 (inL_step h hu h2 (by omega) hp)
  intro s t hs ht hst hp
  have hle : ∀ a b : Fin 64, sub a.val b.val = true → pc a.val ≤ pc b.val := by decide +kernel
  have := hle ⟨s, hs⟩ ⟨t, ht⟩ hst
  dsimp only at this
  exact key (pc t - pc s) s t (by omega) hs ht hst hp

theorem count_take (l : List Nat) (hn : l.Nodup) (m : Nat) (hm : m ≤ l.length) : (l.countP fun s => (l.take m).contains s) = m := by
  have e : l.countP (fun s => (l.take m).contains s) = (l.take m).countP (fun s => (l.take m).contains s) + (l.drop m).countP (fun s => (l.take m).contains s) := by
    rw [← List.countP_append, List.take_append_drop]
  have h1 : (l.take m).countP (fun s => (l.take m).contains s) = (l.take m).length := List.countP_eq_length.2 (fun s hs => by rw [List.contains_iff_mem]; exact hs)
  have h2 : (l.drop m).countP (fun s => (l.take m).contains s) = 0 := by
    rw [List.countP_eq_zero]
    intro s hs hc
    rw [List.contains_iff_mem] at hc
    have hd : (l.take m ++ l.drop m).Nodup := by rw [List.take_append_drop]; exact hn
    exact (List.nodup_append.1 hd).2.2 s hc s hs rfl
  rw [e, h1, h2, List.length_take]
  omega
theorem cnt_inL {L : List Int} (h : fitsB L = true) (k : Nat) (hk : k ≤ 6) : cnt k (ord (inL L)) = if k < L.length then (L.getD k 0).toNat else 0 := by
  rw [cnt_list k (lev k) (lev_ord ⟨k, by omega⟩)]
  by_cases e : k < L.length
  · rw [if_pos e]
    obtain ⟨a1, a2, _, _⟩ := fits_at h k e
    rw [← count_take (lev k) (lev_nodup ⟨k, by omega⟩) (L.getD k 0).toNat (by rw [lev_len ⟨k, by omega⟩]; dsimp only; omega)]
    apply List.countP_congr
    intro s hs
    have hpc := ((mem_lev hk).1 hs).2
    rw [inL_iff, hpc, List.contains_iff_mem]
    exact ⟨fun h => h.2, fun h => ⟨e, h⟩⟩
  · rw [if_neg e, List.countP_eq_zero]
    intro s hs hc
    have hpc := ((mem_lev hk).1 hs).2
    rw [inL_iff, hpc] at hc
    exact e hc.1
theorem mem_setsTo {L : List Int} (h : fitsB L = true) : ∀ (n : Nat), n ≤ L.length → ∀ x : Int, x ∈ setsTo L n ↔ ∃ s : Nat, x = (s : Int) ∧ s < 64 ∧ pc s < n ∧ inL L s = true
  | 0, _, x => by
    constructor
    · intro h; simp [setsTo] at h
    · rintro ⟨s, _, _, h, _⟩; omega
  | n + 1, hn, x => by
    obtain ⟨a1, a2, a3, _⟩ := fits_at h n (by omega)
    have e : L.getD n 0 = ((L.getD n 0).toNat : Int) := by omega
    have e2 : fsZ (n : Int) (L.getD n 0) = (firstN n (L.getD n 0).toNat).map Int.ofNat := by
      conv => lhs; rw [e]
      exact fsZ_in a3 (by omega)
    rw [setsTo, List.mem_append, mem_setsTo h n (by omega) x, e2, List.mem_map]
    constructor
    · rintro (⟨s, h1, h2, h3, h4⟩ | ⟨s, h1, h2⟩)
      · exact ⟨s, h1, h2, by omega, h4⟩
      · have hm := (mem_lev a3).1 (List.mem_of_mem_take h1)
        exact ⟨s, h2.symm, hm.1, by omega, by rw [inL_iff, hm.2]; exact ⟨by omega, h1⟩⟩
    · rintro ⟨s, h1, h2, h3, h4⟩
      rcases Nat.lt_or_eq_of_le (Nat.le_of_lt_succ h3) with e3 | e3
      · exact Or.inl ⟨s, h1, h2, e3, h4⟩
      · rw [inL_iff, e3] at h4
        exact Or.inr ⟨s, h4.2, h1.symm⟩
theorem setsTo_ok {L : List Int} (h : fitsB L = true) : allOk (setsTo L L.length) = true := by
  unfold allOk
  rw [List.all_eq_true]
  intro x hx
  obtain ⟨s, rfl, hs, _⟩ := (mem_setsTo h L.length (Nat.le_refl _) x).1 hx
  exact (okZ_nat s).2 hs
theorem setsTo_len (L : List Int) : ∀ n, (setsTo L n).length ≤ 20 * n
  | 0 => by simp [setsTo]
  | n + 1 => by
    rw [setsTo, List.length_append]
    have := setsTo_len L n
    have := fsZ_le (n : Int) (L.getD n 0)
    omega
theorem inF_sets {L : List Int} (h : fitsB L = true) (t : Nat) (ht : t < 64) : inF (setsTo L L.length) t = inL L t := by
  rw [Bool.eq_iff_iff, inF_iff]
  constructor
  · rintro ⟨x, hx, hs⟩
    obtain ⟨s, rfl, hs64, _, hp⟩ := (mem_setsTo h L.length (Nat.le_refl _) x).1 hx
    exact inL_down h t s ht hs64 hs hp
  · intro hp
    exact ⟨(t : Int), (mem_setsTo h L.length (Nat.le_refl _) _).2 ⟨t, rfl, ht, ((inL_iff t).1 hp).1, hp⟩, by simp [sub]⟩
theorem comp_isC {L : List Int} (h : fitsB L = true) : isC 6 (maximal (setsTo L L.length)) = true := by
  apply isC_maximal 6 _ (by decide) (by decide)
  intro x hx
  obtain ⟨s, rfl, hs, _⟩ := (mem_setsTo h L.length (Nat.le_refl _) x).1 hx
  have : ∀ s : Fin 64, setB 6 (s.val : Int) = true := by decide +kernel
  exact this ⟨s, hs⟩
theorem comp_faces {L : List Int} (h : fitsB L = true) : faces 6 (maximal (setsTo L L.length)) = ord (inL L) := by
  have hd : Down (inF (setsTo L L.length)) := inF_down _
  unfold faces
  rw [if_pos (comp_isC h), maximal_maxQ _ (setsTo_ok h)]
  apply ord_congr
  intro s hs
  rw [inF_maxQ _ hd s hs, inF_sets h s hs]
/-- A compressed complex has the counts that it is made of. -/
theorem comp_counts {L : List Int} (h : fitsB L = true) : counts (faces 6 (maximal (setsTo L L.length))) = L := by
  rw [comp_faces h]
  have hl : 1 ≤ L.length ∧ L.length ≤ 7 := by
    unfold fitsB at h
    rw [Bool.and_eq_true] at h
    exact countsB_length h.1
  have ht : top (ord (inL L)) = L.length := by
    have h1 := top_le (ord (inL L))
    rcases Nat.lt_trichotomy (top (ord (inL L))) L.length with e | e | e
    · exfalso
      have h2 := cnt_inL h (L.length - 1) (by omega)
      rw [if_pos (by omega)] at h2
      have h3 := ge_top (ord (inL L)) (L.length - 1) (by omega)
      have h4 := (fits_at h (L.length - 1) (by omega)).1
      omega
    · exact e
    · exfalso
      have h2 := top_pos (ord (inL L)) (by omega)
      have h3 := cnt_inL h (top (ord (inL L)) - 1) (by omega)
      rw [if_neg (by omega)] at h3
      omega
  apply List.ext_getElem (by rw [counts_length, ht])
  intro k h1 h2
  have e1 := counts_at (ord (inL L)) k (by omega)
  rw [cnt_inL h k (by omega), if_pos h2] at e1
  have a1 := (fits_at h k h2).1
  rw [List.getD, List.getElem?_eq_getElem h1] at e1
  have e2 : L.getD k 0 = L[k] := by rw [List.getD, List.getElem?_eq_getElem h2]; rfl
  simp only [Option.getD_some] at e1
  rw [e1, ← e2]
  omega

end Go.Proofs.Ytmonaiojejbhkaa.Kk

/-! CASCADES, of no program: what the walks need: bounds, lists of numbers. -/

namespace Go.Proofs.Ytmonaiojejbhkaa.Kk
open Sets Hn

/-- For these numbers all products stay small. -/
def goodB (n k : Nat) : Prop := n ≤ 46 ∧ k ≤ 7 ∨ n ≤ 1001 ∧ k ≤ 2
theorem line46 : ∀ j : Fin 8, (line 46).getD j.val 0 ≤ 53524680 := by decide +kernel
theorem ch_one (n : Nat) : ch n 1 = n := by
  induction n with
  | zero => rfl
  | succ n ih => rw [ch_next, ch_zero, ih]; omega
theorem ch_two (n : Nat) : ch n 2 * 2 ≤ n * n := by
  rcases Nat.eq_zero_or_pos n with e | e
  · subst e; decide
  · have := ch_step n 1 e
    rw [ch_one] at this
    show ch n (1 + 1) * (1 + 1) ≤ n * n
    rw [this]
    exact Nat.mul_le_mul_left n (Nat.sub_le _ _)
theorem good_at {n k : Nat} (h : goodB n k) (j : Nat) (hj : j ≤ k) : ch n j * n ≤ 4611686018427387904 := by
  rcases h with ⟨h1, h2⟩ | ⟨h1, h2⟩
  · have h3 : ch n j ≤ 53524680 := by
      rcases Nat.eq_zero_or_pos j with e | e
      · rw [e, ch_zero]; decide
      · have := ch_mono (i := j) e h1
        have h4 := line46 ⟨j, by omega⟩
        have h4 : (line 46).getD j 0 ≤ 53524680 := h4
        rw [line_get] at h4
        omega
    exact Nat.le_trans (Nat.mul_le_mul h3 h1) (by decide)
  · have h3 : ch n j ≤ 1002001 := by
      rcases (by omega : j = 0 ∨ j = 1 ∨ j = 2) with rfl | rfl | rfl
      · rw [ch_zero]; decide
      · rw [ch_one]; omega
      · have h4 := ch_two n
        have h5 := Nat.mul_le_mul h1 h1
        omega
    exact Nat.le_trans (Nat.mul_le_mul h3 h1) (by decide)
theorem small_up {i a q : Nat} (h2 : 2 ≤ i) (h6 : i ≤ 6) (h : ch a i ≤ q) (hq : q ≤ 1000) : a ≤ 45 := by
  rcases Nat.lt_or_ge 45 a with e | e
  · exfalso
    have h1 := big46 ⟨i, by omega⟩ h2
    have h1 : 1001 ≤ (line 46).getD i 0 := h1
    rw [line_get] at h1
    have h3 := ch_mono (i := i) (by omega) (show 46 ≤ a by omega)
    omega
  · exact e
theorem good_up (i a q : Nat) (h1 : 1 ≤ i) (h6 : i ≤ 6) (h : ch a i ≤ q) (hq : q ≤ 1000) : goodB (a + 1) i ∧ a ≤ 1000 ∧ goodB a i := by
  rcases Nat.lt_or_ge i 2 with e | e
  · have e1 : i = 1 := by omega
    subst e1
    rw [ch_one] at h
    exact ⟨.inr ⟨by omega, by omega⟩, by omega, .inr ⟨by omega, by omega⟩⟩
  · have := small_up e h6 h hq
    exact ⟨.inl ⟨by omega, by omega⟩, by omega, .inl ⟨by omega, by omega⟩⟩
/-- Numbers as they stand in a slice. -/
def ofN (L : List Nat) : List Int := L.map Int.ofNat
theorem ofN_length (L : List Nat) : (ofN L).length = L.length := List.length_map ..
theorem ofN_snoc (L : List Nat) (a : Nat) : ofN (L ++ [a]) = ofN L ++ [(a : Int)] := by unfold ofN; rw [List.map_append]; rfl
theorem ofN_at (L : List Nat) (j : Nat) (h : j < L.length) : (ofN L).getD j 0 = (L.getD j 0 : Nat) := by
  unfold ofN
  rw [List.getD, List.getElem?_map, List.getD, List.getElem?_eq_getElem h]
  rfl
def fineB (m k : Int) : Bool := decide (0 ≤ m ∧ m ≤ 1000) && decide (1 ≤ k ∧ k ≤ 6)
/-- CascadeOf. -/
def cascZ (m k : Int) : List Int := if fineB m k = true then ofN (casc k.toNat m.toNat) else []
theorem cascZ_le (m k : Int) : (cascZ m k).length ≤ 1048576 := by
  unfold cascZ
  split
  · rename_i h
    unfold fineB at h
    rw [Bool.and_eq_true, decide_eq_true_eq, decide_eq_true_eq] at h
    rw [ofN_length]
    have := casc_le k.toNat m.toNat
    omega
  · simp
theorem casc_one (m j : Nat) (hm : m ≤ 1000) (hj : j < (casc 1 m).length) : (casc 1 m).getD j 0 ≤ 1000 ∧ j = 0 := by
  have hl := casc_le 1 m
  have e : j = 0 := by omega
  subst e
  refine ⟨?_, rfl⟩
  rw [casc] at hj ⊢
  by_cases e : m = 0
  · rw [if_pos e]; decide
  · rw [if_neg e]
    obtain ⟨_, g1, _⟩ := gr_spec (m := m) (i := 1) (by omega) (by omega) hm
    rw [ch_one] at g1
    show gr m 1 ≤ 1000
    omega
theorem casc_good0 (K M : Nat) (h1 : 1 ≤ K) (h6 : K ≤ 6) (hM : M ≤ 1000) (j : Nat) (hj : j < (casc K M).length) : goodB ((casc K M).getD j 0 + 0) (K - 1 - j + 2 * 0) := by
  rcases Nat.lt_or_ge K 2 with e | e
  · have e1 : K = 1 := by omega
    subst e1
    have := casc_one M j hM hj
    exact .inr ⟨by omega, by omega⟩
  · have := casc_small K M j e h6 hM hj
    exact .inl ⟨by omega, by omega⟩
theorem casc_good1 (K M : Nat) (h1 : 1 ≤ K) (h6 : K ≤ 6) (hM : M ≤ 1000) (j : Nat) (hj : j < (casc K M).length) : goodB ((casc K M).getD j 0 + 1) (K - 1 - j + 2 * 1) := by
  rcases Nat.lt_or_ge K 2 with e | e
  · have e1 : K = 1 := by omega
    subst e1
    have := casc_one M j hM hj
    exact .inr ⟨by omega, by omega⟩
  · have := casc_small K M j e h6 hM hj
    exact .inl ⟨by omega, by omega⟩
/-- A sum of few small numbers. -/
theorem sumT_le (f : Nat → Nat → Nat) (L : List Nat) (b : Nat) : ∀ n : Nat, (∀ j, j < n → f j (L.getD j 0) ≤ b) → sumT f L n ≤ b * n
  | 0, _ => Nat.le_refl _
  | n + 1, h => by
    rw [sumT, Nat.mul_succ]
    exact Nat.add_le_add (sumT_le f L b n (fun j hj => h j (by omega))) (h n (by omega))
theorem good_le {n k : Nat} (h : goodB n k) : ch n k ≤ 53524680 := by
  rcases h with ⟨h1, h2⟩ | ⟨h1, h2⟩
  · rcases Nat.eq_zero_or_pos k with e | e
    · rw [e, ch_zero]; decide
    · have := ch_mono (i := k) e h1
      have h4 : (line 46).getD k 0 ≤ 53524680 := line46 ⟨k, by omega⟩
      rw [line_get] at h4
      omega
  · rcases (by omega : k = 0 ∨ k = 1 ∨ k = 2) with rfl | rfl | rfl
    · rw [ch_zero]; decide
    · rw [ch_one]; omega
    · have h4 := ch_two n
      have h5 := Nat.mul_le_mul h1 h1
      omega
theorem casc_sum_le0 (K M : Nat) (h1 : 1 ≤ K) (h6 : K ≤ 6) (hM : M ≤ 1000) (j : Nat) (hj : j ≤ (casc K M).length) : sumT (fun j x => ch (x + 0) (K - 1 - j + 2 * 0)) (casc K M) j ≤ 400000000 := by
  have hl := casc_le K M
  have := sumT_le (fun j x => ch (x + 0) (K - 1 - j + 2 * 0)) (casc K M) 53524680 j (fun i hi => good_le (casc_good0 K M h1 h6 hM i (by omega)))
  omega
theorem casc_sum_le1 (K M : Nat) (h1 : 1 ≤ K) (h6 : K ≤ 6) (hM : M ≤ 1000) (j : Nat) (hj : j ≤ (casc K M).length) : sumT (fun j x => ch (x + 1) (K - 1 - j + 2 * 1)) (casc K M) j ≤ 400000000 := by
  have hl := casc_le K M
  have := sumT_le (fun j x => ch (x + 1) (K - 1 - j + 2 * 1)) (casc K M) 53524680 j (fun i hi => good_le (casc_good1 K M h1 h6 hM i (by omega)))
  omega

/-- The sets with k points below s. -/
def fl (k s : Nat) : List Nat := (List.range s).filter fun t => pc t == k
theorem fl_zero (k : Nat) : fl k 0 = [] := rfl
theorem fl_hit {k s : Nat} (h : pc s = k) : fl k (s + 1) = fl k s ++ [s] := by
  unfold fl; rw [List.range_succ, List.filter_append]; simp [h]
theorem fl_miss {k s : Nat} (h : pc s ≠ k) : fl k (s + 1) = fl k s := by
  unfold fl; rw [List.range_succ, List.filter_append]; simp [h]
theorem fl_take {k s m : Nat} (hk : k ≤ 6) (hs : s ≤ 64) (hl : (fl k s).length ≤ m) (he : s = 64 ∨ (fl k s).length = m) : firstN k m = fl k s := by
  unfold firstN
  rw [lev_is ⟨k, by omega⟩]
  show (fl k 64).take m = fl k s
  rcases he with e | e
  · subst e; exact List.take_of_length_le hl
  · obtain ⟨d, hd⟩ : ∃ d, 64 = s + d := ⟨64 - s, by omega⟩
    have h2 : fl k 64 = fl k s ++ ((List.range d).map (s + ·)).filter (fun t => pc t == k) := by
      rw [hd]
      unfold fl; rw [List.range_add, List.filter_append]
    rw [h2, ← e]
    exact List.take_left ..
theorem fl_le (k : Nat) : ∀ s, (fl k s).length ≤ s := fun s => by
  unfold fl
  exact Nat.le_trans (List.length_filter_le _ _) (by simp)

end Go.Proofs.Ytmonaiojejbhkaa.Kk
