/-
  COMPRESSED COMPLEXES, of no program: they have the counts that they are made of.
-/
import Derived.Test.YtmonaiojejbhkaaKk3
namespace Go.Proofs.Ytmonaiojejbhkaa.Kk
open Sets Hn

/-- The sets with k points, ascending. -/
def lev : Nat → List Nat
  | 0 => [0]
  | 1 => ones
  | 2 => twos
  | 3 => threes
  | 4 => [15, 23, 27, 29, 30, 39, 43, 45, 46, 51, 53, 54, 57, 58, 60]
  | 5 => [31, 47, 55, 59, 61, 62]
  | 6 => [63]
  | _ => []
theorem lev_is : ∀ k : Fin 7, lev k.val = (List.range 64).filter fun s => pc s == k.val := by decide +kernel
theorem lev_ord : ∀ k : Fin 7, (ord fun _ => true).filter (fun x => pc x.toNat == k.val) = (lev k.val).map Int.ofNat := by decide +kernel
theorem lev_len : ∀ k : Fin 7, (lev k.val).length = ch 6 k.val := by decide +kernel
theorem lev_nodup : ∀ k : Fin 7, (lev k.val).Nodup := by decide +kernel
theorem mem_lev {k s : Nat} (hk : k ≤ 6) : s ∈ lev k ↔ s < 64 ∧ pc s = k := by
  rw [lev_is ⟨k, by omega⟩, List.mem_filter, List.mem_range, beq_iff_eq]
def firstN (k m : Nat) : List Nat := (lev k).take m
/-- FirstSets. -/
def fsZ (k m : Int) : List Int := if 0 ≤ k ∧ k ≤ 6 ∧ 0 ≤ m ∧ m ≤ (ch 6 k.toNat : Int) then (firstN k.toNat m.toNat).map Int.ofNat else []
theorem fsZ_le (k m : Int) : (fsZ k m).length ≤ 20 := by
  unfold fsZ
  split
  · rename_i h
    rw [List.length_map]
    unfold firstN
    rw [List.length_take]
    have := ch_few 6 k.toNat (by omega)
    omega
  · simp
theorem fsZ_in {k m : Nat} (hk : k ≤ 6) (hm : m ≤ ch 6 k) : fsZ (k : Int) (m : Int) = (firstN k m).map Int.ofNat := by
  unfold fsZ; rw [if_pos (by rw [Int.toNat_natCast]; omega)]; rfl

theorem shadows : ∀ k : Fin 6, ∀ m : Fin 21, ((firstN (k.val + 1) m.val).all fun t => (lev k.val).all fun s => !sub s t || (firstN k.val (sh 0 (k.val + 1) m.val)).contains s) = true := by decide +kernel
theorem between : ∀ s t : Fin 64, sub s.val t.val = true → s.val ≠ t.val → ∃ i : Fin 6, sub s.val (t.val - 2 ^ i.val) = true ∧ sub (t.val - 2 ^ i.val) t.val = true ∧ pc (t.val - 2 ^ i.val) + 1 = pc t.val := by decide +kernel

/-- May such a list be compressed? -/
def fitsB (L : List Int) : Bool := countsB L && (List.range L.length).all fun k => decide (L.getD k 0 ≤ (ch 6 k : Int))
/-- What is a face then. -/
def inL (L : List Int) (s : Nat) : Bool := decide (pc s < L.length) && (firstN (pc s) (L.getD (pc s) 0).toNat).contains s
/-- All the sets, one size behind the other. -/
def setsTo (L : List Int) : Nat → List Int
  | 0 => []
  | k + 1 => setsTo L k ++ fsZ (k : Int) (L.getD k 0)
/-- CompressedComplex. -/
def compO (L : List Int) : Option (Int × List Int) := if fitsB L = true then some (6, maximal (setsTo L L.length)) else none

theorem fits_at {L : List Int} (h : fitsB L = true) (k : Nat) (hk : k < L.length) : 1 ≤ L.getD k 0 ∧ L.getD k 0 ≤ (ch 6 k : Int) ∧ k ≤ 6 ∧ (0 < k → sh 0 k (L.getD k 0).toNat ≤ (L.getD (k - 1) 0).toNat) := by
  unfold fitsB at h
  rw [Bool.and_eq_true, List.all_eq_true] at h
  have h1 := (stepB_iff L k).1 (countsB_step h.1 k hk)
  have h2 := of_decide_eq_true (h.2 k (List.mem_range.2 hk))
  have h3 := countsB_length h.1
  refine ⟨h1.1, h2, by omega, fun h0 => ?_⟩
  have h4 := h1.2.2.2 h0
  have e : L.getD k 0 = ((L.getD k 0).toNat : Int) := by omega
  rw [e, boundZ_in (by omega) h0 (by omega)] at h4
  omega
theorem inL_iff {L : List Int} (s : Nat) : inL L s = true ↔ pc s < L.length ∧ s ∈ firstN (pc s) (L.getD (pc s) 0).toNat := by
  unfold inL
  rw [Bool.and_eq_true, decide_eq_true_eq, List.contains_iff_mem]
theorem take_mono {α : Type} {l : List α} {m n : Nat} (h : m ≤ n) {x : α} (hx : x ∈ l.take m) : x ∈ l.take n := by
  have e : l.take m = (l.take n).take m := by rw [List.take_take, Nat.min_eq_left h]
  rw [e] at hx
  exact List.mem_of_mem_take hx
theorem inL_step {L : List Int} (h : fitsB L = true) {s t : Nat} (hs : s < 64) (hst : sub s t = true) (hpc : pc s + 1 = pc t) (hp : inL L t = true) : inL L s = true := by
  rw [inL_iff] at hp ⊢
  obtain ⟨h1, h2⟩ := hp
  obtain ⟨a1, a2, a3, a4⟩ := fits_at h (pc t) h1
  have hs1 := pc_le t
  refine ⟨by omega, ?_⟩
  have h20 := ch_few 6 (pc t) (by omega)
  have hsh := shadows ⟨pc s, by omega⟩ ⟨(L.getD (pc t) 0).toNat, by omega⟩
  dsimp only at hsh
  rw [hpc, List.all_eq_true] at hsh
  have h3 := hsh t h2
  rw [List.all_eq_true] at h3
  have h4 := h3 s ((mem_lev (by omega)).2 ⟨hs, rfl⟩)
  rw [hst] at h4
  have h5 : s ∈ firstN (pc s) (sh 0 (pc t) (L.getD (pc t) 0).toNat) := by
    rw [← List.contains_iff_mem]; simpa using h4
  have h6 := a4 (by omega)
  rw [show pc t - 1 = pc s by omega] at h6
  exact take_mono h6 h5
theorem inL_down {L : List Int} (h : fitsB L = true) : Down (inL L) := by
  have key : ∀ (d s t : Nat), pc t = pc s + d → s < 64 → t < 64 → sub s t = true → inL L t = true → inL L s = true := by
    intro d
    induction d with
    | zero =>
      intro s t hd hs ht hst hp
      by_cases e : s = t
      · rw [e]; exact hp
      · exfalso
        obtain ⟨i, h1, h2, h3⟩ := between ⟨s, hs⟩ ⟨t, ht⟩ hst e
        have : ∀ a b : Fin 64, sub a.val b.val = true → pc a.val ≤ pc b.val := by decide +kernel
        have := this ⟨s, hs⟩ ⟨t - 2 ^ i.val, Nat.lt_of_le_of_lt (Nat.sub_le _ _) ht⟩ h1
        dsimp only at this h3
        omega
    | succ d ih =>
      intro s t hd hs ht hst hp
      have e : s ≠ t := fun e => by rw [e] at hd; omega
      obtain ⟨i, h1, h2, h3⟩ := between ⟨s, hs⟩ ⟨t, ht⟩ hst e
      dsimp only at h1 h2 h3
      have hu : t - 2 ^ i.val < 64 := Nat.lt_of_le_of_lt (Nat.sub_le _ _) ht
      exact ih s (t - 2 ^ i.val) (by omega) hs hu h1 (inL_step h hu h2 (by omega) hp)
  intro s t hs ht hst hp
  have hle : ∀ a b : Fin 64, sub a.val b.val = true → pc a.val ≤ pc b.val := by decide +kernel
  have := hle ⟨s, hs⟩ ⟨t, ht⟩ hst
  dsimp only at this
  exact key (pc t - pc s) s t (by omega) hs ht hst hp

theorem count_take (l : List Nat) (hn : l.Nodup) (m : Nat) (hm : m ≤ l.length) : (l.countP fun s => (l.take m).contains s) = m := by
  have e : l.countP (fun s => (l.take m).contains s) = (l.take m).countP (fun s => (l.take m).contains s) + (l.drop m).countP (fun s => (l.take m).contains s) := by
    rw [← List.countP_append, List.take_append_drop]
  have h1 : (l.take m).countP (fun s => (l.take m).contains s) = (l.take m).length := List.countP_eq_length.2 (fun s hs => by rw [List.contains_iff_mem]; exact hs)
  have h2 : (l.drop m).countP (fun s => (l.take m).contains s) = 0 := by
    rw [List.countP_eq_zero]
    intro s hs hc
    rw [List.contains_iff_mem] at hc
    have hd : (l.take m ++ l.drop m).Nodup := by rw [List.take_append_drop]; exact hn
    exact (List.nodup_append.1 hd).2.2 s hc s hs rfl
  rw [e, h1, h2, List.length_take]
  omega
theorem cnt_inL {L : List Int} (h : fitsB L = true) (k : Nat) (hk : k ≤ 6) : cnt k (ord (inL L)) = if k < L.length then (L.getD k 0).toNat else 0 := by
  rw [cnt_list k (lev k) (lev_ord ⟨k, by omega⟩)]
  by_cases e : k < L.length
  · rw [if_pos e]
    obtain ⟨a1, a2, _, _⟩ := fits_at h k e
    rw [← count_take (lev k) (lev_nodup ⟨k, by omega⟩) (L.getD k 0).toNat (by rw [lev_len ⟨k, by omega⟩]; dsimp only; omega)]
    apply List.countP_congr
    intro s hs
    have hpc := ((mem_lev hk).1 hs).2
    rw [inL_iff, hpc, List.contains_iff_mem]
    exact ⟨fun h => h.2, fun h => ⟨e, h⟩⟩
  · rw [if_neg e, List.countP_eq_zero]
    intro s hs hc
    have hpc := ((mem_lev hk).1 hs).2
    rw [inL_iff, hpc] at hc
    exact e hc.1
theorem mem_setsTo {L : List Int} (h : fitsB L = true) : ∀ (n : Nat), n ≤ L.length → ∀ x : Int, x ∈ setsTo L n ↔ ∃ s : Nat, x = (s : Int) ∧ s < 64 ∧ pc s < n ∧ inL L s = true
  | 0, _, x => by
    constructor
    · intro h; simp [setsTo] at h
    · rintro ⟨s, _, _, h, _⟩; omega
  | n + 1, hn, x => by
    obtain ⟨a1, a2, a3, _⟩ := fits_at h n (by omega)
    have e : L.getD n 0 = ((L.getD n 0).toNat : Int) := by omega
    have e2 : fsZ (n : Int) (L.getD n 0) = (firstN n (L.getD n 0).toNat).map Int.ofNat := by
      conv => lhs; rw [e]
      exact fsZ_in a3 (by omega)
    rw [setsTo, List.mem_append, mem_setsTo h n (by omega) x, e2, List.mem_map]
    constructor
    · rintro (⟨s, h1, h2, h3, h4⟩ | ⟨s, h1, h2⟩)
      · exact ⟨s, h1, h2, by omega, h4⟩
      · have hm := (mem_lev a3).1 (List.mem_of_mem_take h1)
        exact ⟨s, h2.symm, hm.1, by omega, by rw [inL_iff, hm.2]; exact ⟨by omega, h1⟩⟩
    · rintro ⟨s, h1, h2, h3, h4⟩
      rcases Nat.lt_or_eq_of_le (Nat.le_of_lt_succ h3) with e3 | e3
      · exact Or.inl ⟨s, h1, h2, e3, h4⟩
      · rw [inL_iff, e3] at h4
        exact Or.inr ⟨s, h4.2, h1.symm⟩
theorem setsTo_ok {L : List Int} (h : fitsB L = true) : allOk (setsTo L L.length) = true := by
  unfold allOk
  rw [List.all_eq_true]
  intro x hx
  obtain ⟨s, rfl, hs, _⟩ := (mem_setsTo h L.length (Nat.le_refl _) x).1 hx
  exact (okZ_nat s).2 hs
theorem setsTo_len (L : List Int) : ∀ n, (setsTo L n).length ≤ 20 * n
  | 0 => by simp [setsTo]
  | n + 1 => by
    rw [setsTo, List.length_append]
    have := setsTo_len L n
    have := fsZ_le (n : Int) (L.getD n 0)
    omega
theorem inF_sets {L : List Int} (h : fitsB L = true) (t : Nat) (ht : t < 64) : inF (setsTo L L.length) t = inL L t := by
  rw [Bool.eq_iff_iff, inF_iff]
  constructor
  · rintro ⟨x, hx, hs⟩
    obtain ⟨s, rfl, hs64, _, hp⟩ := (mem_setsTo h L.length (Nat.le_refl _) x).1 hx
    exact inL_down h t s ht hs64 hs hp
  · intro hp
    exact ⟨(t : Int), (mem_setsTo h L.length (Nat.le_refl _) _).2 ⟨t, rfl, ht, ((inL_iff t).1 hp).1, hp⟩, by simp [sub]⟩
theorem comp_isC {L : List Int} (h : fitsB L = true) : isC 6 (maximal (setsTo L L.length)) = true := by
  apply isC_maximal 6 _ (by decide) (by decide)
  intro x hx
  obtain ⟨s, rfl, hs, _⟩ := (mem_setsTo h L.length (Nat.le_refl _) x).1 hx
  have : ∀ s : Fin 64, setB 6 (s.val : Int) = true := by decide +kernel
  exact this ⟨s, hs⟩
theorem comp_faces {L : List Int} (h : fitsB L = true) : faces 6 (maximal (setsTo L L.length)) = ord (inL L) := by
  have hd : Down (inF (setsTo L L.length)) := inF_down _
  unfold faces
  rw [if_pos (comp_isC h), maximal_maxQ _ (setsTo_ok h)]
  apply ord_congr
  intro s hs
  rw [inF_maxQ _ hd s hs, inF_sets h s hs]
/-- A compressed complex has the counts that it is made of. -/
theorem comp_counts {L : List Int} (h : fitsB L = true) : counts (faces 6 (maximal (setsTo L L.length))) = L := by
  rw [comp_faces h]
  have hl : 1 ≤ L.length ∧ L.length ≤ 7 := by
    unfold fitsB at h
    rw [Bool.and_eq_true] at h
    exact countsB_length h.1
  have ht : top (ord (inL L)) = L.length := by
    have h1 := top_le (ord (inL L))
    rcases Nat.lt_trichotomy (top (ord (inL L))) L.length with e | e | e
    · exfalso
      have h2 := cnt_inL h (L.length - 1) (by omega)
      rw [if_pos (by omega)] at h2
      have h3 := ge_top (ord (inL L)) (L.length - 1) (by omega)
      have h4 := (fits_at h (L.length - 1) (by omega)).1
      omega
    · exact e
    · exfalso
      have h2 := top_pos (ord (inL L)) (by omega)
      have h3 := cnt_inL h (top (ord (inL L)) - 1) (by omega)
      rw [if_neg (by omega)] at h3
      omega
  apply List.ext_getElem (by rw [counts_length, ht])
  intro k h1 h2
  have e1 := counts_at (ord (inL L)) k (by omega)
  rw [cnt_inL h k (by omega), if_pos h2] at e1
  have a1 := (fits_at h k h2).1
  rw [List.getD, List.getElem?_eq_getElem h1] at e1
  have e2 : L.getD k 0 = L[k] := by rw [List.getD, List.getElem?_eq_getElem h2]; rfl
  simp only [Option.getD_some] at e1
  rw [e1, ← e2]
  omega

end Go.Proofs.Ytmonaiojejbhkaa.Kk
