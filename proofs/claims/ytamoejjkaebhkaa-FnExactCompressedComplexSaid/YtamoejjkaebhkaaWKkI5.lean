/-
  WALKS: impl's chapter 11: FirstSets.
-/
import Derived.Test.YtamoejjkaebhkaaJg16
import Derived.Test.YtamoejjkaebhkaaJg9
import Derived.Test.YtamoejjkaebhkaaJg13
namespace Go.Proofs.Ytamoejjkaebhkaa
open Go.RowKit
open Sets Hn Kk

theorem ord_size : ∀ k : Fin 7, ord (fun s => ((pc s : Int) == (k.val : Int))) = (lev k.val).map Int.ofNat := fun k => by
  have h : ord (fun s => ((pc s : Int) == (k.val : Int))) = ord (fun s => pc s == k.val) := ord_congr fun s _ => by
    rw [Bool.eq_iff_iff, beq_iff_eq, beq_iff_eq]; omega
  rw [h, ord_filter]
  exact lev_ord k
theorem ord_size_no (k : Int) (h : ¬(0 ≤ k ∧ k ≤ 6)) : ord (fun s => ((pc s : Int) == k)) = [] := by
  rw [← ord_false]
  refine ord_congr fun s hs => ?_
  have := pc_le s
  rw [beq_eq_false_iff_ne]
  omega
/-- FirstSets, told by all sets of the size. -/
theorem fsZ_take (k m : Int) (S : List Int) (hS : ord (fun s => ((pc s : Int) == k)) = S) : fsZ k m = if m < 0 ∨ (S.length : Int) < m then [] else S.take m.toNat := by
  subst hS
  by_cases hk : 0 ≤ k ∧ k ≤ 6
  · obtain ⟨K, rfl⟩ : ∃ K : Nat, k = (K : Int) := ⟨k.toNat, by omega⟩
    have h1 := ord_size ⟨K, by omega⟩
    have h2 := lev_len ⟨K, by omega⟩
    dsimp only at h1 h2
    rw [h1, List.length_map, h2]
    unfold fsZ
    rw [Int.toNat_natCast]
    by_cases hm : m < 0 ∨ (ch 6 K : Int) < m
    · rw [if_pos hm, if_neg (by omega)]
    · rw [if_neg hm, if_pos (by omega)]; unfold firstN; rw [List.map_take]
  · rw [ord_size_no k hk]
    unfold fsZ
    rw [if_neg (by omega)]
    split
    · rfl
    · rw [List.take_nil]

theorem OwnInts.upTo {w : World} {base g l c : Nat} {xs : List Int} (h : OwnInts w base (.slice (some ⟨g, 0, none⟩) l c) xs) (r : Nat) (hr : r ≤ xs.length) : OwnInts w base (.slice (some ⟨g, 0, none⟩) r c) (xs.take r) := by
  have hl : (xs.take r).length = r := by rw [List.length_take]; omega
  unfold OwnInts at *
  rw [hl]
  refine ⟨by rw [List.length_map, hl, Nat.mul_one], ?_⟩
  rcases h.2 with ⟨h0, _⟩ | ⟨g', cap, cur, hv, h1, hh, h2, h3, h4, h5⟩
  · cases h0
  · injection hv with e1 e2 e3
    injection e1 with e1
    injection e1 with e1 _ _
    subst e1
    subst e3
    refine .inr ⟨g, c, cur, rfl, h1, hh, by omega, h3, h4, ?_⟩
    have h6 := congrArg (List.take r) h5
    rw [List.take_take, Nat.mul_one, Nat.min_eq_left hr, ← List.map_take] at h6
    rw [Nat.mul_one]
    exact h6
theorem OwnInts.kinds {w : World} {base : Nat} {v : Value} {xs : List Int} (h : OwnInts w base v xs) : (v = .slice none 0 0 ∧ xs = []) ∨ ∃ g c, v = .slice (some ⟨g, 0, none⟩) xs.length c ∧ xs.length ≤ c := by
  unfold OwnInts at h
  rcases h.2 with ⟨hv, h0⟩ | ⟨g, cap, cur, hv, _, _, hcap, _⟩
  · exact .inl ⟨hv, List.eq_nil_of_length_eq_zero h0⟩
  · exact .inr ⟨g, cap, hv, hcap⟩
theorem slice_toK (g k cap r : Nat) (hr : r ≤ cap) (w : World) : (Instr.sliceAt 26 (.slice (some ⟨g, 0, none⟩) k cap) none (some (.int .i64 (r : Int))) none).run Try.prog w = .ok (.slice (some ⟨g, 0, none⟩) r cap) w := by
  have h1 : ¬ (cap < r) := by omega
  by_cases h : cap = 0
  · have e : r = 0 := by omega
    subst h
    subst e
    go_simp
  · go_simp
theorem slice_nilK (w : World) : (Instr.sliceAt 26 (.slice none 0 0) none (some (.int .i64 0)) none).run Try.prog w = .ok (.slice none 0 0) w := by
  go_simp

set_option maxRecDepth 100000 in
set_option maxHeartbeats 2000000 in
theorem first1_pred (B : Nat) (k : Int) (w : World) (hB : B < w.heap.size) (h : w.cell? ⟨B, 0, none⟩ = some (.int .i64 k)) : PredB 50 #[.pointer (some ⟨B, 0, none⟩)] (fun s => ((pc s : Int) == k)) w := by
  intro W s hs hb
  have hc : W.cell? ⟨B, 0, none⟩ = some (.int .i64 k) := (hb.cell (p := ⟨B, 0, none⟩) hB).trans h
  show Calls Try.prog 50 #[.int .i64 (s : Int), .pointer (some ⟨B, 0, none⟩)] W _
  clear h hb
  go_enter Try.func50, Try.ntmps50
  go_wp2_with fail
  go_quiet ((go_at_call 51; refine quietlyH (implSizeOf_nat s hs _)))
  go_wp2
  go_ret
  exact ⟨rfl, bdrew (Below.refl _ _) _⟩

set_option maxRecDepth 100000 in
set_option maxHeartbeats 4000000 in
theorem implFirst_any (k m : Int) (w : World) : Calls Try.prog 23 #[.int .i64 k, .int .i64 m] w fun e w' => ∃ v, e = .returned v ∧ OwnInts w' w.heap.size v (fsZ k m) ∧ Below w.heap.size w w' := by
  have eg : ∀ args w, (callFunc 50 args).run Try.prog w = .ok (.enter 50 args) w := enters_of Try.func50 (by kernel_rfl) rfl
  have EG := Lib.hid eg
  obtain ⟨S, hS⟩ : ∃ S, ord (fun s => ((pc s : Int) == k)) = S := ⟨_, rfl⟩
  have HZ := Lib.hid (fsZ_take k m S hS)
  have hS64 : S.length ≤ 64 := by rw [← hS]; exact ord_le _
  have HS := Lib.hid hS
  clear eg hS
  go_enter Try.func23, Try.ntmps23
  go_wp2_with fail
  refine (setsWhere_bel 50 _ _ _ EG.out (first1_pred w.heap.size k _ (by simp) (by exact World.cell?_alloc_new w _ _ 0))).mono ?_
  rw [HS.out]
  rintro e w1 ⟨v, rfl, hO, hb1⟩
  have hO2 : OwnInts w1 w.heap.size v S := hO.lower (by simp)
  have hB1 : Below w.heap.size w w1 := ((Below.refl _ _).alloc (Nat.le_refl _) _).trans (hb1.mono (by simp))
  have HB := Lib.hid hB1
  have HO := Lib.hid hO2
  clear hO hb1 hO2 hB1 HS
  by_cases h0 : m < 0
  · have hd : decide (m < 0) = true := by simpa using h0
    have HE : Hid (fsZ k m = []) := by
      have : fsZ k m = [] := by rw [HZ.out]; exact if_pos (.inl h0)
      exact this
    obtain ⟨a, c, g, rfl, _⟩ := HO.out.at
    clear h0
    go_wp2
    go_ret
    exact ⟨_, rfl, by rw [HE.out]; exact OwnInts.nil _ _, HB.out⟩
  have hd : decide (m < 0) = false := by simpa using h0
  by_cases h1 : (S.length : Int) < m
  · have hd1 : decide ((S.length : Int) < m) = true := by simpa using h1
    have HE : Hid (fsZ k m = []) := by
      have : fsZ k m = [] := by rw [HZ.out]; exact if_pos (.inr h1)
      exact this
    obtain ⟨a, c, g, rfl, _⟩ := HO.out.at
    clear h1 h0
    go_wp2
    go_ret
    exact ⟨_, rfl, by rw [HE.out]; exact OwnInts.nil _ _, HB.out⟩
  obtain ⟨M, rfl⟩ : ∃ M : Nat, m = (M : Int) := ⟨m.toNat, by omega⟩
  have hM : M ≤ S.length := by omega
  have HE : Hid (fsZ k (M : Int) = S.take M) := by
    have : fsZ k (M : Int) = S.take M := by rw [HZ.out, if_neg (by omega), Int.toNat_natCast]
    exact this
  clear h0 h1
  rcases HO.out.kinds with ⟨rfl, hnil⟩ | ⟨g, c, rfl, hc⟩
  · subst hnil
    obtain rfl : M = 0 := by simpa using hM
    have hsl := slice_nilK
    clear HO hM
    go_wp2
    go_ret
    exact ⟨_, rfl, by rw [HE.out]; exact OwnInts.nil _ _, HB.out⟩
  · have HP := Lib.hid (HO.out.upTo M hM)
    obtain ⟨L, hL⟩ : ∃ L, S.length = L := ⟨_, rfl⟩
    rw [hL] at hc hM hS64 ⊢
    have hd1 : decide ((L : Int) < (M : Int)) = false := by simp; omega
    have hd2 : decide (L < M) = false := by simp; omega
    have hsl := slice_toK g L c M (by omega)
    clear HO hL
    go_wp2
    go_ret
    exact ⟨_, rfl, by rw [HE.out]; exact HP.out, HB.out⟩

end Go.Proofs.Ytamoejjkaebhkaa
