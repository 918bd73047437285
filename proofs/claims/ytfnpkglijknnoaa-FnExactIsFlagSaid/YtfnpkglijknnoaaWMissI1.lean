/-
  WALKS: impl's chapter 7: the map of the sets that are no faces; a point less.
-/
import Derived.Test.YtfnpkglijknnoaaMiss
import Derived.Test.YtfnpkglijknnoaaBMap
namespace Go.Proofs.Ytfnpkglijknnoaa
open Go.RowKit
open Sets

theorem andNot_pow : ∀ s : Fin 64, ∀ p : Fin 6, ptB s.val p.val = true → bits BinOp.andNot IntKind.i64 (s.val : Int) (wrap64 (2 ^ p.val)) = ((s.val - 2 ^ p.val : Nat) : Int) := by decide +kernel

set_option maxRecDepth 100000 in
set_option maxHeartbeats 2000000 in
theorem loses_any (B m : Nat) (f : Nat → Bool) (s : Nat) (hs : s < 64) (b : Bool) (hb : loses f s = b) (w : World) (h : BMap w B m f) :
    Calls Try.prog 46 #[.map (some B), .int .i64 (s : Int)] w fun e w' => e = .returned (.bool b) ∧ w = w' := by
  have HM := Lib.hid h
  have HB := Lib.hid hb
  clear h hb
  go_enter Try.func46, Try.ntmps46
  go_wp2
  go_loop [6] (fun i => ∃ p : Nat, p ≤ 6 ∧ i = .int .i64 (p : Int) ∧ ∀ j, j < p → ptB s j = true → f (s - 2 ^ j) = false) (fun i => 6 - (intOf i).toNat)
  case atStart => exact ⟨0, by omega, rfl, fun j hj => absurd hj (Nat.not_lt_zero _)⟩
  case round =>
    obtain ⟨p, hp, rfl, hq⟩ := hrel
    have HQ := Lib.hid hq
    clear hq
    by_cases hlt : p < 6
    · cases ht : ptB s p with
      | true =>
        have HT := Lib.hid ht
        clear ht
        cases hf : f (s - 2 ^ p) with
        | true =>
          have HF := Lib.hid hf
          have HR : Hid (b = true) := by
            have : b = true := by rw [← HB.out]; exact loses_hit hlt HT.out HF.out
            exact this
          clear hf
          go_wp2_with fail
          refine (hasPoint_b s p true HT.out hs hlt _).mono ?_
          rintro e w' ⟨rfl, rfl⟩
          go_wp2_with (at_lookup; refine wpList_bmap_look _ rfl _ _ rfl B m f rfl HM.out (s - 2 ^ p) true HF.out _ rfl ?hz (Nat.lt_of_le_of_lt (Nat.sub_le _ _) hs) ?_)
          case hz => exact andNot_pow ⟨s, hs⟩ ⟨p, hlt⟩ HT.out
          go_ret
          exact ⟨by rw [HR.out]; rfl, rfl⟩
        | false =>
          have HF := Lib.hid hf
          clear hf
          go_wp2_with fail
          refine (hasPoint_b s p true HT.out hs hlt _).mono ?_
          rintro e w' ⟨rfl, rfl⟩
          go_wp2_with (at_lookup; refine wpList_bmap_look _ rfl _ _ rfl B m f rfl HM.out (s - 2 ^ p) false HF.out _ rfl ?hz (Nat.lt_of_le_of_lt (Nat.sub_le _ _) hs) ?_)
          case hz => exact andNot_pow ⟨s, hs⟩ ⟨p, hlt⟩ HT.out
          go_round
          case rel =>
            refine ⟨p + 1, by omega, by go_num, fun j hj ht => ?_⟩
            by_cases e : j = p
            · subst e; exact HF.out
            · exact HQ.out j (by omega) ht
          case measure => simp [intOf]; omega
      | false =>
        have HT := Lib.hid ht
        clear ht
        go_wp2_with fail
        refine (hasPoint_b s p false HT.out hs hlt _).mono ?_
        rintro e w' ⟨rfl, rfl⟩
        go_wp2
        go_round
        case rel =>
          refine ⟨p + 1, by omega, by go_num, fun j hj ht => ?_⟩
          by_cases e : j = p
          · subst e; rw [HT.out] at ht; cases ht
          · exact HQ.out j (by omega) ht
        case measure => simp [intOf]; omega
    · have HR : Hid (b = false) := by
        have : b = false := by rw [← HB.out]; exact loses_miss fun j hj => HQ.out j (by omega)
        exact this
      go_wp2
      go_ret
      exact ⟨by rw [HR.out]; rfl, rfl⟩

theorem shl_pow (n : Int) (h1 : 1 ≤ n) (h2 : n ≤ 6) : wrap64 (2 ^ n.toNat) = ((2 ^ n.toNat : Nat) : Int) := by
  rcases seven n (by omega) h2 with rfl | rfl | rfl | rfl | rfl | rfl | rfl <;> decide +kernel

set_option maxRecDepth 100000 in
set_option maxHeartbeats 2000000 in
theorem noFaces_any (n : Int) (a : Option Addr) (c : Nat) (xs : List Int) (hC : isC n xs = true) (hlen : xs.length ≤ 1099511627776) (w : World) (h : Ints w a xs) :
    Calls Try.prog 43 #[cx n (.slice a xs.length c)] w fun e w' => e = .returned (.map (some (w.heap.size + 1))) ∧ BMap w' (w.heap.size + 1) 64 (missQ n xs) ∧ Below w.heap.size w w' := by
  have hmm := @run_makeMap Try.prog
  have hb0 : Below w.heap.size w (w.alloc (Obj.cells #[Value.int IntKind.i64 n, Value.slice a xs.length c] 26)) := (Below.refl _ _).alloc (Nat.le_refl _) _
  have htwo : Two (w.alloc (Obj.cells #[Value.int IntKind.i64 n, Value.slice a xs.length c] 26)) w.heap.size (.int .i64 n) (.slice a xs.length c) := Two.new _ _ _ _
  have H := Lib.hid (h.keeps hb0)
  have HB0 := Lib.hid hb0
  have HT := Lib.hid htwo
  have hn := isC_n hC
  obtain ⟨hn1, hn2⟩ := hn
  have HOK := Lib.hid (isC_ok hC)
  have hsh := shl_pow n hn1 hn2
  have h64 := pow_le64 n hn1 hn2
  have hs0 := fun s : Nat => setB_lt n s (by omega) hn2
  obtain ⟨N, hN⟩ : ∃ N : Nat, 2 ^ n.toNat = N := ⟨_, rfl⟩
  rw [hN] at hsh h64
  have HS : Hid (∀ s : Nat, setB n (s : Int) = decide (s < N)) := fun s => by rw [hs0 s, hN]
  have HSH := Lib.hid hsh
  clear h hb0 htwo hC hs0 hN hsh
  have hm0 := BMap.made (w.alloc (Obj.cells #[Value.int IntKind.i64 n, Value.slice a xs.length c] 26))
  go_enter Try.func43, Try.ntmps43
  go_wp2
  have hszW : (w.alloc (Obj.cells #[Value.int IntKind.i64 n, Value.slice a xs.length c] 26)).heap.size = w.heap.size + 1 := by simp
  rw [HSH.out, ← hszW]
  clear HSH
  generalize (w.alloc (Obj.cells #[Value.int IntKind.i64 n, Value.slice a xs.length c] 26)) = W at *
  have HM0 := Lib.hid hm0
  have HSZ := Lib.hid hszW
  clear hm0 hszW
  go_loopw [9] (fun i wr => ∃ k : Nat, k ≤ N ∧ i = .int .i64 (k : Int) ∧ BMap wr W.heap.size k (fun s => decide (s < k) && !inF xs s) ∧ Below W.heap.size W wr) (fun i _ => N - (intOf i).toNat)
  case atStart => exact ⟨0, by omega, rfl, HM0.out.congr fun s => by simp, (Below.refl _ _).alloc (Nat.le_refl _) _⟩
  case round =>
    obtain ⟨k, hk, rfl, hM, hB⟩ := hrel
    have HM := Lib.hid hM
    clear hM
    have hsz := hB.size
    obtain ⟨t0, t1, t2, _, _⟩ := HT.out.keeps hB
    by_cases hlt : k < N
    · have HI := Lib.hid (H.out.keeps hB)
      have hk64 : k < 64 := by omega
      cases hp : inF xs k with
      | true =>
        have HP := Lib.hid hp
        have HZ := Lib.hid ((inFZ_nat xs k hk64).trans hp)
        clear hp
        go_wp2_with fail
        refine (inFacet_any n a c xs HOK.out hlen (k : Int) (by omega) true HZ.out _ HI.out).mono ?_
        rintro e w1 ⟨rfl, hb1⟩
        have HM1 := Lib.hid (HM.out.keeps hb1)
        have hB1 : Below W.heap.size W w1 := hB.trans (hb1.mono hsz)
        clear hb1 HM
        go_wp2
        go_roundw
        case rel =>
          refine ⟨k + 1, by omega, by go_num, (HM1.out.mono (by omega)).congr fun s => ?_, hB1⟩
          by_cases e : s = k
          · subst e; rw [HP.out]; simp
          · rw [show decide (s < k + 1) = decide (s < k) by rw [Bool.eq_iff_iff, decide_eq_true_iff, decide_eq_true_iff]; omega]
        case measure => simp [intOf]; omega
      | false =>
        have HP := Lib.hid hp
        have HZ := Lib.hid ((inFZ_nat xs k hk64).trans hp)
        clear hp
        go_wp2_with fail
        refine (inFacet_any n a c xs HOK.out hlen (k : Int) (by omega) false HZ.out _ HI.out).mono ?_
        rintro e w1 ⟨rfl, hb1⟩
        have HM1 := Lib.hid (HM.out.keeps hb1)
        have hB1 : Below W.heap.size W w1 := hB.trans (hb1.mono hsz)
        have hsz1 := hB1.size
        clear hb1 HM
        go_wp2_with (at_mapUpdate; refine wpList_bmap_put _ rfl _ _ _ rfl W.heap.size k _ rfl HM1.out (by unfold maxLen; omega) k _ rfl rfl hk64 rfl ?_; intro w2 hM2 hg2)
        have HM2 := Lib.hid hM2
        have hB2 : Below W.heap.size W w2 := hB1.grown hg2 hsz1 (fun g hg => by cases hg; exact Nat.le_refl _)
        clear hM2 hg2 HM1
        go_wp2
        go_roundw
        case rel =>
          refine ⟨k + 1, by omega, by go_num, HM2.out.congr fun s => ?_, hB2⟩
          by_cases e : s = k
          · subst e; rw [if_pos rfl, HP.out]; simp
          · rw [if_neg e, show decide (s < k + 1) = decide (s < k) by rw [Bool.eq_iff_iff, decide_eq_true_iff, decide_eq_true_iff]; omega]
        case measure => simp [intOf]; omega
    · have E := Lib.hid (show k = N by omega)
      have HM2 : Hid (BMap wr W.heap.size 64 (missQ n xs)) := (HM.out.mono (by omega)).congr fun s => by unfold missQ; rw [HS.out s, E.out]
      go_wp2
      go_ret
      exact ⟨by rw [← HSZ.out]; rfl, by rw [← HSZ.out]; exact HM2.out, HB0.out.trans (hB.mono (by rw [HSZ.out]; omega))⟩

end Go.Proofs.Ytfnpkglijknnoaa
