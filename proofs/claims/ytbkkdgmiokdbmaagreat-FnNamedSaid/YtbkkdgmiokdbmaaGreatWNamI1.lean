/-
  WALKS: impl's chapter 9: is a number in a list; names; a set's new names; RenameSet.
-/
import Derived.Test.YtbkkdgmiokdbmaaGreatJg11
namespace Go.Proofs.YtbkkdgmiokdbmaaGreat
open Go.RowKit
open Sets Nam Lin

theorem implIsSet_b (n s : Int) (r : Bool) (hr : setB n s = r) (w : World) : Calls Tryz.prog 42 #[.int .i64 n, .int .i64 s] w fun e w' => e = .returned (.bool r) ∧ w = w' := by
  subst hr; exact implIsSet_any n s w

/-- Names, asked the other way: each number is there. -/
theorem nms_all_in {n : Nat} {xs : List Int} (hl : xs.length = n) (h : ∀ j : Nat, j < n → xs.contains (j : Int) = true) : ∀ k, k < xs.length → nmAt (n : Int) xs k = true := by
  have hm : ∀ j : Nat, j < n → (j : Int) ∈ xs := fun j hj => List.contains_iff_mem.1 (h j hj)
  have hlt : ∀ j : Nat, j < n → xs.idxOf (j : Int) < xs.length := fun j hj => List.idxOf_lt_length_of_mem (hm j hj)
  have hat : ∀ j : Nat, (hj : j < n) → xs[xs.idxOf (j : Int)]'(hlt j hj) = (j : Int) := fun j hj => List.getElem_idxOf (hlt j hj)
  have h1 : Card (fun i => i < n) n := ⟨List.range n, List.nodup_range, fun j => List.mem_range, List.length_range⟩
  have h2 : Card (fun i => i ∈ (List.range n).map fun j : Nat => xs.idxOf (j : Int)) n := by
    refine ⟨_, nodup_map_of _ _ List.nodup_range fun a ha b hb e => ?_, fun _ => Iff.rfl, by simp⟩
    have ha := List.mem_range.1 ha
    have hb := List.mem_range.1 hb
    have e1 := hat a ha
    have e2 := hat b hb
    have e : xs.idxOf (a : Int) = xs.idxOf (b : Int) := e
    have : xs[xs.idxOf (a : Int)]'(hlt a ha) = xs[xs.idxOf (b : Int)]'(hlt b hb) := by congr 1
    rw [e1, e2] at this
    exact Int.ofNat_inj.1 this
  intro k hk
  obtain ⟨j, hj, e⟩ := List.mem_map.1 (h1.eq_of_le h2 (fun i hi => by
    obtain ⟨j, hj, e⟩ := List.mem_map.1 hi
    rw [← e, ← hl]; exact hlt j (List.mem_range.1 hj)) k (by omega))
  have hj := List.mem_range.1 hj
  have e : xs.idxOf (j : Int) = k := e
  have hv : xs.getD k 0 = (j : Int) := by
    rw [List.getD, List.getElem?_eq_getElem hk]
    show xs[k] = _
    rw [← hat j hj]
    congr 1
    exact e.symm
  unfold nmAt
  rw [Bool.and_eq_true, inB_iff, hv, Bool.not_eq_true']
  refine ⟨by omega, ?_⟩
  rw [Bool.eq_false_iff]
  intro hc
  rw [List.contains_iff_mem] at hc
  obtain ⟨i, hi, e3⟩ := List.mem_take_iff_getElem.1 hc
  have : xs.idxOf (j : Int) ≤ i := by
    rcases Nat.lt_or_ge i (xs.idxOf (j : Int)) with h | h
    · have h4 := List.not_of_lt_findIdx (p := fun y => y == (j : Int)) (xs := xs) h
      rw [e3] at h4
      simp at h4
    · exact h
  omega

theorem nms_in_all {n : Nat} {xs : List Int} (h : nmsB n xs = true) : ∀ j : Nat, j < n → xs.contains (j : Int) = true := by
  intro j hj
  obtain ⟨_, _, h3, h4, h5⟩ := nms_names h
  rw [Int.toNat_natCast] at h4
  have hm := (h4.mem j).2 hj
  obtain ⟨i, hi, e⟩ := List.mem_iff_getElem.1 hm
  have hi2 : i < xs.length := by unfold toN at hi; simpa using hi
  obtain ⟨t, h6, _, h7⟩ := h5 i hi2
  rw [pt_get hi, e] at h7
  rw [h7, ← h6]
  exact take_hit xs i hi2

theorem nms_eq_all {xs : List Int} (h : ∀ j : Nat, j < xs.length → xs.contains (j : Int) = true) : nmsB xs.length xs = inB 1 6 (xs.length : Int) := by
  rw [nms_all (nms_all_in rfl h), show ((xs.length : Int) == (xs.length : Int)) = true from by simp, Bool.true_and]
theorem nms_no_in {xs : List Int} {j : Nat} (hj : j < xs.length) (h : xs.contains (j : Int) = false) : nmsB xs.length xs = false := by
  rw [Bool.eq_false_iff]; intro e
  rw [nms_in_all e j hj] at h; cases h
theorem nms_no_len {xs : List Int} (h : inB 1 6 (xs.length : Int) = false) : nmsB xs.length xs = false := by
  unfold nmsB; rw [h]; simp

set_option maxRecDepth 100000 in
set_option maxHeartbeats 2000000 in
theorem index_b (a : Option Addr) (c : Nat) (xs : List Int) (l : Nat) (hl : xs.length = l) (hlen : l ≤ 1099511627776) (x : Int) (b : Bool) (hb : xs.contains x = b) (w : World) (h : Ints w a xs) :
    Calls Tryz.prog 78 #[.slice a l c, .int .i64 x] w fun e w' => (∃ r : Int, e = .returned (.int .i64 r) ∧ decide (0 ≤ r) = b ∧ -1 ≤ r ∧ r ≤ 1099511627776) ∧ w = w' := by
  have HH := Lib.hid h
  have HB := Lib.hid hb
  have HL := Lib.hid hl
  clear h hb hl
  go_enter Tryz.func78, Tryz.ntmps78
  go_wp2
  go_loop [8] (fun i => ∃ k : Nat, k ≤ l ∧ i = .int .i64 (k : Int) ∧ ∀ j, j < k → xs.getD j 0 ≠ x) (fun i => l - (intOf i).toNat)
  case atStart => exact ⟨0, Nat.zero_le _, rfl, fun j hj => absurd hj (Nat.not_lt_zero _)⟩
  case round =>
    obtain ⟨k, hk, rfl, hq⟩ := hrel
    have HQ := Lib.hid hq
    clear hq
    by_cases hlt : k < l
    · obtain ⟨b1, o1, rfl, g1⟩ := HH.out k (by rw [HL.out]; exact hlt)
      obtain ⟨y, hy⟩ : ∃ y, xs.getD k 0 = y := ⟨_, rfl⟩
      rw [hy] at g1
      have HY := Lib.hid hy
      clear hy
      by_cases e : x = y
      · subst e
        have HR : Hid (b = true) := by
          have : b = true := by rw [← HB.out, ← HY.out]; exact take_hit xs k (by rw [HL.out]; exact hlt)
          exact this
        go_wp2
        go_ret
        exact ⟨⟨_, rfl, by rw [HR.out, decide_eq_true_iff]; omega, by omega, by omega⟩, rfl⟩
      · have hne : (x == y) = false := by rw [beq_eq_false_iff_ne]; exact e
        go_wp2
        go_round
        case rel =>
          refine ⟨k + 1, by omega, by go_num, fun j hj => ?_⟩
          by_cases e2 : j = k
          · subst e2; rw [HY.out]; exact fun h => e h.symm
          · exact HQ.out j (by omega)
        case measure => simp [intOf]; omega
    · have HR : Hid (b = false) := by
        have : b = false := by rw [← HB.out]; exact take_miss xs x fun j hj => HQ.out j (by rw [HL.out] at hj; omega)
        exact this
      go_wp2
      go_ret
      exact ⟨⟨_, rfl, by rw [HR.out]; rfl, by omega, by omega⟩, rfl⟩

set_option maxHeartbeats 1000000 in
theorem contains_b (a : Option Addr) (c : Nat) (xs : List Int) (l : Nat) (hl : xs.length = l) (hlen : l ≤ 1099511627776) (x : Int) (b : Bool) (hb : xs.contains x = b) (w : World) (h : Ints w a xs) :
    Calls Tryz.prog 54 #[.slice a l c, .int .i64 x] w fun e w' => e = .returned (.bool b) ∧ w = w' := by
  have HC := Lib.hid (index_b a c xs l hl hlen x b hb w h)
  clear hb hl h
  go_enter Tryz.func54, Tryz.ntmps54
  go_wp2_with fail
  refine HC.out.mono ?_
  rintro e w1 ⟨⟨r, rfl, hr, _, _⟩, rfl⟩
  go_wp2
  go_ret
  exact ⟨rfl, rfl⟩

set_option maxRecDepth 100000 in
set_option maxHeartbeats 2000000 in
theorem areNames_b (a : Option Addr) (c : Nat) (xs : List Int) (hlen : xs.length ≤ 1099511627776) (b : Bool) (hb : nmsB xs.length xs = b) (w : World) (h : Ints w a xs) :
    Calls Tryz.prog 36 #[.slice a xs.length c] w fun e w' => e = .returned (.bool b) ∧ w = w' := by
  have HH := Lib.hid h
  have HB := Lib.hid hb
  clear h hb
  cases h1 : inB 1 6 (xs.length : Int) with
  | false =>
    have HR : Hid (b = false) := by
      have : b = false := by rw [← HB.out]; exact nms_no_len h1
      exact this
    have H1 := Lib.hid h1
    clear h1
    go_enter Tryz.func36, Tryz.ntmps36
    go_wp2_with fail
    refine (pointCount_b _ false H1.out _).mono ?_
    rintro e w1 ⟨rfl, rfl⟩
    go_wp2
    go_ret
    exact ⟨by rw [HR.out]; rfl, rfl⟩
  | true =>
    have H1 := Lib.hid h1
    clear h1
    go_enter Tryz.func36, Tryz.ntmps36
    go_wp2_with fail
    refine (pointCount_b _ true H1.out _).mono ?_
    rintro e w1 ⟨rfl, rfl⟩
    go_wp2
    go_loop [10] (fun i => ∃ k : Nat, k ≤ xs.length ∧ i = .int .i64 (k : Int) ∧ ∀ j : Nat, j < k → xs.contains (j : Int) = true) (fun i => xs.length - (intOf i).toNat)
    case atStart => exact ⟨0, Nat.zero_le _, rfl, fun j hj => absurd hj (Nat.not_lt_zero _)⟩
    case round =>
      obtain ⟨k, hk, rfl, hq⟩ := hrel
      have HQ := Lib.hid hq
      clear hq
      by_cases hlt : k < xs.length
      · cases hc : xs.contains (k : Int) with
        | false =>
          have HC := Lib.hid hc
          have HR : Hid (b = false) := by
            have : b = false := by rw [← HB.out]; exact nms_no_in hlt hc
            exact this
          clear hc
          go_wp2_with fail
          refine (contains_b a c xs xs.length rfl hlen (k : Int) false HC.out _ HH.out).mono ?_
          rintro e w2 ⟨rfl, rfl⟩
          go_wp2
          go_ret
          exact ⟨by rw [HR.out]; rfl, rfl⟩
        | true =>
          have HC := Lib.hid hc
          clear hc
          go_wp2_with fail
          refine (contains_b a c xs xs.length rfl hlen (k : Int) true HC.out _ HH.out).mono ?_
          rintro e w2 ⟨rfl, rfl⟩
          go_wp2
          go_round
          case rel =>
            refine ⟨k + 1, by omega, by go_num, fun j hj => ?_⟩
            by_cases e2 : j = k
            · subst e2; exact HC.out
            · exact HQ.out j (by omega)
          case measure => simp [intOf]; omega
      · have HR : Hid (b = true) := by
          have : b = true := by rw [← HB.out, nms_eq_all fun j hj => HQ.out j (by omega)]; exact H1.out
          exact this
        go_wp2
        go_ret
        exact ⟨by rw [HR.out]; rfl, rfl⟩

theorem or_name (u t : Nat) (hu : u < 64) (ht : t < 6) : bits BinOp.or IntKind.i64 (u : Int) (wrap64 (2 ^ t)) = ((u ||| 2 ^ t : Nat) : Int) := by
  have h : ∀ a : Fin 64, ∀ b : Fin 6, bits BinOp.or IntKind.i64 (a.val : Int) (wrap64 (2 ^ b.val)) = ((a.val ||| 2 ^ b.val : Nat) : Int) := by decide +kernel
  exact h ⟨u, hu⟩ ⟨t, ht⟩
theorem ptB_bit (s k : Nat) : ptB s k = s.testBit k := by
  unfold ptB
  rw [bit_div]
  cases s.testBit k <;> rfl

set_option maxRecDepth 100000 in
set_option maxHeartbeats 1000000 in
theorem setWith_any (s : Nat) (a : Option Addr) (c : Nat) (xs : List Int) (n : Nat) (hN : Nms n xs) (hs : s < 64) (w : World) (h : Ints w a xs) :
    Calls Tryz.prog 43 #[.slice a n c, .int .i64 (s : Int)] w fun e w' => e = .returned (.int .i64 ((ren (toN xs) s : Nat) : Int)) ∧ w = w' := by
  have HH := Lib.hid h
  have HN := Lib.hid hN
  have hn1 := hN.lo
  have hn2 := hN.hi
  clear h hN
  go_enter Tryz.func43, Tryz.ntmps43
  go_wp2
  go_loop [5, 10] (fun o i => ∃ k : Nat, k ≤ n ∧ o = .int .i64 ((renU (toN xs) s k : Nat) : Int) ∧ i = .int .i64 (k : Int)) (fun _ i => n - (intOf i).toNat)
  case atStart => exact ⟨0, Nat.zero_le _, rfl, rfl⟩
  case round =>
    obtain ⟨k, hk, rfl, rfl⟩ := hrel
    by_cases hlt : k < n
    · obtain ⟨b1, o1, rfl, g1⟩ := HH.out k (by rw [HN.out.len]; exact hlt)
      obtain ⟨t, ht, htn, hp⟩ := HN.out.at_ k hlt
      rw [ht] at g1
      have hu := renU_lt HN.out.hi HN.out.names s k hk
      have HT := Lib.hid ht
      have HP := Lib.hid hp
      have HS := Lib.hid hs
      clear ht hp
      cases hb : s.testBit k with
      | true =>
        have HU : Hid (renU (toN xs) s (k + 1) = renU (toN xs) s k ||| 2 ^ t) := by
          have : renU (toN xs) s (k + 1) = renU (toN xs) s k ||| 2 ^ t := by
            show renU (toN xs) s k ||| _ = _
            rw [if_pos hb, HP.out]
          exact this
        have HBT : Hid (ptB s k = true) := (ptB_bit s k).trans hb
        clear hb
        obtain ⟨u, hu'⟩ : ∃ u, renU (toN xs) s k = u := ⟨_, rfl⟩
        rw [hu'] at hu
        rw [hu'] at HU
        rw [hu']
        clear hu'
        go_wp2_with fail
        refine (hasPoint_b s k true HBT.out hs (by omega) _).mono ?_
        rintro e w2 ⟨rfl, rfl⟩
        go_wp2
        go_round
        case rel => exact ⟨k + 1, by omega, by rw [HU.out]; exact (congrArg (Value.int .i64) (or_name u t hu (by omega))), by go_num⟩
        case measure => simp [intOf]; omega
      | false =>
        have HU := Lib.hid (renU_miss (toN xs) s hb)
        have HBT : Hid (ptB s k = false) := (ptB_bit s k).trans hb
        clear hb
        go_wp2_with fail
        refine (hasPoint_b s k false HBT.out hs (by omega) _).mono ?_
        rintro e w2 ⟨rfl, rfl⟩
        go_wp2
        go_round
        case rel => exact ⟨k + 1, by omega, by rw [HU.out], by go_num⟩
        case measure => simp [intOf]; omega
    · have : k = n := by omega
      subst this
      have HR : Hid (renU (toN xs) s k = ren (toN xs) s) := by
        have : renU (toN xs) s k = ren (toN xs) s := by unfold ren; rw [HN.out.tolen]
        exact this
      go_wp2
      go_ret
      exact ⟨by rw [HR.out]; rfl, rfl⟩

set_option maxRecDepth 100000 in
set_option maxHeartbeats 1000000 in
theorem implRenameSet_any (s : Int) (a : Option Addr) (c : Nat) (xs : List Int) (hlen : xs.length ≤ 1099511627776) (w : World) (h : Ints w a xs) :
    Calls Tryz.prog 9 #[.int .i64 s, .slice a xs.length c] w fun e w' => e = .returned (.tuple #[.int .i64 (((renSO s xs).getD 0 : Nat) : Int), .bool (renSO s xs).isSome]) ∧ Below w.heap.size w w' := by
  have HH := Lib.hid h
  clear h
  cases h1 : nmsB xs.length xs with
  | false =>
    rw [renSO_no1 h1]
    have H1 := Lib.hid h1
    clear h1
    go_enter Tryz.func9, Tryz.ntmps9
    go_wp2_with fail
    refine (areNames_b _ _ xs hlen false H1.out _ HH.out).mono ?_
    rintro e w1 ⟨rfl, rfl⟩
    go_wp2
    go_ret2
    exact ⟨rfl, Below.refl _ _⟩
  | true =>
    have HN := Lib.hid (Nms.of h1)
    have H1 := Lib.hid h1
    cases h2 : setB xs.length s with
    | false =>
      rw [renSO_no2 h2]
      have H2 := Lib.hid h2
      clear h1 h2
      go_enter Tryz.func9, Tryz.ntmps9
      go_wp2_with fail
      refine (areNames_b _ _ xs hlen true H1.out _ HH.out).mono ?_
      rintro e w1 ⟨rfl, rfl⟩
      go_wp2_with fail
      refine (implIsSet_b _ s false H2.out _).mono ?_
      rintro e w2 ⟨rfl, rfl⟩
      go_wp2
      go_ret2
      exact ⟨rfl, Below.refl _ _⟩
    | true =>
      rw [renSO_yes h1 h2]
      have H2 := Lib.hid h2
      obtain ⟨t, rfl⟩ : ∃ t : Nat, s = (t : Int) := ⟨s.toNat, by have := ((setB_iff _ _).1 h2).2.2.1; omega⟩
      have ht : t < 64 := by
        have := (okZ_iff _).1 (setB_ok h2)
        omega
      have hnl : xs.length = (xs.length : Int).toNat := by omega
      have HC := Lib.hid (setWith_any t a c xs xs.length (by have := HN.out; rw [← hnl] at this; exact this) ht w HH.out)
      clear h1 h2 hnl
      go_enter Tryz.func9, Tryz.ntmps9
      go_wp2_with fail
      refine (areNames_b _ _ xs hlen true H1.out _ HH.out).mono ?_
      rintro e w1 ⟨rfl, rfl⟩
      go_wp2_with fail
      refine (implIsSet_b _ _ true H2.out _).mono ?_
      rintro e w2 ⟨rfl, rfl⟩
      go_wp2_with fail
      refine HC.out.mono ?_
      rintro e w2 ⟨rfl, rfl⟩
      go_wp2
      go_ret2
      exact ⟨rfl, Below.refl _ _⟩

end Go.Proofs.YtbkkdgmiokdbmaaGreat
