/-
  TEXTS of one claim, put together: HnLaw, WHS1, WKkS2, WHS2.
-/
import Derived.Test.YtamoejjkaebhkaaJg4
import Derived.Test.YtamoejjkaebhkaaJg12
import Derived.IntWalk
import Derived.Test.YtamoejjkaebhkaaJg10
import Derived.Deep.RegionHeld3
import Derived.Test.YtamoejjkaebhkaaJg9
/-! H NUMBERS, of no program: what chapter 10's law says of them. -/

namespace Go.Proofs.Ytamoejjkaebhkaa.Hn
open Sets

theorem all_few : ∀ k : Fin 7, cnt k.val (ord fun _ => true) ≤ 20 := by decide +kernel
theorem cnt_few (n : Int) (xs : List Int) (k : Nat) : cnt k (faces n xs) ≤ 20 := by
  unfold faces
  split
  · rcases Nat.lt_or_ge k 7 with h | h
    · refine Nat.le_trans ?_ (all_few ⟨k, h⟩)
      rw [ord_filter]
      unfold cnt
      rw [List.countP_filter]
      apply List.countP_mono_left
      intro x _ hx
      rw [Bool.and_eq_true] at hx
      exact hx.1
    · have : cnt k (ord (inF xs)) = 0 := by
        unfold cnt
        rw [List.countP_eq_zero]
        intro x _ e
        rw [beq_iff_eq] at e
        have := pc_le x.toNat
        omega
      omega
  · exact Nat.zero_le _
theorem counts_few (n : Int) (xs : List Int) (j : Nat) : 0 ≤ (counts (faces n xs)).getD j 0 ∧ (counts (faces n xs)).getD j 0 ≤ 20 := by
  rcases Nat.lt_or_ge j (top (faces n xs)) with h | h
  · rw [counts_at _ j h]
    have := cnt_few n xs j
    omega
  · rw [List.getD, List.getElem?_eq_none (by rw [counts_length]; exact h)]
    exact ⟨Int.le_refl _, by decide⟩
theorem counts_le7 (L : List Int) : (counts L).length ≤ 7 := by rw [counts_length]; exact top_le L

theorem r2 : List.range 2 = [0, 1] := rfl
theorem r3 : List.range 3 = [0, 1, 2] := rfl
theorem r4 : List.range 4 = [0, 1, 2, 3] := rfl
theorem r5 : List.range 5 = [0, 1, 2, 3, 4] := rfl
theorem r6 : List.range 6 = [0, 1, 2, 3, 4, 5] := rfl
theorem r7 : List.range 7 = [0, 1, 2, 3, 4, 5, 6] := rfl

theorem short (P : List Int → Prop) (h0 : P []) (h1 : ∀ a, P [a]) (h2 : ∀ a b, P [a, b]) (h3 : ∀ a b c, P [a, b, c]) (h4 : ∀ a b c d, P [a, b, c, d]) (h5 : ∀ a b c d e, P [a, b, c, d, e]) (h6 : ∀ a b c d e f, P [a, b, c, d, e, f]) (h7 : ∀ a b c d e f g, P [a, b, c, d, e, f, g]) : ∀ L : List Int, L.length ≤ 7 → P L
  | [], _ => h0
  | [a], _ => h1 a
  | [a, b], _ => h2 a b
  | [a, b, c], _ => h3 a b c
  | [a, b, c, d], _ => h4 a b c d
  | [a, b, c, d, e], _ => h5 a b c d e
  | [a, b, c, d, e, f], _ => h6 a b c d e f
  | [a, b, c, d, e, f, g], _ => h7 a b c d e f g
  | _ :: _ :: _ :: _ :: _ :: _ :: _ :: _ :: _, h => by simp at h

/-- From h numbers back. -/
theorem back : ∀ L : List Int, L.length ≤ 7 → hsums 1 (hsums (-1) L) = L := by
  apply short
  · rfl
  all_goals
    intros
    simp [hsums, r2, r3, r4, r5, r6, r7, hs, pw, ch]
    try omega
/-- The h numbers are near. -/
theorem near : ∀ L : List Int, L.length ≤ 7 → (∀ j, 0 ≤ L.getD j 0 ∧ L.getD j 0 ≤ 20) → nearB (hsums (-1) L) = true := by
  apply short
  · intro _; rfl
  · intro a H
    have h0 := H 0
    simp at h0
    simp [nearB, hsums, hs, pw, ch]; omega
  · intro a b H
    have h0 := H 0; have h1 := H 1
    simp at h0 h1
    simp [nearB, hsums, r2, hs, pw, ch]; omega
  · intro a b c H
    have h0 := H 0; have h1 := H 1; have h2 := H 2
    simp at h0 h1 h2
    simp [nearB, hsums, r3, hs, pw, ch]; omega
  · intro a b c d H
    have h0 := H 0; have h1 := H 1; have h2 := H 2; have h3 := H 3
    simp at h0 h1 h2 h3
    simp [nearB, hsums, r4, hs, pw, ch]; omega
  · intro a b c d e H
    have h0 := H 0; have h1 := H 1; have h2 := H 2; have h3 := H 3; have h4 := H 4
    simp at h0 h1 h2 h3 h4
    simp [nearB, hsums, r5, hs, pw, ch]; omega
  · intro a b c d e f H
    have h0 := H 0; have h1 := H 1; have h2 := H 2; have h3 := H 3; have h4 := H 4; have h5 := H 5
    simp at h0 h1 h2 h3 h4 h5
    simp [nearB, hsums, r6, hs, pw, ch]; omega
  · intro a b c d e f g H
    have h0 := H 0; have h1 := H 1; have h2 := H 2; have h3 := H 3; have h4 := H 4; have h5 := H 5; have h6 := H 6
    simp at h0 h1 h2 h3 h4 h5 h6
    simp [nearB, hsums, r7, hs, pw, ch]; omega
/-- The first h number is the first count. -/
theorem first (s : Int) (L : List Int) (h : 0 < L.length) : (hsums s L).getD 0 0 = L.getD 0 0 := by
  rw [hsums_at s L 0 h]
  simp [hs, pw, ch_zero]
/-- The last one is the signed sum. -/
theorem last : ∀ L : List Int, L.length ≤ 7 → 0 < L.length → topZ (hsums (-1) L) = (2 * (((L.length - 1) % 2 : Nat) : Int) - 1) * ssumK L L.length := by
  apply short
  · intro h; simp at h
  all_goals
    intros
    simp [topZ, hsums, r2, r3, r4, r5, r6, r7, hs, pw, ch, ssumK, sgn]
    try omega

theorem hnum_length (n : Int) (xs : List Int) : (hnum n xs).length = (counts (faces n xs)).length := hsums_length _ _
theorem hnum_le7 (n : Int) (xs : List Int) : (hnum n xs).length ≤ 7 := by rw [hnum_length]; exact counts_le7 _
theorem hnum_near (n : Int) (xs : List Int) : nearB (hnum n xs) = true := near _ (counts_le7 _) (counts_few n xs)
theorem hnum_back (n : Int) (xs : List Int) : fromH (hnum n xs) = counts (faces n xs) := by
  unfold fromH
  have hl := hnum_le7 n xs
  have hn := hnum_near n xs
  have hb : hsums 1 (hnum n xs) = counts (faces n xs) := back _ (counts_le7 _)
  by_cases h : 0 < (hnum n xs).length
  · rw [if_pos ⟨h, hl, hn⟩, hb]
  · rw [if_neg (fun e => h e.1)]
    rw [hnum_length] at h
    exact (List.eq_nil_of_length_eq_zero (by omega)).symm
theorem hnum_top (n : Int) (xs : List Int) (h : 0 < (hnum n xs).length) : topZ (hnum n xs) = (2 * ((((hnum n xs).length - 1) % 2 : Nat) : Int) - 1) * eul (faces n xs) := by
  rw [hnum_length] at h ⊢
  rw [← counts_signed]
  exact last _ (counts_le7 _) h
theorem hnum_first (n : Int) (xs : List Int) (h : 0 < (hnum n xs).length) : (hnum n xs).getD 0 0 = 1 := by
  rw [hnum_length] at h
  have e := first (-1) _ h
  unfold hnum
  rw [e]
  rw [counts_length] at h
  rw [counts_at _ 0 h]
  have hne : faces n xs ≠ [] := by
    intro e0
    rw [e0] at h
    simp [top] at h
  unfold faces at hne ⊢
  split at hne
  · rename_i hC
    rw [if_pos hC]
    have h0 : inF xs 0 = true := by
      rcases List.exists_mem_of_ne_nil _ hne with ⟨x, hx⟩
      obtain ⟨s, rfl, hs, hp⟩ := (mem_ord _ _).1 hx
      unfold inF at hp ⊢
      rw [List.any_eq_true] at hp ⊢
      obtain ⟨f, hf, _⟩ := hp
      exact ⟨f, hf, by simp [sub]⟩
    have e1 : cnt 0 (ord (inF xs)) = ([0] : List Int).countP fun x => inF xs x.toNat := by
      have e : (ord fun _ => true).filter (fun x => pc x.toNat == 0) = [0] := by decide +kernel
      rw [← e, List.countP_filter, ord_filter (inF xs)]
      unfold cnt
      rw [List.countP_filter]
      apply List.countP_congr
      intro x _
      rw [Bool.and_comm]
    rw [e1]
    simp [h0]
  · exact absurd rfl hne
theorem fromH_le (h : List Int) : (fromH h).length ≤ 1048576 := by
  unfold fromH
  split
  · rename_i e; rw [hsums_length]; omega
  · simp
theorem hnum_le (n : Int) (xs : List Int) : (hnum n xs).length ≤ 1048576 := Nat.le_trans (hnum_le7 n xs) (by decide)
theorem gnum_le (n : Int) (xs : List Int) : (gnum (hnum n xs)).length ≤ 1048576 := by
  have h7 := hnum_le7 n xs
  rcases Nat.eq_zero_or_pos (hnum n xs).length with e | e
  · rw [List.eq_nil_of_length_eq_zero e]; simp [gnum]
  · rw [gnum_length _ e]; omega

end Go.Proofs.Ytamoejjkaebhkaa.Hn

/-! WALKS: spec's chapter 10: Choose, HNumbers. -/

namespace Go.Proofs.Ytamoejjkaebhkaa
open Go.RowKit
open Sets Hn

set_option maxRecDepth 100000 in
set_option maxHeartbeats 4000000 in
theorem specChooseN_any (m k : Nat) (hm : m ≤ 60) (hk : k ≤ m) (w : World) : Calls Try.prog 27 #[.int .i64 (m : Int), .int .i64 (k : Int)] w fun e w' => e = .returned (.int .i64 (ch m k : Nat)) ∧ w = w' := by
  have h1 : inB 0 60 (m : Int) = true := by rw [inB_iff]; omega
  have h2 : inB 0 (m : Int) (k : Int) = true := by rw [inB_iff]; omega
  have H1 := Lib.hid h1
  have H2 := Lib.hid h2
  clear h1 h2
  go_enter Try.func27, Try.ntmps27
  go_wp2_with fail
  refine (in_b _ _ _ true H1.out _).mono ?_
  rintro e w' ⟨rfl, rfl⟩
  go_wp2_with fail
  refine (in_b _ _ _ true H2.out _).mono ?_
  rintro e w' ⟨rfl, rfl⟩
  go_wp2
  go_loop [5, 6] (fun v i => ∃ j : Nat, j ≤ k ∧ i = .int .i64 (j : Int) ∧ v = .int .i64 (ch m j : Nat)) (fun _ i => k - (intOf i).toNat)
  case atStart => exact ⟨0, Nat.zero_le _, rfl, by rw [ch_zero]; rfl⟩
  case round =>
    obtain ⟨j, hj, rfl, rfl⟩ := hrel
    by_cases hlt : j < k
    · have hs1 := ch_step m j (by omega)
      have hby := ch_big m (j + 1) hm
      obtain ⟨y, hy⟩ : ∃ y, ch m (j + 1) = y := ⟨_, rfl⟩
      obtain ⟨x, hx⟩ : ∃ x, ch m j = x := ⟨_, rfl⟩
      rw [hy, hx] at hs1
      rw [hy] at hby
      have HY := Lib.hid hy
      have HX := Lib.hid hx
      have hval : wrap64 ((wrap64 ((x : Int) * ((m : Int) - (j : Int)))).tdiv ((j : Int) + 1)) = (y : Int) := by
        have e1 : (m : Int) - (j : Int) = ((m - j : Nat) : Int) := by omega
        have e2 : (x : Int) * ((m - j : Nat) : Int) = ((y * (j + 1) : Nat) : Int) := by rw [hs1]; simp
        have hz : y * (j + 1) ≤ 118264581564861424 * 60 := Nat.mul_le_mul hby (by omega)
        have e3 : ((y * (j + 1) : Nat) : Int).tdiv ((j : Int) + 1) = (y : Int) := by
          have : ((y * (j + 1) : Nat) : Int) = (y : Int) * ((j : Int) + 1) := by simp
          rw [this]
          exact Int.mul_tdiv_cancel _ (by omega)
        rw [e1, e2]
        generalize y * (j + 1) = z at hz e3
        rw [IntWalk.wrap64_in (z : Int) (by omega), e3, IntWalk.wrap64_in (y : Int) (by omega)]
      have HV := Lib.hid hval
      clear hs1 hy hx hval
      rw [HX.out]
      go_wp2
      refine ⟨⟨j + 1, by omega, by go_num, ?_⟩, by simp [intOf]; omega⟩
      rw [HV.out, HY.out]
    · have E := Lib.hid (show j = k by omega)
      go_wp2
      go_ret
      exact ⟨by rw [← E.out]; rfl, rfl⟩

/-- .. at numbers that are given as such. -/
theorem specChoose_z (m k : Nat) (zm zk : Int) (hzm : zm = (m : Int)) (hzk : zk = (k : Int)) (x : Nat) (hx : ch m k = x) (hm : m ≤ 60) (hk : k ≤ m) (w : World) : Calls Try.prog 27 #[.int .i64 zm, .int .i64 zk] w fun e w' => e = .returned (.int .i64 (x : Int)) ∧ w = w' := by
  subst hzm hzk hx
  exact specChooseN_any m k hm hk w

set_option maxRecDepth 100000 in
set_option maxHeartbeats 4000000 in
theorem specChooseZ_any (n k : Int) (w : World) : Calls Try.prog 27 #[.int .i64 n, .int .i64 k] w fun e w' => e = .returned (.int .i64 (chZ n k)) ∧ Below w.heap.size w w' := by
  cases h1 : inB 0 60 n with
  | false =>
    have e : chZ n k = 0 := by
      unfold chZ; rw [if_neg (fun hh => by
        have : inB 0 60 n = true := by rw [inB_iff]; omega
        rw [h1] at this; cases this)]
    rw [e]
    have H1 := Lib.hid h1
    clear h1
    go_enter Try.func27, Try.ntmps27
    go_wp2_with fail
    refine (in_b _ _ _ false H1.out _).mono ?_
    rintro e w' ⟨rfl, rfl⟩
    go_wp2
    go_ret
    exact ⟨rfl, Below.refl _ _⟩
  | true =>
    cases h2 : inB 0 n k with
    | false =>
      have e : chZ n k = 0 := by
        unfold chZ; rw [if_neg (fun hh => by
          have : inB 0 n k = true := by rw [inB_iff]; omega
          rw [h2] at this; cases this)]
      rw [e]
      have H1 := Lib.hid h1
      have H2 := Lib.hid h2
      clear h1 h2
      go_enter Try.func27, Try.ntmps27
      go_wp2_with fail
      refine (in_b _ _ _ true H1.out _).mono ?_
      rintro e w' ⟨rfl, rfl⟩
      go_wp2_with fail
      refine (in_b _ _ _ false H2.out _).mono ?_
      rintro e w' ⟨rfl, rfl⟩
      go_wp2
      go_ret
      exact ⟨rfl, Below.refl _ _⟩
    | true =>
      rw [inB_iff] at h1 h2
      have e : chZ n k = (ch n.toNat k.toNat : Int) := by unfold chZ; rw [if_pos (by omega)]
      rw [e]
      refine (specChoose_z n.toNat k.toNat n k (by omega) (by omega) _ rfl (by omega) (by omega) w).mono ?_
      rintro e w' ⟨rfl, rfl⟩
      exact ⟨rfl, Below.refl _ _⟩

end Go.Proofs.Ytamoejjkaebhkaa

/-! WALKS: spec's chapter 11: FirstSets, AreFaceCounts. -/

namespace Go.Proofs.Ytamoejjkaebhkaa
open Go.RowKit
open Sets Hn Kk

theorem fs_no (k m : Int) (h : ¬(0 ≤ k ∧ k ≤ 6 ∧ 0 ≤ m ∧ m ≤ chZ 6 k)) : fsZ k m = [] := by
  unfold fsZ
  rw [if_neg (fun e => h (by
    refine ⟨e.1, e.2.1, e.2.2.1, ?_⟩
    unfold chZ
    rw [if_pos (by omega)]
    exact e.2.2.2))]

theorem chooseZ_b (n k z : Int) (hz : chZ n k = z) (w : World) : Calls Try.prog 27 #[.int .i64 n, .int .i64 k] w fun e w' => e = .returned (.int .i64 z) ∧ Below w.heap.size w w' := by
  subst hz; exact specChooseZ_any n k w

set_option maxRecDepth 100000 in
set_option maxHeartbeats 4000000 in
theorem specFirst_any (k m : Int) (w : World) : Calls Try.prog 24 #[.int .i64 k, .int .i64 m] w fun e w' => ∃ v, e = .returned v ∧ OwnInts w' w.heap.size v (fsZ k m) ∧ Below w.heap.size w w' := by
  obtain ⟨i0, hi, hz0, hz1, hz2⟩ := info_parts info_int
  have HO0 := Lib.hid (OwnInts.lit w w.heap.size [] (Nat.le_refl _) (by simp))
  have HB0 : Hid (Below w.heap.size w (w.alloc (.cells #[] 3))) := Lib.hid ((Below.refl _ _).alloc (Nat.le_refl _) _)
  cases h1 : inB 0 6 k with
  | false =>
    have e : fsZ k m = [] := fs_no k m (fun e => by
      have : inB 0 6 k = true := by rw [inB_iff]; omega
      rw [h1] at this; cases this)
    rw [e]
    have H1 := Lib.hid h1
    clear h1
    go_enter Try.func24, Try.ntmps24
    go_wp2_with fail
    refine (in_b _ _ _ false H1.out _).mono ?_
    rintro e w' ⟨rfl, rfl⟩
    go_wp2
    go_ret
    exact ⟨_, rfl, HO0.out, HB0.out⟩
  | true =>
    obtain ⟨z, hz⟩ : ∃ z, chZ 6 k = z := ⟨_, rfl⟩
    have HZ := Lib.hid hz
    cases h2 : inB 0 z m with
    | false =>
      have e : fsZ k m = [] := fs_no k m (fun e => by
        have : inB 0 z m = true := by rw [inB_iff, ← hz]; omega
        rw [h2] at this; cases this)
      rw [e]
      have H1 := Lib.hid h1
      have H2 := Lib.hid h2
      clear h1 h2 hz
      go_enter Try.func24, Try.ntmps24
      go_wp2_with fail
      refine (in_b _ _ _ true H1.out _).mono ?_
      rintro e w' ⟨rfl, rfl⟩
      go_wp2_with fail
      refine (chooseZ_b 6 k z HZ.out _).mono ?_
      rintro e w1 ⟨rfl, hb⟩
      have HB1 : Hid (Below w.heap.size w w1) := HB0.out.trans (hb.mono HB0.out.size)
      have HO1 := Lib.hid (OwnInts.keeps HO0.out hb)
      clear hb
      go_wp2_with fail
      refine (in_b _ _ _ false H2.out _).mono ?_
      rintro e w' ⟨rfl, rfl⟩
      go_wp2
      go_ret
      exact ⟨_, rfl, HO1.out, HB1.out⟩
    | true =>
      have H1 := Lib.hid h1
      have H2 := Lib.hid h2
      rw [inB_iff] at h1 h2
      obtain ⟨K, rfl⟩ : ∃ K : Nat, k = (K : Int) := ⟨k.toNat, by omega⟩
      obtain ⟨M, rfl⟩ : ∃ M : Nat, m = (M : Int) := ⟨m.toNat, by omega⟩
      have hK : K ≤ 6 := by omega
      have hzc : z = (ch 6 K : Int) := by
        rw [← hz]
        unfold chZ
        rw [if_pos (by omega)]; rfl
      have hM : M ≤ ch 6 K := by omega
      have hM20 := ch_few 6 K (by decide)
      have HFS : Hid (fsZ (K : Int) (M : Int) = ofN (firstN K M)) := by
        have : fsZ (K : Int) (M : Int) = ofN (firstN K M) := fsZ_in hK hM
        exact this
      have HTAKE := Lib.hid (fun s hs hl he => @fl_take K s M hK hs hl he)
      have hM2 : M ≤ 20 := by omega
      rw [HFS.out]
      clear h1 h2 hz hzc hM hM20
      go_enter Try.func24, Try.ntmps24
      go_wp2_with fail
      refine (in_b _ _ _ true H1.out _).mono ?_
      rintro e w' ⟨rfl, rfl⟩
      go_wp2_with fail
      refine (chooseZ_b 6 (K : Int) z HZ.out _).mono ?_
      rintro e w1 ⟨rfl, hb⟩
      have HB1 : Hid (Below w.heap.size w w1) := HB0.out.trans (hb.mono HB0.out.size)
      have HO1 := Lib.hid (OwnInts.keeps HO0.out hb)
      clear hb HB0 HO0
      go_wp2_with fail
      refine (in_b _ _ _ true H2.out _).mono ?_
      rintro e w' ⟨rfl, rfl⟩
      go_wp2
      go_loopw [5, 6] (fun v iv wr => ∃ (s l cc : Nat) (aa : Option Addr), s ≤ 64 ∧ iv = .int .i64 (s : Int) ∧ v = .slice aa l cc ∧ (fl K s).length = l ∧ l ≤ M ∧ OwnInts wr w.heap.size (.slice aa l cc) (ofN (fl K s)) ∧ Below w.heap.size w wr) (fun _ iv _ => 64 - (intOf iv).toNat)
      case atStart => exact ⟨0, 0, _, _, by omega, rfl, rfl, rfl, by omega, HO1.out, HB1.out⟩
      case round =>
        clear HO1 HB1
        obtain ⟨s, l, cc, aa, hs, rfl, rfl, hl, hlM, hO, hB⟩ := hrel
        have HO := Lib.hid hO
        have HB := Lib.hid hB
        have HL := Lib.hid hl
        clear hO hB hl
        by_cases hs64 : s = 64
        · subst hs64
          have HE : Hid (firstN K M = fl K 64) := by
            have : firstN K M = fl K 64 := HTAKE.out 64 (by omega) (by rw [HL.out]; exact hlM) (.inl rfl)
            exact this
          go_wp2
          go_ret
          exact ⟨_, rfl, by rw [HE.out]; exact HO.out, HB.out⟩
        · have hds : decide (s < 64) = true := by simp; omega
          by_cases hlm : l = M
          · have HE : Hid (firstN K M = fl K s) := by
              have : firstN K M = fl K s := HTAKE.out s (by omega) (by rw [HL.out]; exact hlM) (.inr (by rw [HL.out]; exact hlm))
              exact this
            have hdl : decide (l < M) = false := by simp; omega
            clear hlm
            go_wp2
            go_ret
            exact ⟨_, rfl, by rw [HE.out]; exact HO.out, HB.out⟩
          · have hdl : decide (l < M) = true := by simp; omega
            have hs6 : s < 64 := by omega
            obtain ⟨p, hp⟩ : ∃ p, pc s = p := ⟨_, rfl⟩
            have HP := Lib.hid hp
            have HSZ := Lib.hid (fun W => l2Size_b s p hp hs6 W)
            clear hp
            by_cases hpk : p = K
            · subst hpk
              have HN : Hid (fl p (s + 1) = fl p s ++ [s]) := by
                have : fl p (s + 1) = fl p s ++ [s] := fl_hit HP.out
                exact this
              have HO2 : Hid (wr.ownsRow w.heap.size 3 1 (.slice aa l cc) l ((ofN (fl p s)).map (Value.int .i64))) := by
                have h := HO.out
                unfold OwnInts at h
                rw [ofN_length, HL.out] at h
                exact h
              have hsz := HB.out.size
              go_wp2_with fail
              refine (HSZ.out _).mono ?_
              rintro e w' ⟨rfl, rfl⟩
              go_wp2_with (at_builtin; refine wpList_append_own_at _ rfl _ _ 26 rfl w.heap.size 3 i0 (.int .i64 0) 1 8 Try.underlying26 hi hz0 hz1 hz2 rfl (by decide) _ _ _ rfl (HO2.out.alloc _) ⟨wr.heap.size, 0, none⟩ 1 1 [.int .i64 (s : Int)] rfl rfl ?c1 ?c2 ?c3 ?c4 ?c5 ?_)
              case c1 => intro q u hq; exact Mem.cell_new wr _ _ q u hq
              case c2 => intro u hu; simp at hu; subst hu; rfl
              case c3 => unfold maxLen; omega
              case c4 => omega
              case c5 => simp; omega
              intro v' w3 hown1 hgrow _ hob
              have hB3 : Below w.heap.size w w3 := (HB.out.alloc hsz _).grown hgrow (by simp; omega) (fun g hg => (HO2.out.lt g hg).1)
              have hFL : (fl p (s + 1)).length = l + 1 := by rw [HN.out, List.length_append, HL.out]; rfl
              have hO3 : OwnInts w3 w.heap.size v' (ofN (fl p (s + 1))) := by
                rw [HN.out, ofN_snoc]
                unfold OwnInts
                rw [List.length_append, List.map_append, ofN_length, HL.out]
                exact hown1
              obtain ⟨a2, c2, _, rfl, _⟩ := OwnInts.ata hO3 hB3.size
              rw [ofN_length, hFL] at hO3
              rw [ofN_length, hFL]
              have HFL := Lib.hid hFL
              have HO3 := Lib.hid hO3
              have HB3 := Lib.hid hB3
              clear hown1 hgrow hob hO3 hB3 hFL
              go_wp2
              go_roundw
              case rel => exact ⟨s + 1, l + 1, c2, a2, by omega, by go_num, rfl, HFL.out, by omega, HO3.out, HB3.out⟩
              case measure => simp [intOf]; omega
            · have HN : Hid (fl K (s + 1) = fl K s) := by
                have : fl K (s + 1) = fl K s := fl_miss (by rw [HP.out]; exact hpk)
                exact this
              have hdk : ((p : Int) == (K : Int)) = false := by rw [beq_eq_false_iff_ne]; omega
              go_wp2_with fail
              refine (HSZ.out _).mono ?_
              rintro e w' ⟨rfl, rfl⟩
              go_wp2
              go_roundw
              case rel => exact ⟨s + 1, l, cc, aa, by omega, by go_num, rfl, by rw [HN.out]; exact HL.out, hlM, by rw [HN.out]; exact HO.out, HB.out⟩
              case measure => simp [intOf]; omega

end Go.Proofs.Ytamoejjkaebhkaa

/-! WALKS: spec's chapter 10: HNumbers. -/

namespace Go.Proofs.Ytamoejjkaebhkaa
open Go.RowKit
open Sets Hn

theorem quietlyH {f : FuncId} {args : Array Value} {w : World} {n : Nat} {v : Value}
    (h : Calls Try.prog f args (w.drewN n) fun e w' => e = .returned v ∧ w.drewN n = w') : Calls Try.prog f args (w.drewN n) fun e w'' => e = .returned v ∧ ∃ n, w'' = w.drewN n :=
  h.mono fun _ _ ⟨he, hw⟩ => ⟨he, n, hw.symm⟩

theorem hsums_take (s : Int) (L : List Int) (k : Nat) (h : k < L.length) : (hsums s L).take (k + 1) = (hsums s L).take k ++ [hs s L (L.length - 1) k (k + 1)] := by
  rw [take_nx _ _ (by rw [hsums_length]; exact h), hsums_at s L k h]
theorem hsums_take_length (s : Int) (L : List Int) (k : Nat) (h : k ≤ L.length) : ((hsums s L).take k).length = k := by
  rw [List.length_take, hsums_length]; omega

end Go.Proofs.Ytamoejjkaebhkaa
