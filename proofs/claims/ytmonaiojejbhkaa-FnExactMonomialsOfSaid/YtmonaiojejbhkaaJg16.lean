/-
  TEXTS of one claim, put together: WKkS2, WHS2, Sh1, Sh2.
-/
import Derived.Test.YtmonaiojejbhkaaJg12
import Derived.Test.YtmonaiojejbhkaaJg15
import Derived.Test.YtmonaiojejbhkaaJg10
import Derived.Deep.RegionHeld3
import Derived.Test.YtmonaiojejbhkaaJg9
import Derived.Test.YtmonaiojejbhkaaJg5
import Derived.Test.YtmonaiojejbhkaaJg6
/-! WALKS: spec's chapter 11: FirstSets, AreFaceCounts. -/

namespace Go.Proofs.Ytmonaiojejbhkaa
open Go.RowKit
open Sets Hn Kk

theorem fs_no (k m : Int) (h : ¬(0 ≤ k ∧ k ≤ 6 ∧ 0 ≤ m ∧ m ≤ chZ 6 k)) : fsZ k m = [] := by
  unfold fsZ
  rw [if_neg (fun e => h (by
    refine ⟨e.1, e.2.1, e.2.2.1, ?_⟩
    unfold chZ
    rw [if_pos (by omega)]
    exact e.2.2.2))]

theorem chooseZ_b (n k z : Int) (hz : chZ n k = z) (w : World) : Calls Try.prog 62 #[.int .i64 n, .int .i64 k] w fun e w' => e = .returned (.int .i64 z) ∧ Below w.heap.size w w' := by
  subst hz; exact specChooseZ_any n k w

end Go.Proofs.Ytmonaiojejbhkaa

/-! WALKS: spec's chapter 10: HNumbers. -/

namespace Go.Proofs.Ytmonaiojejbhkaa
open Go.RowKit
open Sets Hn

theorem quietlyH {f : FuncId} {args : Array Value} {w : World} {n : Nat} {v : Value}
    (h : Calls Try.prog f args (w.drewN n) fun e w' => e = .returned v ∧ w.drewN n = w') : Calls Try.prog f args (w.drewN n) fun e w'' => e = .returned v ∧ ∃ n, w'' = w.drewN n :=
  h.mono fun _ _ ⟨he, hw⟩ => ⟨he, n, hw.symm⟩

theorem hsums_take (s : Int) (L : List Int) (k : Nat) (h : k < L.length) : (hsums s L).take (k + 1) = (hsums s L).take k ++ [hs s L (L.length - 1) k (k + 1)] := by
  rw [take_nx _ _ (by rw [hsums_length]; exact h), hsums_at s L k h]
theorem hsums_take_length (s : Int) (L : List Int) (k : Nat) (h : k ≤ L.length) : ((hsums s L).take k).length = k := by
  rw [List.length_take, hsums_length]; omega

set_option maxRecDepth 100000 in
set_option maxHeartbeats 1000000 in
theorem specH_any (n : Int) (a : Option Addr) (c : Nat) (xs : List Int) (hlen : xs.length ≤ 1099511627776) (w : World) (h : Ints w a xs) :
    Calls Try.prog 30 #[cx n (.slice a xs.length c)] w fun e w' => ∃ v, e = .returned v ∧ OwnInts w' w.heap.size v (hnum n xs) ∧ Below w.heap.size w w' := by
  obtain ⟨i0, hi, hz0, hz1, hz2⟩ := info_parts info_int
  have hb0 : Below w.heap.size w ((w.alloc (Obj.cells #[Value.int IntKind.i64 n, Value.slice a xs.length c] 33)).alloc (.cells #[] 3)) := ((Below.refl _ _).alloc (Nat.le_refl _) _).alloc (by simp) _
  have hO0 := OwnInts.lit (w.alloc (Obj.cells #[Value.int IntKind.i64 n, Value.slice a xs.length c] 33)) w.heap.size [] (by simp) (by simp)
  have htwo := (Two.new w (.int .i64 n) (.slice a xs.length c) 33).alloc (.cells #[] 3)
  have H := Lib.hid (h.keeps hb0)
  have HB0 := Lib.hid hb0
  have HO0 := Lib.hid hO0
  have HT := Lib.hid htwo
  clear h hb0 hO0 htwo
  have hl7 := counts_le7 (faces n xs)
  have HFEW := Lib.hid (counts_few n xs)
  obtain ⟨F, hF⟩ : ∃ F, counts (faces n xs) = F := ⟨_, rfl⟩
  have HN : Hid (hnum n xs = hsums (-1) F) := by
    have : hnum n xs = hsums (-1) F := by rw [← hF]; rfl
    exact this
  have HFF := Lib.hid hF
  rw [hF] at hl7 HFEW
  rw [HN.out]
  have HTK := Lib.hid (hsums_take (-1) F)
  have HTL := Lib.hid (hsums_take_length (-1) F)
  have HSUM := Lib.hid (hs_le (-1) (Or.inr rfl) F (fun j => by have := HFEW.out j; omega))
  have HPART := Lib.hid (fun d k m hd => part_le (-1) (Or.inr rfl) (F.getD m 0) (by have := HFEW.out m; omega) d k m hd)
  have HALL : Hid ((hsums (-1) F).take F.length = hsums (-1) F) := by
    have : (hsums (-1) F).take F.length = hsums (-1) F := by rw [← hsums_length (-1) F, List.take_length]
    exact this
  have HZERO : Hid ((hsums (-1) F).take 0 = []) := by
    have : (hsums (-1) F).take 0 = [] := rfl
    exact this
  obtain ⟨f, hf⟩ : ∃ f, F.length = f := ⟨_, rfl⟩
  have HFL := Lib.hid hf
  rw [hf] at hl7 HTK HTL HALL
  obtain ⟨H1, hH1⟩ : ∃ H1, hsums (-1) F = H1 := ⟨_, rfl⟩
  rw [hH1] at HTK HTL HALL HN HZERO
  rw [hH1]
  clear hF hf hH1
  go_enter Try.func30, Try.ntmps30
  obtain ⟨t0, t1, t2, _, _⟩ := HT.out
  go_wp2_with fail
  refine (specCounts_any n _ _ xs hlen _ H.out).mono ?_
  rw [HFF.out]
  rintro e w1 ⟨v1, rfl, hO1, hb1⟩
  obtain ⟨a1, d1, g1, rfl, hg1, hr1⟩ := hO1.at
  have HB1 : Hid (Below w.heap.size w w1) := HB0.out.trans (hb1.mono HB0.out.size)
  have HR1 := Lib.hid hr1
  have HO1 := Lib.hid (OwnInts.keeps HO0.out hb1)
  have hz1w := HB1.out.size
  rw [World.size_alloc] at HO1
  simp only [World.size_alloc] at hg1
  have hne1 : (Value.slice (some ⟨w.heap.size + 1, 0, none⟩) 0 0).ownBlock ≠ some g1 := by simp only [Value.ownBlock, ne_eq, Option.some.injEq]; omega
  have HNE1 := Lib.hid hne1
  clear hO1 hr1 hb1 t0 t1 t2 HB0 HT H hg1 HO0 hne1
  rw [HFL.out]
  rw [← HZERO.out] at HO1
  clear HZERO
  go_wp2
  go_loopw [3, 6] (fun v i wr => ∃ (k : Nat) (aa : Option Addr) (cc : Nat), k ≤ f ∧ i = .int .i64 (k : Int) ∧ v = .slice aa k cc ∧ OwnInts wr w.heap.size (.slice aa k cc) (H1.take k) ∧ Below w.heap.size w wr ∧ IntsAt wr g1 a1 F ∧ (Value.slice aa k cc).ownBlock ≠ some g1) (fun _ i _ => f - (intOf i).toNat)
  case atStart => exact ⟨0, _, _, Nat.zero_le _, rfl, rfl, HO1.out, HB1.out, HR1.out, HNE1.out⟩
  case round =>
    clear HO1 HB1 HR1 HNE1
    obtain ⟨k, aa, cc, hk, rfl, rfl, hO, hB, hR, hne⟩ := hrel
    have HO := Lib.hid hO
    have HB := Lib.hid hB
    have HR := Lib.hid hR
    have HNE := Lib.hid hne
    clear hO hB hR hne
    by_cases hlt : k < f
    · have hkd : decide ((k : Int) ≤ (f : Int) - 1) = true := by simp; omega
      go_wp2
      go_loopw [7, 8] (fun u v W => ∃ j : Nat, j ≤ k + 1 ∧ v = .int .i64 (j : Int) ∧ u = .int .i64 (hs (-1) F (f - 1) k j) ∧ ∃ m, W = wr.drewN m) (fun _ v _ => k + 1 - (intOf v).toNat)
      case atStart => exact ⟨0, by omega, rfl, rfl, 0, rfl⟩
      case round =>
        obtain ⟨j, hj, rfl, rfl, m, rfl⟩ := hrel
        by_cases hjk : j ≤ k
        · have hjd : decide ((j : Int) ≤ (k : Int)) = true := by simp; omega
          obtain ⟨b, o, rfl, g⟩ := HR.out.ints j (by rw [HFL.out]; omega)
          have hcx := HPART.out (f - 1) k j (by omega)
          have hsx := HSUM.out (f - 1) k (by omega) j
          obtain ⟨x, hx⟩ : ∃ x, F.getD j 0 = x := ⟨_, rfl⟩
          obtain ⟨y, hy⟩ : ∃ y, hs (-1) F (f - 1) k j = y := ⟨_, rfl⟩
          obtain ⟨ccc, hcc⟩ : ∃ q, ch (f - 1 - j) (k - j) = q := ⟨_, rfl⟩
          have hnx : hs (-1) F (f - 1) k (j + 1) = hs (-1) F (f - 1) k j + pw (-1) (k - j) * F.getD j 0 * (ch (f - 1 - j) (k - j) : Int) := rfl
          have HCH : Hid (∀ W, Calls Try.prog 62 #[.int .i64 ((f : Int) - 1 - (j : Int)), .int .i64 ((k : Int) - (j : Int))] W fun e w' => e = .returned (.int .i64 (ccc : Int)) ∧ W = w') := by
            have : ∀ W, Calls Try.prog 62 #[.int .i64 ((f : Int) - 1 - (j : Int)), .int .i64 ((k : Int) - (j : Int))] W fun e w' => e = .returned (.int .i64 (ccc : Int)) ∧ W = w' := fun W =>
              specChoose_z (f - 1 - j) (k - j) _ _ (by omega) (by omega) ccc hcc (by omega) (by omega) W
            exact this
          have HV : Hid (wrap64 (y + wrap64 (wrap64 ((1 - 2 * (((k : Int) - (j : Int)) % 2)) * x) * (ccc : Int))) = hs (-1) F (f - 1) k (j + 1)) := by
            have : wrap64 (y + wrap64 (wrap64 ((1 - 2 * (((k : Int) - (j : Int)) % 2)) * x) * (ccc : Int))) = hs (-1) F (f - 1) k (j + 1) := by
              rw [hnx, hy, hx, hcc]
              rw [hx, hcc] at hcx
              rw [hy] at hsx
              have hfx := HFEW.out j
              rw [hx] at hfx
              have hp := pw_neg (k - j)
              have e1 : ((k : Int) - (j : Int)) % 2 = (((k - j) % 2 : Nat) : Int) := by omega
              rw [e1, ← hp]
              have hq : -20 ≤ pw (-1) (k - j) * x ∧ pw (-1) (k - j) * x ≤ 20 := by rcases pw_sign (-1) (Or.inr rfl) (k - j) with e | e <;> rw [e] <;> omega
              generalize pw (-1) (k - j) * x = q at hq hcx ⊢
              rw [IntWalk.wrap64_in q (by omega)]
              generalize q * (ccc : Int) = z at hcx ⊢
              rw [IntWalk.wrap64_in z (by omega), IntWalk.wrap64_in (y + z) (by omega)]
            exact this
          rw [hx] at g
          rw [hy]
          have hjf : j < f := by omega
          clear hcx hsx hx hy hcc hnx
          go_wp2_with fail
          go_quiet ((go_at_call 62; refine quietly (HCH.out _)))
          go_wp2
          exact ⟨⟨j + 1, by omega, by go_num, by rw [HV.out], _, rfl⟩, by simp [intOf]; omega⟩
        · have hjd : decide ((j : Int) ≤ (k : Int)) = false := by simp; omega
          have E := Lib.hid (show j = k + 1 by omega)
          have HN1 : Hid (H1.take (k + 1) = H1.take k ++ [hs (-1) F (f - 1) k j]) := by
            have : H1.take (k + 1) = H1.take k ++ [hs (-1) F (f - 1) k j] := by rw [HTK.out k hlt, E.out]
            exact this
          have HO2 : Hid (wr.ownsRow w.heap.size 3 1 (.slice aa k cc) k ((H1.take k).map (Value.int .i64))) := by
            have h := HO.out
            unfold OwnInts at h
            rw [HTL.out k (by omega)] at h
            exact h
          have hsz := HB.out.size
          obtain ⟨y, hy⟩ : ∃ y, hs (-1) F (f - 1) k j = y := ⟨_, rfl⟩
          rw [hy] at HN1 ⊢
          clear hy
          go_wp2_with (at_builtin; refine wpList_append_own_at _ rfl _ _ 26 rfl w.heap.size 3 i0 (.int .i64 0) 1 8 Try.underlying26 hi hz0 hz1 hz2 rfl (by decide) _ _ _ rfl (((show (wr.drewN m).ownsRow w.heap.size 3 1 (.slice aa k cc) k ((H1.take k).map (Value.int .i64)) from HO2.out)).alloc _) ⟨wr.heap.size, 0, none⟩ 1 1 [.int .i64 y] rfl rfl ?c1 ?c2 ?c3 ?c4 ?c5 ?_)
          case c1 => intro q u hq; exact Mem.cell_new (wr.drewN m) _ _ q u hq
          case c2 => intro u hu; simp at hu; subst hu; rfl
          case c3 => unfold maxLen; omega
          case c4 => omega
          case c5 => simp; omega
          intro v' w3 hown1 hgrow _ hob
          have hB3 : Below w.heap.size w w3 := ((bdrew HB.out m).alloc hsz _).grown hgrow (by simp; omega) (fun g hg => (HO2.out.lt g hg).1)
          have hR3 := IntsAt.away ((show IntsAt (wr.drewN m) g1 a1 F from HR.out).keeps ((Below.refl _ _).alloc (Nat.le_refl _) _)) hgrow HNE.out
          have hgl : g1 < wr.heap.size := (HR.out 0 (by rw [HFL.out]; omega)).2.1
          have hn3 : v'.ownBlock ≠ some g1 := by
            rcases hob with e | e
            · rw [e]; exact HNE.out
            · rw [e]; simp; omega
          have hO3 : OwnInts w3 w.heap.size v' (H1.take (k + 1)) := by
            rw [HN1.out]
            unfold OwnInts
            rw [List.length_append, List.map_append, HTL.out k (by omega), List.map_take]
            exact hown1
          obtain ⟨a2, c2, _, rfl, _⟩ := OwnInts.ata hO3 hB3.size
          rw [HTL.out (k + 1) (by omega)] at hO3
          rw [HTL.out (k + 1) (by omega)] at hn3
          rw [HTL.out (k + 1) (by omega)]
          have HN3 := Lib.hid hn3
          have HR3 := Lib.hid hR3
          have HO3 := Lib.hid hO3
          have HB3 := Lib.hid hB3
          clear hown1 hgrow hob hO3 hB3 hR3 hn3
          go_wp2
          go_roundw
          case rel => exact ⟨k + 1, a2, c2, by omega, by go_num, rfl, HO3.out, HB3.out, HR3.out, HN3.out⟩
          case measure => simp [intOf]; omega
    · have hkd : decide ((k : Int) ≤ (f : Int) - 1) = false := by simp; omega
      have E := Lib.hid (show k = f by omega)
      go_wp2
      go_ret
      have h2 := HO.out
      rw [E.out, HALL.out] at h2
      exact ⟨_, rfl, by rw [E.out]; exact h2, HB.out⟩

end Go.Proofs.Ytmonaiojejbhkaa

/-! SHELLINGS, of no program: the new faces of a facet, intervals, counts; where no new face has k points, none has more. -/

namespace Go.Proofs.Ytmonaiojejbhkaa.Sh
open Sets Hn

/-- A set without a point. -/
def less (s i : Nat) : Nat := s ^^^ 2 ^ i
theorem less_bit (s i j : Nat) (h : s.testBit i = true) : (less s i).testBit j = (s.testBit j && !decide (j = i)) := by
  unfold less
  rw [Nat.testBit_xor, Nat.testBit_two_pow]
  by_cases e : i = j
  · subst e; rw [h]; simp
  · rw [decide_eq_false e, Bool.xor_false, decide_eq_false (fun h => e h.symm)]; simp
theorem less_sub (s i : Nat) (h : s.testBit i = true) : sub (less s i) s = true := by
  rw [sub_iff]; intro j hj
  rw [less_bit s i j h, Bool.and_eq_true] at hj
  exact hj.1
theorem sub_less (t s i : Nat) (h : s.testBit i = true) : sub t (less s i) = true ↔ sub t s = true ∧ t.testBit i = false := by
  rw [sub_iff, sub_iff]
  constructor
  · intro e
    refine ⟨fun j hj => ?_, ?_⟩
    · have := e j hj
      rw [less_bit s i j h, Bool.and_eq_true] at this
      exact this.1
    · rw [Bool.eq_false_iff]; intro k
      have := e i k
      rw [less_bit s i i h] at this
      simp at this
  · rintro ⟨e, k⟩ j hj
    rw [less_bit s i j h, e j hj]
    have : j ≠ i := by intro q; subst q; rw [k] at hj; cases hj
    simp [this]
theorem less_minus (s i : Nat) (h : s.testBit i = true) (hs : s < 64) (hi : i < 6) : s - 2 ^ i = less s i := by
  have h2 : 2 ^ i < 64 := Nat.pow_lt_pow_right (by decide) hi
  have : sub (2 ^ i) s = true := by
    rw [sub_iff]; intro j hj
    rw [Nat.testBit_two_pow] at hj
    have : i = j := of_decide_eq_true hj
    rw [← this]; exact h
  exact take_away s (2 ^ i) hs h2 this

/-- Is the facet without the point a face before? -/
def newQ (B : List Int) (s i : Nat) : Bool := s.testBit i && inF B (less s i)
/-- The points below n of that kind. -/
def newTo (B : List Int) (s : Nat) : Nat → Nat
  | 0 => 0
  | n + 1 => newTo B s n ||| if newQ B s n = true then 2 ^ n else 0
/-- The least new face. -/
def newN (B : List Int) (s : Nat) : Nat := newTo B s 6
theorem newTo_bit (B : List Int) (s : Nat) : ∀ n j, (newTo B s n).testBit j = (decide (j < n) && newQ B s j)
  | 0, j => by simp [newTo]
  | n + 1, j => by
    rw [newTo, Nat.testBit_or, newTo_bit B s n j]
    by_cases e : j = n
    · subst e
      rw [decide_eq_false (Nat.lt_irrefl j), decide_eq_true (Nat.lt_succ_self j)]
      cases h : newQ B s j with
      | false => simp
      | true => simp
    · have h0 : (if newQ B s n = true then 2 ^ n else 0).testBit j = false := by
        split
        · rw [Nat.testBit_two_pow, decide_eq_false (fun h => e h.symm)]
        · exact Nat.zero_testBit j
      rw [h0, Bool.or_false]
      congr 1
      rw [decide_eq_decide]; omega
theorem newTo_lt (B : List Int) (s : Nat) : ∀ n, n ≤ 6 → newTo B s n < 64
  | 0, _ => by show (0 : Nat) < 64; decide
  | n + 1, h => by
    rw [newTo]
    have h1 := newTo_lt B s n (by omega)
    have h2 : (if newQ B s n = true then 2 ^ n else 0) < 64 := by
      split
      · exact Nat.pow_lt_pow_right (a := 2) (m := n) (n := 6) (by decide) (by omega)
      · decide
    exact Nat.or_lt_two_pow (n := 6) h1 h2
theorem newN_lt (B : List Int) (s : Nat) : newN B s < 64 := newTo_lt B s 6 (by omega)
theorem bit_lt {s i : Nat} (hs : s < 64) (h : s.testBit i = true) : i < 6 := by
  rcases Nat.lt_or_ge i 6 with k | k
  · exact k
  · rw [Nat.testBit_lt_two_pow (Nat.lt_of_lt_of_le hs (Nat.pow_le_pow_right (n := 2) (by decide) k))] at h
    cases h
theorem newN_bit (B : List Int) {s : Nat} (hs : s < 64) (j : Nat) : (newN B s).testBit j = newQ B s j := by
  unfold newN
  rw [newTo_bit]
  cases h : newQ B s j with
  | false => rw [Bool.and_false]
  | true =>
    unfold newQ at h
    rw [Bool.and_eq_true] at h
    rw [decide_eq_true (bit_lt hs h.1)]; rfl
theorem newN_sub (B : List Int) {s : Nat} (hs : s < 64) : sub (newN B s) s = true := by
  rw [sub_iff]; intro j hj
  rw [newN_bit B hs, newQ, Bool.and_eq_true] at hj
  exact hj.1
/-- Can the facet follow? -/
def fitsB (B : List Int) (s : Nat) : Bool := !inF B (newN B s)
/-- What is asked of one facet before. -/
theorem fits_each (B : List Int) {s : Nat} (hs : s < 64) : fitsB B s = B.all fun b => !sub (newN B s) (b.toNat &&& s) := by
  unfold fitsB inF
  rw [List.not_any_eq_all_not]
  congr 1
  funext b
  rw [sub_and, newN_sub B hs, Bool.and_true]
theorem inF_trans {B : List Int} {s t : Nat} (h : sub s t = true) (k : inF B t = true) : inF B s = true := by
  rw [inF_iff] at *
  obtain ⟨f, hf, e⟩ := k
  exact ⟨f, hf, sub_trans h e⟩
/-- Which faces of the facet are new. -/
theorem old_iff {B : List Int} {s : Nat} (hs : s < 64) (hf : fitsB B s = true) (t : Nat) (ht : sub t s = true) : inF B t = true ↔ sub (newN B s) t = false := by
  constructor
  · intro h
    rw [Bool.eq_false_iff]; intro k
    unfold fitsB at hf
    rw [inF_trans k h] at hf
    cases hf
  · intro h
    have : ∃ i, (newN B s).testBit i = true ∧ t.testBit i = false := by
      apply Classical.byContradiction
      intro hn
      rw [Bool.eq_false_iff] at h
      apply h
      rw [sub_iff]
      intro i hi
      cases e : t.testBit i with
      | true => rfl
      | false => exact absurd ⟨i, hi, e⟩ hn
    obtain ⟨i, h1, h2⟩ := this
    rw [newN_bit B hs, newQ, Bool.and_eq_true] at h1
    exact inF_trans ((sub_less t s i h1.1).2 ⟨ht, h2⟩) h1.2
/-- The interval of a facet. -/
def between (r s t : Nat) : Bool := sub r t && sub t s
theorem inF_snoc (B : List Int) (x : Int) (t : Nat) : inF (B ++ [x]) t = (inF B t || sub t x.toNat) := by
  unfold inF; rw [List.any_append]; simp
theorem step_iff {B : List Int} {x : Int} (hs : x.toNat < 64) (hf : fitsB B x.toNat = true) (t : Nat) : inF (B ++ [x]) t = (inF B t || between (newN B x.toNat) x.toNat t) ∧ (inF B t && between (newN B x.toNat) x.toNat t) = false := by
  rw [inF_snoc]
  unfold between
  cases ht : sub t x.toNat with
  | false => simp
  | true =>
    have h := old_iff hs hf t ht
    cases h1 : inF B t with
    | true => rw [h.1 h1]; simp
    | false =>
      cases h2 : sub (newN B x.toNat) t with
      | true => simp
      | false => rw [h.2 h2] at h1; cases h1

/-! ### orders of facets -/
/-- The least new faces, in order. -/
def news (L : List Int) : List Int := (List.range L.length).map fun k => (newN (L.take k) (L.getD k 0).toNat : Int)
def shellB (L : List Int) : Bool := (List.range L.length).all fun k => fitsB (L.take k) (L.getD k 0).toNat
theorem news_length (L : List Int) : (news L).length = L.length := by simp [news]
theorem at_snoc {α : Type} (f : List Int → Int → α) (L : List Int) (x : Int) : (List.range (L ++ [x]).length).map (fun k => f ((L ++ [x]).take k) ((L ++ [x]).getD k 0)) = (List.range L.length).map (fun k => f (L.take k) (L.getD k 0)) ++ [f L x] := by
  rw [List.length_append, List.length_singleton, List.range_succ, List.map_append]
  congr 1
  · apply List.map_congr_left
    intro k hk
    rw [List.mem_range] at hk
    rw [List.take_append_of_le_length (by omega), List.getD, List.getElem?_append_left hk, List.getD]
  · rw [List.map_cons, List.map_nil, List.take_append_of_le_length (Nat.le_refl _), List.take_length, List.getD, List.getElem?_append_right (Nat.le_refl _)]
    simp
theorem news_snoc (L : List Int) (x : Int) : news (L ++ [x]) = news L ++ [(newN L x.toNat : Int)] := at_snoc (fun B y => (newN B y.toNat : Int)) L x
theorem shellB_snoc (L : List Int) (x : Int) : shellB (L ++ [x]) = (shellB L && fitsB L x.toNat) := by
  have h := at_snoc (fun B y => fitsB B y.toNat) L x
  have e : ∀ M : List Int, shellB M = ((List.range M.length).map fun k => fitsB (M.take k) (M.getD k 0).toNat).all id := by
    intro M; rw [List.all_map]; rfl
  rw [e, h, List.all_append, ← e]
  simp
theorem shellB_nil : shellB [] = true := rfl
theorem snoc_ind (P : List Int → Prop) (h0 : P []) (h1 : ∀ L x, P L → P (L ++ [x])) (L : List Int) : P L := by
  have : ∀ M : List Int, P M.reverse := by
    intro M
    induction M with
    | nil => exact h0
    | cons x M ih => rw [List.reverse_cons]; exact h1 _ _ ih
  have h := this L.reverse
  rwa [List.reverse_reverse] at h

/-- All facets are sets of points. -/
def Under (L : List Int) : Prop := ∀ x ∈ L, x.toNat < 64
theorem Under.snoc {L : List Int} {x : Int} (h : Under (L ++ [x])) : Under L ∧ x.toNat < 64 :=
  ⟨fun y hy => h y (List.mem_append_left _ hy), h x (List.mem_append_right _ (List.mem_singleton.2 rfl))⟩

/-- Points of a set as a list are no more than its size: two points that r lacks. -/
theorem two_more : ∀ r t : Fin 64, pc r.val + 2 ≤ pc t.val → ∃ i j : Fin 6, i ≠ j ∧ (t.val.testBit i.val && !r.val.testBit i.val) = true ∧ (t.val.testBit j.val && !r.val.testBit j.val) = true := by decide +kernel
/-- Where the new faces have at most m points, a set of m + 2 points or more all of whose parts are faces is a face. -/
theorem no_missing (m : Nat) : ∀ L : List Int, Under L → shellB L = true → (∀ r ∈ news L, pc r.toNat ≤ m) → ∀ t, t < 64 → m + 2 ≤ pc t → (∀ i, t.testBit i = true → inF L (less t i) = true) → inF L t = true := by
  refine snoc_ind _ ?_ ?_
  · intro _ _ _ t ht hm h
    exfalso
    obtain ⟨i, j, _, hi, _⟩ := two_more 0 ⟨t, ht⟩ (by show pc 0 + 2 ≤ pc t; rw [pc_zero]; omega)
    rw [Bool.and_eq_true] at hi
    have := h i.val hi.1
    cases this
  · intro L x ih hU hS hR t ht hm h
    obtain ⟨hU1, hx⟩ := hU.snoc
    rw [shellB_snoc, Bool.and_eq_true] at hS
    have hR1 : ∀ r ∈ news L, pc r.toNat ≤ m := fun r hr => hR r (by rw [news_snoc]; exact List.mem_append_left _ hr)
    have hR2 : pc (newN L x.toNat) ≤ m := hR (newN L x.toNat : Int) (by rw [news_snoc]; exact List.mem_append_right _ (List.mem_singleton.2 rfl))
    have hst := step_iff hx hS.2
    cases hc : sub (newN L x.toNat) t with
    | true =>
      obtain ⟨i, j, hne, hi, hj⟩ := two_more ⟨newN L x.toNat, newN_lt _ _⟩ ⟨t, ht⟩ (by show pc (newN L x.toNat) + 2 ≤ pc t; omega)
      rw [Bool.and_eq_true, Bool.not_eq_true'] at hi hj
      have key : ∀ i : Nat, t.testBit i = true → (newN L x.toNat).testBit i = false → sub (less t i) x.toNat = true := by
        intro i h1 h2
        have h3 := h i h1
        have h4 : sub (newN L x.toNat) (less t i) = true := (sub_less _ t i h1).2 ⟨hc, h2⟩
        rw [inF_snoc, Bool.or_eq_true] at h3
        rcases h3 with h3 | h3
        · exfalso
          have h5 := hS.2
          unfold fitsB at h5
          rw [inF_trans h4 h3] at h5
          cases h5
        · exact h3
      have k1 := key i.val hi.1 hi.2
      have k2 := key j.val hj.1 hj.2
      rw [inF_snoc, Bool.or_eq_true]
      right
      rw [sub_iff] at k1 k2 ⊢
      intro q hq
      by_cases e : q = i.val
      · apply k2
        rw [less_bit t j.val q hj.1, hq]
        have : q ≠ j.val := by intro e2; exact hne (Fin.ext (e ▸ e2))
        simp [this]
      · apply k1
        rw [less_bit t i.val q hi.1, hq]
        simp [e]
    | false =>
      rw [inF_snoc, ih hU1 hS.1 hR1 t ht hm ?_]
      · rfl
      · intro i hi
        have h3 := h i hi
        rw [(hst (less t i)).1, Bool.or_eq_true] at h3
        rcases h3 with h3 | h3
        · exact h3
        · exfalso
          unfold between at h3
          rw [Bool.and_eq_true] at h3
          rw [sub_trans h3.1 (less_sub t i hi)] at hc
          cases hc
/-- Where none has k points, none has more. -/
theorem none_above (k : Nat) (hk : 1 ≤ k) : ∀ L : List Int, Under L → shellB L = true → (∀ r ∈ news L, pc r.toNat ≠ k) → ∀ r ∈ news L, pc r.toNat < k := by
  refine snoc_ind _ ?_ ?_
  · intro _ _ _ r hr; simp [news] at hr
  · intro L x ih hU hS hR r hr
    obtain ⟨hU1, hx⟩ := hU.snoc
    rw [shellB_snoc, Bool.and_eq_true] at hS
    have h1 := ih hU1 hS.1 (fun r hr => hR r (by rw [news_snoc]; exact List.mem_append_left _ hr))
    rw [news_snoc, List.mem_append, List.mem_singleton] at hr
    rcases hr with hr | hr
    · exact h1 r hr
    · have h2 := hR r (by rw [news_snoc, hr]; exact List.mem_append_right _ (List.mem_singleton.2 rfl))
      rcases Nat.lt_trichotomy (pc r.toNat) k with h3 | h3 | h3
      · exact h3
      · exact absurd h3 h2
      · exfalso
        have e : r.toNat = newN L x.toNat := by rw [hr]; rfl
        rw [e] at h3
        have h4 := no_missing (k - 1) L hU1 hS.1 (fun r hr => by have := h1 r hr; omega) (newN L x.toNat) (newN_lt _ _) (by omega) (fun i hi => by
          have h5 := newN_sub L hx
          refine (old_iff hx hS.2 (less (newN L x.toNat) i) (sub_trans (less_sub _ i hi) h5)).2 ?_
          rw [Bool.eq_false_iff]; intro h6
          have := ((sub_less (newN L x.toNat) (newN L x.toNat) i hi).1 h6).2
          rw [hi] at this; cases this)
        have h5 := hS.2
        unfold fitsB at h5
        rw [h4] at h5
        cases h5

/-! ### counts -/
theorem cnt_ord (k : Nat) (p : Nat → Bool) : cnt k (ord p) = (ord fun _ => true).countP fun x => p x.toNat && (pc x.toNat == k) := by
  rw [ord_filter p]
  unfold cnt
  rw [List.countP_filter]
  apply List.countP_congr
  intro x _
  rw [Bool.and_comm]
theorem count_or (p q : Int → Bool) : ∀ L : List Int, (∀ x ∈ L, (p x && q x) = false) → L.countP (fun x => p x || q x) = L.countP p + L.countP q
  | [], _ => rfl
  | x :: L, h => by
    rw [List.countP_cons, List.countP_cons, List.countP_cons, count_or p q L (fun y hy => h y (List.mem_cons_of_mem _ hy))]
    have := h x (List.mem_cons_self ..)
    cases h1 : p x <;> cases h2 : q x
    · simp
    · simp; omega
    · simp; omega
    · rw [h1, h2] at this; cases this
theorem between_count : ∀ s : Fin 64, ∀ r : Fin 64, sub r.val s.val = true → ∀ k : Fin 7, cnt k.val (ord (between r.val s.val)) = if pc r.val ≤ k.val then ch (pc s.val - pc r.val) (k.val - pc r.val) else 0 := by decide +kernel

/-- How many new faces have i points. -/
def hOf (L : List Int) (i : Nat) : Nat := cnt i (news L)
/-- The sum by binomial numbers. -/
def hsN (r : Nat → Nat) (d k : Nat) : Nat → Nat
  | 0 => 0
  | m + 1 => hsN r d k m + r m * ch (d - m) (k - m)
theorem hsN_zero (d k : Nat) : ∀ m, hsN (fun _ => 0) d k m = 0
  | 0 => rfl
  | m + 1 => by rw [hsN, hsN_zero d k m]; simp
theorem hsN_one (r r' : Nat → Nat) (c d k : Nat) (h : ∀ i, r' i = r i + if c = i then 1 else 0) : ∀ m, hsN r' d k m = hsN r d k m + if c < m then ch (d - c) (k - c) else 0
  | 0 => by simp [hsN]
  | m + 1 => by
    rw [hsN, hsN, hsN_one r r' c d k h m, h m]
    by_cases e : c = m
    · subst e
      rw [if_pos rfl, if_neg (Nat.lt_irrefl c), if_pos (Nat.lt_succ_self c), Nat.add_mul]
      omega
    · rw [if_neg e]
      by_cases e2 : c < m
      · rw [if_pos e2, if_pos (by omega)]; simp; omega
      · rw [if_neg e2, if_neg (by omega)]; simp
/-- THE COUNTS OF A SHELLING whose facets have d points. -/
theorem shell_counts (d k : Nat) (hk : k < 7) : ∀ L : List Int, Under L → shellB L = true → (∀ x ∈ L, pc x.toNat = d) → cnt k (ord (inF L)) = hsN (hOf L) d k (k + 1) := by
  refine snoc_ind _ ?_ ?_
  · intro _ _ _
    have e : hOf [] = fun _ => 0 := rfl
    rw [e, hsN_zero, cnt_ord, List.countP_eq_zero]
    intro x _
    simp [inF]
  · intro L x ih hU hS hd
    obtain ⟨hU1, hx⟩ := hU.snoc
    rw [shellB_snoc, Bool.and_eq_true] at hS
    have hst := step_iff hx hS.2
    have h1 := ih hU1 hS.1 (fun y hy => hd y (List.mem_append_left _ hy))
    have h2 : cnt k (ord (inF (L ++ [x]))) = cnt k (ord (inF L)) + cnt k (ord (between (newN L x.toNat) x.toNat)) := by
      rw [cnt_ord, cnt_ord, cnt_ord, ← count_or]
      · apply List.countP_congr
        intro y _
        rw [(hst y.toNat).1, Bool.and_or_distrib_right]
      · intro y _
        have := (hst y.toNat).2
        cases h3 : inF L y.toNat with
        | false => rfl
        | true =>
          rw [h3, Bool.true_and] at this
          rw [this]; simp
    have hs1 := newN_sub L hx
    have h3 := between_count ⟨x.toNat, hx⟩ ⟨newN L x.toNat, newN_lt _ _⟩ hs1 ⟨k, hk⟩
    dsimp only at h3
    rw [h2, h1, h3, hd x (List.mem_append_right _ (List.mem_singleton.2 rfl))]
    rw [hsN_one (hOf L) (hOf (L ++ [x])) (pc (newN L x.toNat)) d k (fun i => by
      unfold hOf
      rw [news_snoc, cnt_snoc]
      rfl) (k + 1)]
    congr 1
    by_cases e : pc (newN L x.toNat) ≤ k
    · rw [if_pos e, if_pos (by omega)]
    · rw [if_neg e, if_neg (by omega)]

end Go.Proofs.Ytmonaiojejbhkaa.Sh

/-! H NUMBERS OF SHELLABLE COMPLEXES of six points and at most eight facets are possible counts of monomials; of no program. -/

namespace Go.Proofs.Ytmonaiojejbhkaa.Sh
open Sets Hn Kk

/-- AreMonomialCounts, at the index k. -/
def stepM (L : List Int) (k : Nat) : Bool :=
  decide (0 ≤ L.getD k 0) && decide (L.getD k 0 ≤ 1000) && (if k = 0 then decide (L.getD 0 0 = 1) else if k = 1 then true else decide (L.getD k 0 ≤ boundZ 1 (L.getD (k - 1) 0) ((k - 1 : Nat) : Int)))
def monoB (L : List Int) : Bool := decide (1 ≤ L.length) && decide (L.length ≤ 7) && (List.range L.length).all (stepM L)

/-! ### six points, ten edges, each point in a triangle -/
theorem enc_append (p : Nat → Bool) : ∀ A B : List Nat, enc p (A ++ B) = enc p A + 2 ^ A.length * enc p B
  | [], B => by simp [enc]
  | s :: A, B => by
    rw [List.cons_append, enc, enc, enc_append p A B, List.length_cons, Nat.pow_succ, Nat.mul_add]
    generalize 2 ^ A.length = P
    generalize enc p A = x
    generalize enc p B = y
    have : 2 * (P * y) = P * 2 * y := by rw [← Nat.mul_assoc, Nat.mul_comm 2 P]
    omega
/-- The edges at a point. -/
def star (i : Nat) : List Nat := twos.filter fun s => s.testBit i
def starM : List (List Nat) := [[1, 2, 8, 64, 1024], [1, 4, 16, 128, 2048], [2, 4, 32, 256, 4096], [8, 16, 32, 512, 8192], [64, 128, 256, 512, 16384], [1024, 2048, 4096, 8192, 16384]]
theorem starM_eq : (List.range 6).map (fun i => (star i).map (mask twos)) = starM := by decide +kernel
def threesM : List Nat := [7, 25, 42, 52, 193, 322, 388, 584, 656, 800, 3073, 5122, 6148, 9224, 10256, 12320, 17472, 18560, 20736, 25088]
theorem threesM_eq : threes.map (mask twos) = threesM := by decide +kernel
def fivesOf : Nat → List Nat
  | 2 => [3, 5, 6, 9, 10, 12, 17, 18, 20, 24]
  | 3 => [7, 11, 13, 14, 19, 21, 22, 25, 26, 28]
  | 4 => [15, 23, 27, 29, 30]
  | 5 => [31]
  | _ => []
theorem fives_all : every (fun b => (List.range 6).all fun e => !(Nat.beq (Kk.bits 5 b) e && Nat.ble 2 e) || (fivesOf e).contains b) 32 = true := by decide +kernel
def sixB (g : Nat) : Bool := !(starM.all fun m => Nat.ble 2 (within g m)) || Nat.ble (within g threesM) 6
theorem sixes : every (fun a => (fivesOf (10 - Kk.bits 10 a)).all fun b => sixB (a + 1024 * b)) 1024 = true := by decide +kernel
theorem star_two : ∀ i : Fin 6, ∀ t ∈ threes, t.testBit i.val = true → (star i.val).countP (fun s => sub s t) = 2 := by decide +kernel
theorem six_tri {p : Nat → Bool} (hd : Down p) (hp : ∀ i, i < 6 → ∃ t ∈ threes, t.testBit i = true ∧ p t = true) (h : twos.countP p = 10) : threes.countP p ≤ 6 := by
  have hg : enc p twos = enc p lo2 + 1024 * enc p (lo1.map (32 + ·)) := by rw [twos_split, enc_append]; rfl
  have ha : enc p lo2 < 1024 := enc_lt p lo2
  have hb : enc p (lo1.map (32 + ·)) < 32 := enc_lt p (lo1.map (32 + ·))
  have hc1 : Kk.bits 10 (enc p lo2) = lo2.countP p := bits_enc p lo2
  have hc2 : Kk.bits 5 (enc p (lo1.map (32 + ·))) = (lo1.map (32 + ·)).countP p := bits_enc p (lo1.map (32 + ·))
  have hc : lo2.countP p + (lo1.map (32 + ·)).countP p = 10 := by rw [← h, twos_split, List.countP_append]
  have hbit : ∀ t, ∀ q : Nat → Bool, (∀ s ∈ twos, sub s t = true → p s = true) → Nat.land (enc p twos) (mask twos t) = mask twos t := by
    intro t q hq
    refine land_of _ _ twos.length (enc_lt _ _) fun i hi hb => ?_
    rw [enc_bit p twos i hi]
    unfold mask at hb
    rw [enc_bit _ twos i hi] at hb
    have hm : twos.getD i 0 ∈ twos := by rw [List.getD, List.getElem?_eq_getElem hi]; exact List.getElem_mem hi
    exact hq _ hm hb
  have hT : threes.countP p ≤ within (enc p twos) threesM := by
    rw [← threesM_eq]
    exact within_ge (enc p twos) p (mask twos) threes (fun t ht hq => hbit t p fun s hs hst => hd s t (twos_lt s hs) (threes_lt t ht) hst hq)
  have hS : ∀ i, i < 6 → 2 ≤ within (enc p twos) ((star i).map (mask twos)) := by
    intro i hi
    obtain ⟨t, ht, hti, hpt⟩ := hp i hi
    have h2 := star_two ⟨i, hi⟩ t ht hti
    dsimp only at h2
    have hsub : ∀ s ∈ star i, s ∈ twos := fun s hs => (List.mem_filter.1 hs).1
    have h3 : (star i).countP (fun s => sub s t) ≤ (star i).countP p := List.countP_mono_left fun s hs e => hd s t (twos_lt s (hsub s hs)) (threes_lt t ht) e hpt
    have h4 := within_ge (enc p twos) p (mask twos) (star i) (fun s hs hq => hbit s p fun u hu hus => by
      have : u ≤ s := sub_le hus
      exact hd u s (twos_lt u hu) (twos_lt s (hsub s hs)) hus hq)
    omega
  have hA : starM.all (fun m => Nat.ble 2 (within (enc p twos) m)) = true := by
    rw [List.all_eq_true, ← starM_eq]
    intro m hm
    obtain ⟨i, hi, rfl⟩ := List.mem_map.1 hm
    rw [List.mem_range] at hi
    exact Nat.ble_eq_true_of_le (hS i hi)
  have h5 := hS 5 (by decide)
  have hb2 : 2 ≤ Kk.bits 5 (enc p (lo1.map (32 + ·))) := by
    rw [hc2]
    obtain ⟨t, ht, hti, hpt⟩ := hp 5 (by decide)
    have h2 := star_two ⟨5, by decide⟩ t ht hti
    dsimp only at h2
    have e : star 5 = lo1.map (32 + ·) := by decide
    rw [e] at h2
    rw [← h2]
    exact List.countP_mono_left fun s hs e => hd s t ((by decide : ∀ s ∈ lo1.map (32 + ·), s < 64) s hs) (threes_lt t ht) e hpt
  have hx := every_at fives_all (enc p (lo1.map (32 + ·))) hb
  have hb5 : (lo1.map (32 + ·)).countP p ≤ 5 := List.countP_le_length
  rw [List.all_eq_true] at hx
  have hx := hx (Kk.bits 5 (enc p (lo1.map (32 + ·)))) (by rw [List.mem_range]; omega)
  have e1 : Nat.beq (Kk.bits 5 (enc p (lo1.map (32 + ·)))) (Kk.bits 5 (enc p (lo1.map (32 + ·)))) = true := Nat.beq_refl _
  have e2 : Nat.ble 2 (Kk.bits 5 (enc p (lo1.map (32 + ·)))) = true := Nat.ble_eq_true_of_le hb2
  rw [e1, e2] at hx
  have hx : (fivesOf (Kk.bits 5 (enc p (lo1.map (32 + ·))))).contains (enc p (lo1.map (32 + ·))) = true := by simpa using hx
  have hy := every_at sixes (enc p lo2) ha
  rw [show 10 - Kk.bits 10 (enc p lo2) = Kk.bits 5 (enc p (lo1.map (32 + ·))) by omega, List.all_eq_true] at hy
  have hz := hy _ (List.contains_iff_mem.1 hx)
  rw [← hg] at hz
  unfold sixB at hz
  rw [hA] at hz
  have hz : Nat.ble (within (enc p twos) threesM) 6 = true := by simpa using hz
  exact Nat.le_trans hT (Nat.le_of_ble_eq_true hz)

end Go.Proofs.Ytmonaiojejbhkaa.Sh
