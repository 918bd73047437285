/-
  WALKS: spec's chapter 9: PointClasses.
-/
import Derived.Test.YtbkkdgmiokdbmaaGreatWNamSC
import Derived.Test.YtbkkdgmiokdbmaaGreatWNamI1
import Derived.Test.YtbkkdgmiokdbmaaGreatJg3
namespace Go.Proofs.YtbkkdgmiokdbmaaGreat
open Go.RowKit
open Sets Nam

/-- PointClasses. -/
def clsO (n : Int) (xs : List Int) : List Int := if isC n xs = true then classes n.toNat xs else []
theorem clsO_no {n : Int} {xs : List Int} (h : isC n xs = false) : clsO n xs = [] := by unfold clsO; rw [if_neg (by rw [h]; simp)]
theorem clsO_yes {n : Int} {xs : List Int} (h : isC n xs = true) : clsO n xs = classes n.toNat xs := by unfold clsO; rw [if_pos h]

theorem orbTo_next (L : List (List Nat)) (i k : Nat) (h : k < L.length) : orbU (L.take (k + 1)) i = orbU (L.take k) i ||| 2 ^ pt (L.getD k []) i := by
  unfold orbU
  rw [List.take_add_one, List.foldl_append, List.getD, List.getElem?_eq_getElem h]; rfl
theorem orbTo_lt {m i : Nat} (L : List (List Nat)) (hL : ∀ ns, ns ∈ L → Names m ns) (hm : m ≤ 6) (hi : i < m) (k : Nat) : orbU (L.take k) i < 64 := by
  refine Nat.lt_of_lt_of_le (lt_pow (n := 6) fun j hj => ?_) (Nat.le_refl 64)
  rw [Bool.eq_false_iff]; intro e
  rcases (orbU_bit i j (L.take k) 0).1 e with h | ⟨ns, hn, h⟩
  · rw [Nat.zero_testBit] at h; cases h
  · have := (hL ns (List.mem_of_mem_take hn)).lt hi
    omega
theorem sym_names {m : Nat} {xs : List Int} {k : Nat} (h : k < (symL m xs).length) : Names m ((symL m xs).getD k []) := by
  rw [List.getD, List.getElem?_eq_getElem h]
  exact ((mem_sym m xs _).1 (List.getElem_mem h)).1
theorem and_low (s i : Nat) (hs : s < 64) (hi : i < 6) : (bits BinOp.and IntKind.i64 (s : Int) (wrap64 (wrap64 (2 ^ i) - 1)) == 0) = (s &&& (2 ^ i - 1) == 0) := by
  have h : ∀ a : Fin 64, ∀ b : Fin 6, (bits BinOp.and IntKind.i64 (a.val : Int) (wrap64 (wrap64 (2 ^ b.val) - 1)) == 0) = (a.val &&& (2 ^ b.val - 1) == 0) := by decide +kernel
  exact h ⟨s, hs⟩ ⟨i, hi⟩

set_option maxRecDepth 100000 in
set_option maxHeartbeats 2000000 in
theorem specClasses_yes (m : Nat) (hm1 : 1 ≤ m) (hm6 : m ≤ 6) (a : Option Addr) (c : Nat) (xs : List Int) (hC : isC (m : Int) xs = true) (w : World) (h : Ints w a xs) :
    Calls Tryz.prog 22 #[cx (m : Int) (.slice a xs.length c)] w fun e w' => ∃ v, e = .returned v ∧ OwnInts w' w.heap.size v (classes m xs) ∧ Below w.heap.size w w' := by
  obtain ⟨i0, hi, hz0, hz1, hz2⟩ := info_parts info_int
  have hb0 : Below w.heap.size w ((w.alloc (.cells #[.int .i64 (m : Int), .slice a xs.length c] 26)).alloc (.cells #[] 3)) := ((Below.refl _ _).alloc (Nat.le_refl _) _).alloc (by simp) _
  have htc := (Two.new w (.int .i64 (m : Int)) (.slice a xs.length c) 26).alloc (.cells #[] 3)
  have hO0 := OwnInts.lit (w.alloc (.cells #[.int .i64 (m : Int), .slice a xs.length c] 26)) w.heap.size [] (by simp) (by simp)
  rw [World.size_alloc] at hO0
  obtain ⟨gb, hgb⟩ : ∃ gb, w.heap.size + 1 = gb := ⟨_, rfl⟩
  rw [hgb] at hO0
  have hwb : w.heap.size < gb := by omega
  have hl64 := isC_le hC
  have HH := Lib.hid h
  have HC := Lib.hid hC
  have HB0 := Lib.hid hb0
  have HTC := Lib.hid htc
  have HO0 := Lib.hid hO0
  have HGB := Lib.hid hgb
  obtain ⟨t0, t1, t2, t3, t4⟩ := htc
  clear h hC hb0 hO0 hgb
  go_enter Tryz.func22, Tryz.ntmps22
  go_wp2_with fail
  refine (specIsC_b (m : Int) _ _ xs true HC.out (by omega) _ (HH.out.keeps HB0.out)).mono ?_
  rintro e w1 ⟨rfl, hb1⟩
  try rw [HGB.out]
  have HB1 : Hid (Below w.heap.size w w1) := HB0.out.trans (hb1.mono HB0.out.size)
  have HT1 := Lib.hid (HTC.out.keeps hb1)
  have HO1 := Lib.hid (HO0.out.keeps hb1)
  have hz1' := HB1.out.size
  have hgb1 : gb < w1.heap.size := by have h1 := hb1.size; simp at h1; have := HGB.out; omega
  clear t0 t1 t2 t3 t4 hb1
  obtain ⟨t0, t1, t2, t3, t4⟩ := HT1.out
  go_wp2_with fail
  refine (l9Sym_any m hm1 hm6 a c xs HC.out _ (HH.out.keeps HB1.out)).mono ?_
  rintro e w4 ⟨v4, R4, rfl, hM4, hb4⟩
  have hlM : ((symL m xs).map Zs).length = (symL m xs).length := List.length_map ..
  obtain ⟨N, hNN⟩ : ∃ N, (symL m xs).length = N := ⟨_, rfl⟩
  obtain ⟨go, ao, co, hv4, hgo, hMX⟩ := hM4.mx
  have hpos := sym_pos HC.out
  rw [hlM, hNN] at hgo hv4
  rw [hNN] at hpos
  subst hv4
  have hgo1 := hgo hpos
  have hao : ao = some ⟨go, 0, none⟩ := (hMX.out 0 (by rw [hlM, hNN]; exact hpos)).1
  subst hao
  have HROWS := Lib.hid (fun i (hi : i < (symL m xs).length) => (hM4.rows i (by rw [hlM]; exact hi)).1)
  have HMX := Lib.hid hMX
  have HNN := Lib.hid hNN
  have HLM := Lib.hid (hlM.trans hNN)
  have HB4 : Hid (Below w.heap.size w w4) := HB1.out.trans (hb4.mono hz1')
  have HT4 := Lib.hid (HT1.out.keeps hb4)
  have HO4 := Lib.hid (HO1.out.keeps hb4)
  have hz4 := hb4.size
  have hN : N ≤ 46656 := by
    have h1 : (symL m xs).length ≤ (allNames m).length := List.length_filter_le _ _
    have h2 := allNames_len hm6
    have := HNN.out; omega
  clear hNN hlM hM4 hMX hgo hb4 t0 t1 t2 t3 t4
  go_wp2
  go_loopw [3, 5] (fun u i wr => ∃ k : Nat, k ≤ m ∧ i = .int .i64 (k : Int) ∧ OwnInts wr w.heap.size u (clsU m xs k) ∧ Only [gb] w4 wr ∧ (u.ownBlock = some gb ∨ ∃ z, u.ownBlock = some z ∧ w4.heap.size ≤ z)) (fun _ i _ => m - (intOf i).toNat)
  case atStart => exact ⟨0, Nat.zero_le _, rfl, HO4.out, Only.refl _ _, .inl rfl⟩
  case round =>
    obtain ⟨k, hk, rfl, hO, hOn, hu⟩ := hrel
    have hsz := hOn.size
    have HO := Lib.hid hO
    have HON := Lib.hid hOn
    have HU := Lib.hid hu
    have HTK := Lib.hid (two_only HT4.out hOn (by simp; omega))
    have HBK : Hid (Below w.heap.size w wr) := HB4.out.trans (hOn.below (fun g hg => by simp at hg; omega) (by omega))
    have hszk := HBK.out.size
    clear hO hOn hu
    obtain ⟨t0, t1, t2, t3, t4⟩ := HTK.out
    by_cases hlt : k < m
    · go_wp2
      go_loop [6, 7] (fun s j => ∃ p : Nat, p ≤ N ∧ j = .int .i64 (p : Int) ∧ s = .int .i64 ((orbU ((symL m xs).take p) k : Nat) : Int)) (fun _ j => N - (intOf j).toNat)
      case atStart => exact ⟨0, Nat.zero_le _, rfl, rfl⟩
      case round =>
        obtain ⟨p, hp, rfl, rfl⟩ := hrel
        by_cases hpN : p < N
        · have hpL : p < (symL m xs).length := by rw [HNN.out]; exact hpN
          have hns := sym_names hpL
          have hnx := orbTo_next (symL m xs) k p hpL
          have horb := orbTo_lt (symL m xs) (fun ns h => ((mem_sym m xs ns).1 h).1) hm6 hlt p
          have hrow := names_row (symL m xs) p hpL
          obtain ⟨ns, hnse⟩ : ∃ ns, (symL m xs).getD p [] = ns := ⟨_, rfl⟩
          rw [hnse] at hns hnx hrow
          have hnl : (Zs ns).length = m := (Zs_len ns).trans hns.len
          have hkM : p < ((symL m xs).map Zs).length := by rw [HLM.out]; exact hpN
          have hcell : wr.cell? ⟨go, p, none⟩ = some (.slice (some ⟨blk R4 p, 0, none⟩) m (room R4 p)) := by
            have h1 := HMX.out.cell hkM
            rw [hrow, hnl] at h1
            rw [World.cell?_of_block (w := w4) (HON.out.block go hgo1.2 (by simp; omega))]
            exact h1
          have hr2 : IntsAt wr (blk R4 p) (some ⟨blk R4 p, 0, none⟩) (Zs ns) := by
            have h1 := (HMX.out.rows p hkM).2
            rw [hrow] at h1
            exact h1.only HON.out (by have := HROWS.out p hpL; simp; omega)
          obtain ⟨tt, htt, htm, hpt⟩ := (Nms.of_names hm1 hm6 hns).at_ k hlt
          have hc2 := (hr2 k (by rw [hnl]; exact hlt)).2.2.1
          rw [htt] at hc2
          rw [toN_Zs] at hpt
          rw [hpt] at hnx
          have HNX := Lib.hid hnx
          obtain ⟨ob, hob⟩ : ∃ ob, orbU ((symL m xs).take p) k = ob := ⟨_, rfl⟩
          rw [hob] at horb HNX
          rw [hob]
          clear hob hnx hrow hnse hnl hr2 htt hpt hns hpL hkM
          go_wp2
          go_round
          case rel => exact ⟨p + 1, by omega, by go_num, by rw [HNX.out]; exact congrArg (Value.int .i64) (or_name ob tt horb (by omega))⟩
          case measure => simp [intOf]; omega
        · have hpe : p = N := by omega
          have horb := orbTo_lt (symL m xs) (fun ns h => ((mem_sym m xs ns).1 h).1) hm6 hlt p
          have hOB : orbU ((symL m xs).take p) k = orb m xs k := by
            rw [hpe, ← HNN.out, List.take_length]; rfl
          rw [hOB] at horb
          rw [hOB]
          have hcl := clsU_le m xs k
          have hclm : (clsU m xs k).length ≤ 6 := by omega
          have htest := and_low (orb m xs k) k horb (by omega)
          cases hb : leastP m xs k with
          | true =>
            have HN1 := Lib.hid (clsU_hit hb)
            have htest2 : (bits BinOp.and IntKind.i64 ((orb m xs k : Nat) : Int) (wrap64 (wrap64 (2 ^ k) - 1)) == 0) = true := htest.trans hb
            obtain ⟨ob, hob⟩ : ∃ ob, orb m xs k = ob := ⟨_, rfl⟩
            rw [hob] at HN1 htest2 horb
            rw [hob]
            have HOW := HO
            unfold OwnInts at HOW
            clear htest hOB hb hob hpe
            go_wp2_with (at_builtin; refine wpList_append_own_at _ rfl _ _ 24 rfl w.heap.size 3 i0 (.int .i64 0) 1 8 Tryz.underlying24 hi hz0 hz1 hz2 rfl (by decide) _ _ _ rfl (HOW.out.alloc _) ⟨wr.heap.size, 0, none⟩ 1 1 [.int .i64 (ob : Int)] rfl rfl (fun j u hj => Mem.cell_new wr _ _ j u hj) (fun u hu => by rw [List.mem_singleton.1 hu]; rfl) (by unfold maxLen; omega) (by omega) (by simp; omega) ?_)
            intro v' w9 hown1 hgrow _ hob
            have hO9 : OwnInts w9 w.heap.size v' (clsU m xs k ++ [(ob : Int)]) := OwnInts.next hown1
            have hw9 : Only u3.ownBlock.toList wr w9 := (Only.new _ wr _).trans (only_grown hgrow)
            have hu9 : v'.ownBlock = some gb ∨ ∃ z, v'.ownBlock = some z ∧ w4.heap.size ≤ z := by
              rcases hob with e | e
              · rw [e]; exact HU.out
              · exact .inr ⟨_, e, by first | omega | (rw [World.size_alloc]; omega)⟩
            have hon9 : Only [gb] w4 w9 := by
              refine ⟨hw9.os.trans HON.out.os, hw9.tape.trans HON.out.tape, hw9.output.trans HON.out.output, Nat.le_trans hsz hw9.size, fun x hx hn => ?_⟩
              rw [hw9.block x (by omega) ?_, HON.out.block x hx hn]
              intro hm
              rcases HU.out with e | ⟨z, e, hz⟩
              · rw [e] at hm; exact hn hm
              · rw [e] at hm; simp at hm; omega
            have HO9 := Lib.hid hO9
            have HU9 := Lib.hid hu9
            have HON9 := Lib.hid hon9
            clear hown1 hgrow hob hO9 hw9 hu9 hon9
            go_wp2
            go_roundw
            case rel => exact ⟨k + 1, by omega, by go_num, by rw [HN1.out]; exact HO9.out, HON9.out, HU9.out⟩
            case measure => simp [intOf]; omega
          | false =>
            have HN1 := Lib.hid (clsU_miss hb)
            have htest2 : (bits BinOp.and IntKind.i64 ((orb m xs k : Nat) : Int) (wrap64 (wrap64 (2 ^ k) - 1)) == 0) = false := htest.trans hb
            clear htest hOB hb hpe
            go_wp2
            go_roundw
            case rel => exact ⟨k + 1, by omega, by go_num, by rw [HN1.out]; exact HO.out, HON.out, HU.out⟩
            case measure => simp [intOf]; omega
    · have E : Hid (clsU m xs k = classes m xs) := by
        have h1 : k = m := by omega
        have : clsU m xs k = classes m xs := by rw [h1]; rfl
        exact this
      go_wp2
      go_ret
      exact ⟨_, rfl, by rw [← E.out]; exact HO.out, HBK.out⟩

set_option maxRecDepth 100000 in
set_option maxHeartbeats 1000000 in
theorem specClasses_any (n : Int) (a : Option Addr) (c : Nat) (xs : List Int) (hlen : xs.length ≤ 1099511627776) (w : World) (h : Ints w a xs) :
    Calls Tryz.prog 22 #[cx n (.slice a xs.length c)] w fun e w' => ∃ v, e = .returned v ∧ OwnInts w' w.heap.size v (clsO n xs) ∧ Below w.heap.size w w' := by
  cases hC : isC n xs with
  | false =>
    have hb0 : Below w.heap.size w ((w.alloc (.cells #[.int .i64 n, .slice a xs.length c] 26)).alloc (.cells #[] 3)) := ((Below.refl _ _).alloc (Nat.le_refl _) _).alloc (by simp) _
    have htc := (Two.new w (.int .i64 n) (.slice a xs.length c) 26).alloc (.cells #[] 3)
    have hO0 := OwnInts.lit (w.alloc (.cells #[.int .i64 n, .slice a xs.length c] 26)) w.heap.size [] (by simp) (by simp)
    rw [World.size_alloc] at hO0
    have H := Lib.hid (h.keeps hb0)
    have HB0 := Lib.hid hb0
    have HO0 := Lib.hid hO0
    have HC := Lib.hid hC
    obtain ⟨t0, t1, t2, t3, t4⟩ := htc
    rw [clsO_no hC]
    clear hC h hb0 hO0
    go_enter Tryz.func22, Tryz.ntmps22
    go_wp2_with fail
    refine (specIsC_b n _ _ xs false HC.out hlen _ H.out).mono ?_
    rintro e w1 ⟨rfl, hb1⟩
    have HO1 := Lib.hid (HO0.out.keeps hb1)
    have HB1 : Hid (Below w.heap.size w w1) := HB0.out.trans (hb1.mono HB0.out.size)
    clear hb1
    go_wp2
    go_ret
    exact ⟨_, rfl, HO1.out, HB1.out⟩
  | true =>
    rw [clsO_yes hC]
    obtain ⟨m, rfl, hm1, hm6⟩ := isC_cast hC
    rw [Int.toNat_natCast]
    exact specClasses_yes m hm1 hm6 a c xs hC w h

end Go.Proofs.YtbkkdgmiokdbmaaGreat
