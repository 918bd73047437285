/-
  WALKS: spec's chapter 12: the lists of exponents that begin with a head.
-/
import Derived.Test.YtmonaiojejbhkaaJg36
import Derived.Test.YtmonaiojejbhkaaJg35
import Derived.Test.YtmonaiojejbhkaaJg12
import Derived.Test.YtmonaiojejbhkaaJg15
namespace Go.Proofs.Ytmonaiojejbhkaa
open Go.RowKit
open Sets Hn Kk Mon

set_option maxRecDepth 100000 in
set_option maxHeartbeats 2000000 in
theorem l12Fill_any (n : Nat) (hn6 : n ≤ 6) (base : Nat) : ∀ (f : Nat) (head : List Int) (l : Nat), head.length = l → l + f + 1 = n → ∀ (left : Nat) (zl : Int), zl = (left : Int) → left ≤ 100 → ∀ (hg c : Nat) (v : Value) (R : List (Nat × Nat)) (M : Lin.Mat) (w : World), base ≤ hg → hg < w.heap.size → IntsAt w hg (some ⟨hg, 0, none⟩) head → OwnMx w base v R M → hg ∉ blks R → v.ownBlock ≠ some hg → M.length + (fillR f left).length ≤ 1000000 →
    Calls Try.prog 56 #[.int .i64 (n : Int), .int .i64 zl, .slice (some ⟨hg, 0, none⟩) l c, v] w fun e w' => ∃ v' R', e = .returned v' ∧ OwnMx w' base v' R' (M ++ fillH head f left) ∧ Adds v w R v' w' R' none
  | 0, head, l, hl, hf, left, zl, hzl, hleft, hg, c, v, R, M, w, hb, hgs, hI, hO, hR, hv, hm => by
    subst hzl
    obtain ⟨i0, hi, hz0, hz1, hz2⟩ := info_parts info_int
    obtain ⟨i9, hi9, hz90, hz91, hz92⟩ := info_parts info_row
    have hln : l < n := by omega
    have hm2 : M.length ≤ 1000000 := by omega
    have hne : ((l : Int) == (n : Int) - 1) = true := by rw [beq_iff_eq]; omega
    have HI := Lib.hid hI
    have HO := Lib.hid hO
    have HR := Lib.hid hR
    have HV := Lib.hid hv
    have HL := Lib.hid hl
    clear hf
    have hbs : base ≤ w.heap.size := by omega
    have hb1 : Below w.heap.size w (w.alloc (.cells #[] 3)) := (Below.refl _ _).alloc (Nat.le_refl _) _
    have HN1 := Lib.hid (HI.out.keeps hb1).ints
    have HO0 := Lib.hid (OwnInts.lit w w.heap.size [] (Nat.le_refl _) (by simp))
    have HB1 := Lib.hid hb1
    clear hI hO hR hv hl hb1 hm
    unfold OwnInts at HO0
    go_enter Try.func56, Try.ntmps56
    go_wp2_with (at_builtin; refine wpList_append_own_at _ rfl _ _ 26 rfl w.heap.size 3 i0 (.int .i64 0) 1 8 Try.underlying26 hi hz0 hz1 hz2 rfl (by decide) (.slice (some ⟨w.heap.size, 0, none⟩) 0 0) 0 [] rfl HO0.out ⟨hg, 0, none⟩ l c (head.map (Value.int .i64)) rfl ?c0 (Ints.news HN1.out) (one_ints _) ?c3 ?c4 ?c5 ?_)
    case c0 => rw [List.length_map, HL.out]; simp
    case c3 => unfold maxLen; omega
    case c4 => omega
    case c5 => simp
    intro v1 w3 hown1 hgrow1 _ _
    have hb3 : Below w.heap.size w w3 := HB1.out.grown hgrow1 (by simp) (fun g hg => by simp only [Value.ownBlock, Option.some.injEq] at hg; omega)
    have hsz3 := hb3.size
    have HO1 := Lib.hid hown1
    have HB3 := Lib.hid hb3
    clear hown1 hgrow1 hb3 HO0 HN1 HB1
    go_wp2_with (at_builtin; refine wpList_append_own_at _ rfl _ _ 26 rfl w.heap.size 3 i0 (.int .i64 0) 1 8 Try.underlying26 hi hz0 hz1 hz2 rfl (by decide) v1 l (head.map (Value.int .i64)) rfl (HO1.out.alloc _) ⟨w3.heap.size, 0, none⟩ 1 1 [.int .i64 (left : Int)] rfl rfl ?c1 ?c2 ?c3 ?c4 ?c5 ?_)
    case c1 => intro j u hj; exact Mem.cell_new w3 _ _ j u hj
    case c2 => intro u hu; simp at hu; subst hu; rfl
    case c3 => unfold maxLen; omega
    case c4 => omega
    case c5 => simp; omega
    intro v2 w4 hown2 hgrow2 _ _
    obtain ⟨g2, cap2, rfl, -⟩ := hown2.form (by omega)
    have hb4 : Below w.heap.size w w4 := (HB3.out.alloc hsz3 _).grown hgrow2 (by simp; omega) (fun g hg => (HO1.out.lt g hg).1)
    have hO4 : OwnInts w4 w.heap.size (.slice (some ⟨g2, 0, none⟩) (l + 1) cap2) (head ++ [(left : Int)]) := by
      unfold OwnInts
      rw [List.length_append, List.map_append, HL.out]
      exact hown2
    obtain ⟨q1, q2, q3, -⟩ := hO4.known
    have hsz4 := hb4.size
    have HB4 := Lib.hid hb4
    have HI4 := Lib.hid q3
    have HO4 := Lib.hid (HO.out.keeps hb4)
    have HR4 : Hid (g2 ∉ blks R) := by
      have : g2 ∉ blks R := fun h => by have := (HO.out.old h).2; omega
      exact this
    have HV4 : Hid (v.ownBlock ≠ some g2) := by
      have : v.ownBlock ≠ some g2 := fun e => by have := (HO.out.own.lt g2 e).2; omega
      exact this
    have HOW := Lib.hid HO4.out.own
    have HL1 : Hid ((head ++ [(left : Int)]).length = l + 1) := by
      have : (head ++ [(left : Int)]).length = l + 1 := by rw [List.length_append, HL.out]; rfl
      exact this
    clear hown2 hgrow2 hO4 q3 hb4 HB3 HO1
    go_wp2_with (at_builtin; refine wpList_append_own_at _ rfl _ _ 28 rfl base 26 i9 (.slice none 0 0) 1 24 Try.underlying28 hi9 hz90 hz91 hz92 rfl (by decide) _ _ _ rfl (HOW.out.alloc _) ⟨w4.heap.size, 0, none⟩ 1 1 [.slice (some ⟨g2, 0, none⟩) (l + 1) cap2] rfl rfl ?c1 ?c2 ?c3 ?c4 ?c5 ?_)
    case c1 => intro j u hj; exact Mem.cell_new w4 _ _ j u hj
    case c2 => intro u hu; simp at hu; subst hu; rfl
    case c3 => unfold maxLen; omega
    case c4 => omega
    case c5 => simp; omega
    intro v' w5 hown1 hgrow _ hob
    have hBA : Below w4.heap.size w4 (w4.alloc (.cells #[.slice (some ⟨g2, 0, none⟩) (l + 1) cap2] 26)) := (Below.refl _ _).alloc (Nat.le_refl _) _
    have hob2 : v'.ownBlock = v.ownBlock ∨ ∃ z, v'.ownBlock = some z ∧ (w4.alloc (.cells #[.slice (some ⟨g2, 0, none⟩) (l + 1) cap2] 26)).heap.size ≤ z := by
      rcases hob with e | e
      · exact .inl e
      · exact .inr ⟨_, e, by first | exact Nat.le_refl _ | (rw [World.size_alloc]; exact Nat.le_refl _)⟩
    have hO5 : OwnMx w5 base v' (R ++ [(g2, cap2)]) (M ++ fillH head 0 left) := by
      rw [fillH_zero]
      refine OwnMx.next (HO4.out.keeps hBA) (by omega) (by simp; omega) (HI4.out.keeps hBA) HR4.out HV4.out ?_ hgrow hob2
      rw [HL1.out]; exact hown1
    have HA : Adds v w R v' w5 (R ++ [(g2, cap2)]) none := by
      refine ⟨?_, ?_, fun g hm => ?_⟩
      · have h1 := only_grown hgrow
        have h2 := Only.of_below v.ownBlock.toList HB4.out
        have h3 := Only.of_below v.ownBlock.toList hBA
        exact h2.trans (h3.trans h1)
      · rcases hob2 with e | ⟨z, e, hz⟩
        · exact .inl e
        · exact .inr ⟨z, e, by rw [World.size_alloc] at hz; omega⟩
      · rw [show blks (R ++ [(g2, cap2)]) = blks R ++ [g2] by simp [blks], List.mem_append, List.mem_singleton] at hm
        rcases hm with h | rfl
        · exact .inl h
        · exact .inr (.inr (by omega))
    have HO5 := Lib.hid hO5
    have HAA := Lib.hid HA
    clear hown1 hgrow hob hob2 hO5 HA
    go_wp2
    go_ret
    exact ⟨_, _, rfl, HO5.out, HAA.out⟩
  | f + 1, head, l, hl, hf, left, zl, hzl, hleft, hg, c, v, R, M, w, hb, hgs, hI, hO, hR, hv, hm => by
    subst hzl
    obtain ⟨i0, hi, hz0, hz1, hz2⟩ := info_parts info_int
    have IH := Lib.hid (l12Fill_any n hn6 base f)
    have hln : l + 1 < n := by omega
    have hne : ((l : Int) == (n : Int) - 1) = false := by rw [beq_eq_false_iff_ne]; omega
    have HM := Lib.hid hm
    have HF := Lib.hid hf
    have HI := Lib.hid hI
    have HO := Lib.hid hO
    have HR := Lib.hid hR
    have HV := Lib.hid hv
    have HL := Lib.hid hl
    have hbs : base ≤ w.heap.size := by omega
    clear hI hO hR hv hl hm hf
    go_enter Try.func56, Try.ntmps56
    go_wp2
    go_loopw [3, 9] (fun u i wr => ∃ (j : Nat) (R' : List (Nat × Nat)), (j = left + 1 ∧ i = .int .i64 (-1) ∨ ∃ x : Nat, x + j = left ∧ i = .int .i64 (x : Int)) ∧ OwnMx wr base u R' (M ++ fillTo head f left j) ∧ Adds v w R u wr R' none) (fun _ i _ => (intOf i + 1).toNat)
    case atStart => exact ⟨0, R, .inr ⟨left, rfl, rfl⟩, by rw [fillTo_zero, List.append_nil]; exact HO.out, Only.refl _ _, .inl rfl, fun g h => .inl h⟩
    case round =>
      obtain ⟨j, R', hj, hO, hA⟩ := hrel
      have HO2 := Lib.hid hO
      have HA := Lib.hid hA
      have hsz := hA.only.size
      have hIw : IntsAt wr hg (some ⟨hg, 0, none⟩) head := HI.out.only hA.only (not_toList HV.out)
      have HIW := Lib.hid hIw
      clear hO hA hIw
      rcases hj with ⟨hj, rfl⟩ | ⟨x, hj, rfl⟩
      · have E : Hid (fillTo head f left j = fillH head (f + 1) left) := by
          have : fillTo head f left j = fillH head (f + 1) left := by rw [hj]; exact fillTo_all head f left
          exact this
        clear hj
        go_wp2
        go_ret
        exact ⟨_, R', rfl, by rw [← E.out]; exact HO2.out, HA.out⟩
      · have HE : Hid (fillTo head f left (j + 1) = fillTo head f left j ++ fillH (head ++ [(x : Int)]) f j) := by
          have : fillTo head f left (j + 1) = fillTo head f left j ++ fillH (head ++ [(x : Int)]) f j := fillTo_next head f left j x hj
          exact this
        have HME : Hid ((M ++ fillTo head f left j).length + (fillR f j).length ≤ 1000000) := by
          have : (M ++ fillTo head f left j).length + (fillR f j).length ≤ 1000000 := by
            have h1 := fillTo_mono head f left j (by omega)
            have h2 := HM.out
            rw [List.length_append]; omega
          exact this
        have HJ := Lib.hid hj
        have hx : x ≤ 100 := by omega
        have hxl : (x : Int) ≤ (left : Int) := by omega
        have hd : decide ((0 : Int) ≤ (x : Int)) = true := by simp
        have hb1 : Below wr.heap.size wr (wr.alloc (.cells #[] 3)) := (Below.refl _ _).alloc (Nat.le_refl _) _
        have HN1 := Lib.hid (HIW.out.keeps hb1).ints
        have HO0 := Lib.hid (OwnInts.lit wr wr.heap.size [] (Nat.le_refl _) (by simp))
        have HB1 := Lib.hid hb1
        clear hb1 hj
        unfold OwnInts at HO0
        go_wp2_with (at_builtin; refine wpList_append_own_at _ rfl _ _ 26 rfl wr.heap.size 3 i0 (.int .i64 0) 1 8 Try.underlying26 hi hz0 hz1 hz2 rfl (by decide) (.slice (some ⟨wr.heap.size, 0, none⟩) 0 0) 0 [] rfl HO0.out ⟨hg, 0, none⟩ l c (head.map (Value.int .i64)) rfl ?c0 (Ints.news HN1.out) (one_ints _) ?c3 ?c4 ?c5 ?_)
        case c0 => rw [List.length_map, HL.out]; simp
        case c3 => unfold maxLen; omega
        case c4 => omega
        case c5 => simp
        intro v1 w3 hown1 hgrow1 _ _
        have hb3 : Below wr.heap.size wr w3 := HB1.out.grown hgrow1 (by simp) (fun g hg => by simp only [Value.ownBlock, Option.some.injEq] at hg; omega)
        have hsz3 := hb3.size
        have HO1 := Lib.hid hown1
        have HB3 := Lib.hid hb3
        clear hown1 hgrow1 hb3 HO0 HN1 HB1
        go_wp2_with (at_builtin; refine wpList_append_own_at _ rfl _ _ 26 rfl wr.heap.size 3 i0 (.int .i64 0) 1 8 Try.underlying26 hi hz0 hz1 hz2 rfl (by decide) v1 l (head.map (Value.int .i64)) rfl (HO1.out.alloc _) ⟨w3.heap.size, 0, none⟩ 1 1 [.int .i64 (x : Int)] rfl rfl ?c1 ?c2 ?c3 ?c4 ?c5 ?_)
        case c1 => intro j u hj; exact Mem.cell_new w3 _ _ j u hj
        case c2 => intro u hu; simp at hu; subst hu; rfl
        case c3 => unfold maxLen; omega
        case c4 => omega
        case c5 => simp; omega
        intro v2 w4 hown2 hgrow2 _ _
        obtain ⟨g2, cap2, rfl, -⟩ := hown2.form (by omega)
        have hb4 : Below wr.heap.size wr w4 := (HB3.out.alloc hsz3 _).grown hgrow2 (by simp; omega) (fun g hg => (HO1.out.lt g hg).1)
        have hO4 : OwnInts w4 wr.heap.size (.slice (some ⟨g2, 0, none⟩) (l + 1) cap2) (head ++ [(x : Int)]) := by
          unfold OwnInts
          rw [List.length_append, List.map_append, HL.out]
          exact hown2
        obtain ⟨q1, q2, q3, -⟩ := hO4.known
        have HB4 := Lib.hid hb4
        have hcall := IH.out (head ++ [(x : Int)]) (l + 1) (by rw [List.length_append, HL.out]; rfl) (by have := HF.out; omega) j ((left : Int) - (x : Int)) (by have := HJ.out; omega) (by have := HJ.out; omega) g2 cap2 u3 R' (M ++ fillTo head f left j) w4 (by omega) q2 q3 (HO2.out.keeps hb4) (fun h => by have := (HO2.out.old h).2; omega) (fun e => by have := (HO2.out.own.lt g2 e).2; omega) HME.out
        have HC := Lib.hid hcall
        clear hown2 hgrow2 hO4 q3 hcall hb4 HB3 HO1
        go_wp2_with fail
        refine HC.out.mono ?_
        rintro e w5 ⟨v5, R5, rfl, hO5, hA5⟩
        have HO5 := Lib.hid hO5
        have HA5 : Hid (Adds v w R v5 w5 R5 none) := by
          have hx := HA.out
          have hb := HB4.out
          have hs4 := hb.size
          refine ⟨only_step hx.only hb hA5.only hx.own, ?_, fun g hg => ?_⟩
          · rcases hA5.own with e | ⟨z, e, hz⟩
            · rw [e]; exact hx.own
            · exact .inr ⟨z, e, by omega⟩
          · rcases hA5.rows g hg with h | h | h
            · exact hx.rows g h
            · cases h
            · exact .inr (.inr (by omega))
        clear hO5 hA5
        go_wp2
        go_roundw
        case rel =>
          refine ⟨j + 1, R5, ?_, by rw [HE.out, ← List.append_assoc]; exact HO5.out, HA5.out⟩
          have := HJ.out
          cases x with
          | zero => exact .inl ⟨by omega, by go_num⟩
          | succ x => exact .inr ⟨x, by omega, by go_num⟩
        case measure => simp [intOf]

end Go.Proofs.Ytmonaiojejbhkaa
