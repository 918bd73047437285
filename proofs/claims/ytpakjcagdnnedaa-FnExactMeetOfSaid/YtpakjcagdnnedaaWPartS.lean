/-
  WALKS: spec's chapter 5 (written by genpart.py).
-/
import Derived.Test.YtpakjcagdnnedaaPart2
import Derived.Test.YtpakjcagdnnedaaWCx6
import Derived.Test.YtpakjcagdnnedaaWSz
namespace Go.Proofs.Ytpakjcagdnnedaa
open Go.RowKit
open Sets

theorem and_meet (f s : Nat) (hf : f < 64) (hs : s < 64) : bits BinOp.and IntKind.i64 (f : Int) (s : Int) = meetZ s (f : Int) := by
  have H : ∀ a b : Nat, a < 64 → b < 64 → bits BinOp.and IntKind.i64 (a : Int) (b : Int) = ((a &&& b : Nat) : Int) := by
    refine fin64b ?_
    decide +kernel
  exact H f s hf hs
theorem isC_at2 {xs : List Int} (h : allOk xs = true) (j : Nat) (hj : j < xs.length) : ∃ s : Nat, xs.getD j 0 = (s : Int) ∧ s < 64 :=
  okZ_cast _ (by unfold allOk at h; exact List.all_eq_true.1 h _ (by rw [List.getD, List.getElem?_eq_getElem hj]; exact List.getElem_mem hj))
/-- What writes into another row leave. -/
theorem IntsAt.off {w w' : World} {g : Nat} {row : Option Nat} {a : Option Addr} {xs : List Int} (h : IntsAt w g a xs) (hg : w.grownBy w' row) (hne : row ≠ some g) : IntsAt w' g a xs := fun j hj => by
  obtain ⟨e, hl, hc, hf⟩ := h j hj
  have hb := hg.block g hl (Ne.symm hne)
  have := hg.size
  exact ⟨e, by omega, by rw [World.cell?_of_block (w := w) (w' := w') (a := ⟨g, j, none⟩) hb]; exact hc, by rw [World.frozen?_of_block (w := w) (w' := w') (a := ⟨g, j, none⟩) hb]; exact hf⟩
theorem size_ok (n : Int) (xs : List Int) : allOk (faces n xs) = true := by
  unfold faces; split
  · exact ord_ok _
  · rfl
theorem l2Size_v (s p : Nat) (hp : pc s = p) (hs : s < 64) (w : World) : Calls Try.prog 58 #[.int .i64 (s : Int)] w fun e w' => e = .returned (.int .i64 (p : Int)) ∧ w = w' := by
  subst hp; exact l2Size_any s hs w

set_option maxRecDepth 100000 in
theorem l5Set_b (n : Int) (a : Option Addr) (c : Nat) (xs : List Int) (s : Int) (b : Bool) (hb : (isC n xs && setB n s) = b) (hlen : xs.length ≤ 1099511627776) (w : World) (h : Ints w a xs) :
    Calls Try.prog 42 #[cx n (.slice a xs.length c), .int .i64 s] w fun e w' => e = .returned (.bool b) ∧ Below w.heap.size w w' := by
  have hb0 : Below w.heap.size w (w.alloc (.cells #[.int .i64 n, .slice a xs.length c] 26)) := (Below.refl _ _).alloc (Nat.le_refl _) _
  have H := Lib.hid (h.keeps hb0)
  have HB0 := Lib.hid hb0
  have HT := Lib.hid (Two.new w (.int .i64 n) (.slice a xs.length c) 26)
  clear h hb0
  cases hC : isC n xs with
  | false =>
    have HC := Lib.hid hC
    obtain rfl : false = b := by rw [← hb, hC]; rfl
    clear hC hb
    go_enter Try.func42, Try.ntmps42
    go_wp2_with fail
    refine (specIsC_b n _ _ xs false HC.out hlen _ H.out).mono ?_
    rintro e w1 ⟨rfl, hb1⟩
    go_wp2
    go_ret
    exact ⟨rfl, HB0.out.trans (hb1.mono (by simp))⟩
  | true =>
    have HC := Lib.hid hC
    have HS : Hid (setB n s = b) := by
      have : setB n s = b := by rw [← hb, hC]; rfl
      exact this
    clear hC hb
    go_enter Try.func42, Try.ntmps42
    go_wp2_with fail
    refine (specIsC_b n _ _ xs true HC.out hlen _ H.out).mono ?_
    rintro e w1 ⟨rfl, hb1⟩
    obtain ⟨t0, t1, t2, _, _⟩ := HT.out.keeps hb1
    go_wp2_with fail
    refine (specIsSet_b n s b HS.out _).mono ?_
    rintro e w' ⟨rfl, rfl⟩
    go_wp2
    go_ret
    exact ⟨rfl, HB0.out.trans (hb1.mono (by simp))⟩

set_option maxRecDepth 100000 in
set_option maxHeartbeats 4000000 in
theorem l5Link_any (n : Int) (a : Option Addr) (c : Nat) (xs : List Int) (hC : isC n xs = true) (s : Nat) (hs : s < 64) (hlen : xs.length ≤ 1099511627776) (w : World) (h : Ints w a xs) :
    Calls Try.prog 43 #[cx n (.slice a xs.length c), .int .i64 (s : Int)] w fun e w' => ∃ v, e = .returned (cx n v) ∧ OwnInts w' w.heap.size v (maxQ (linkQ xs s)) ∧ Below w.heap.size w w' := by
  obtain ⟨i0, hi, hz0, hz1, hz2⟩ := info_parts info_int
  have hb0 : Below w.heap.size w ((w.alloc (.cells #[.int .i64 n, .slice a xs.length c] 26)).alloc (.cells #[.int .i64 0, .slice none 0 0] 26)) := ((Below.refl _ _).alloc (Nat.le_refl _) _).alloc (by simp) _
  have htc := (Two.new w (.int .i64 n) (.slice a xs.length c) 26).alloc (.cells #[.int .i64 0, .slice none 0 0] 26)
  have htr := Two.new (w.alloc (.cells #[.int .i64 n, .slice a xs.length c] 26)) (.int .i64 0) (.slice none 0 0) 26
  rw [World.size_alloc] at htr
  have hvs0 : w.heap.size + 1 < ((w.alloc (.cells #[.int .i64 n, .slice a xs.length c] 26)).alloc (.cells #[.int .i64 0, .slice none 0 0] 26)).heap.size := by simp
  obtain ⟨br, hbr⟩ : ∃ br, w.heap.size + 1 = br := ⟨_, rfl⟩
  rw [hbr] at htr hvs0
  have hH := h.keeps hb0
  have hwb : w.heap.size < br := by omega
  have hVS : ((w.alloc (.cells #[.int .i64 n, .slice a xs.length c] 26)).alloc (.cells #[.int .i64 0, .slice none 0 0] 26)).heap.size = br + 1 := by simp; omega
  have HC := Lib.hid hC
  have HSS := Lib.hid hs
  clear h hC
  go_enter Try.func43, Try.ntmps43
  go_wp2
  try rw [hbr]
  obtain ⟨V, hV⟩ : ∃ V, (w.alloc (.cells #[.int .i64 n, .slice a xs.length c] 26)).alloc (.cells #[.int .i64 0, .slice none 0 0] 26) = V := ⟨_, rfl⟩
  rw [hV] at hb0 htc htr hvs0 hH hVS
  try rw [hV]
  have TC := Lib.hid htc
  have TR := Lib.hid htr
  have HH := Lib.hid hH
  have HBV := Lib.hid hb0
  have hvs := hb0.size
  have HVS := Lib.hid hVS
  have hbv := hvs0
  clear htc htr hb0 hH hV hbr hVS
  go_loopw [5, 6] (fun v i wr => ∃ k : Nat, k ≤ xs.length ∧ i = .int .i64 (k : Int) ∧ OwnInts wr V.heap.size v (linkL s xs k) ∧ Below V.heap.size V wr) (fun _ i _ => xs.length - (intOf i).toNat)
  case atStart => exact ⟨0, Nat.zero_le _, rfl, (by have h := OwnInts.lit V V.heap.size [] (Nat.le_refl _) (by simp); first | exact h | (have e := HVS.out; simp only [e] at h ⊢; exact h)), (Below.refl _ _).alloc (Nat.le_refl _) _⟩
  case round =>
    obtain ⟨k, hk, rfl, hO, hB⟩ := hrel
    have HO := Lib.hid hO
    unfold OwnInts at HO
    have hsz := hB.size
    have hl := linkL_le s xs k
    clear hO
    obtain ⟨q0, q1, q2, q3, q4⟩ := TC.out.keeps hB
    by_cases hlt : k < xs.length
    · obtain ⟨b0, o, hae, g⟩ := (HH.out.keeps hB) k hlt
      obtain ⟨t, ht, ht64⟩ := isC_at2 (isC_ok HC.out) k hlt
      rw [ht] at g
      have HT := Lib.hid ht
      subst hae
      clear ht
      have ha := and_sub3 t s ht64 HSS.out
      cases hcd : sub s t with
      | true =>
        have HN := Lib.hid ((linkL_hit s xs k hlt (by rw [HT.out]; exact hcd)).trans (by rw [HT.out]))
        rw [hcd] at ha
        have hle : s ≤ t := sub_le hcd
        clear hcd
        go_wp2_with (at_builtin; refine wpList_append_own _ rfl _ _ 24 rfl V.heap.size 3 i0 (.int .i64 0) 1 8 Try.underlying24 hi hz0 hz1 hz2 rfl (by decide) _ _ _ rfl (HO.out.alloc _) ⟨wr.heap.size, 0, none⟩ 1 1 [.int .i64 ((t : Int) - (s : Int))] rfl rfl ?c1 ?c2 ?c3 ?c4 ?c5 ?_)
        case c1 => intro j u hj; exact Mem.cell_new wr _ _ j u hj
        case c2 => intro u hu; simp at hu; subst hu; rfl
        case c3 => unfold maxLen; omega
        case c4 => omega
        case c5 => simp; omega
        intro v' w5 hown1 hgrow _
        have hB5 : Below V.heap.size V w5 := (hB.alloc hsz _).grown hgrow (by simp; omega) (fun g hg => (HO.out.lt g hg).1)
        have H1 := Lib.hid hown1
        clear hown1 hgrow
        go_wp2
        go_roundw
        case rel => exact ⟨k + 1, by omega, by go_num, by rw [HN.out]; exact OwnInts.next H1.out, hB5⟩
        case measure => simp [intOf]; omega
      | false =>
        have HN := Lib.hid (linkL_miss s xs k hlt (by rw [HT.out]; exact hcd))
        rw [hcd] at ha
        clear hcd
        go_wp2
        go_roundw
        case rel => exact ⟨k + 1, by omega, by go_num, by rw [HN.out]; exact HO.out, hB⟩
        case measure => simp [intOf]; omega
    · have E := Lib.hid (show k = xs.length by omega)
      have hO1 := HO.out
      rw [E.out] at hO1 hl
      obtain ⟨a1, c1, g1x, rfl, hg1x, hr1⟩ := OwnInts.at hO1
      have R1 := Lib.hid hr1
      have R0 := Lib.hid (TR.out.keeps hB)
      clear hO1 hr1 HO
      go_wp2_with fail
      refine (l3Make_any n _ _ (linkL s xs xs.length) (linkL_ok s hs xs (isC_ok HC.out)) (by omega) _ R1.out.ints).mono ?_
      rintro e w6 ⟨v, rfl, hO2, hb6⟩
      rw [link_spec s hs xs (isC_ok HC.out)] at hO2
      obtain ⟨a2, c2, g2, rfl, hc2, hg2, hr2, _⟩ := OwnInts.ata hO2 hb6.size
      obtain ⟨r0, r1, r2, r3, r4⟩ := R0.out.keeps hb6
      have HO2 := Lib.hid (OwnInts.lower hO2 hsz)
      have HB6 : Hid (Below w.heap.size w w6) := HBV.out.trans ((hB.trans (hb6.mono hsz)).mono hvs)
      clear hO2 hr2 hb6
      go_wp2
      refine ret_cx br rfl rfl (x := .int .i64 n) (y := .slice a2 (maxQ (linkQ xs s)).length c2) (by go_simp) (by go_simp) rfl ?_
      exact ⟨_, rfl, (OwnInts.set (OwnInts.set HO2.out _ _ _ (by omega)) _ _ _ (by omega)).lower (by omega), (HB6.out.setCell (by dsimp only; omega) _).setCell (by dsimp only; omega) _⟩

set_option maxRecDepth 100000 in
set_option maxHeartbeats 4000000 in
theorem l5Inside_any (n : Int) (a : Option Addr) (c : Nat) (xs : List Int) (hC : isC n xs = true) (s : Nat) (hs : s < 64) (hlen : xs.length ≤ 1099511627776) (w : World) (h : Ints w a xs) :
    Calls Try.prog 64 #[cx n (.slice a xs.length c), .int .i64 (s : Int)] w fun e w' => ∃ v, e = .returned (cx n v) ∧ OwnInts w' w.heap.size v (maxQ (indQ xs s)) ∧ Below w.heap.size w w' := by
  obtain ⟨i0, hi, hz0, hz1, hz2⟩ := info_parts info_int
  have hb0 : Below w.heap.size w ((w.alloc (.cells #[.int .i64 n, .slice a xs.length c] 26)).alloc (.cells #[.int .i64 0, .slice none 0 0] 26)) := ((Below.refl _ _).alloc (Nat.le_refl _) _).alloc (by simp) _
  have htc := (Two.new w (.int .i64 n) (.slice a xs.length c) 26).alloc (.cells #[.int .i64 0, .slice none 0 0] 26)
  have htr := Two.new (w.alloc (.cells #[.int .i64 n, .slice a xs.length c] 26)) (.int .i64 0) (.slice none 0 0) 26
  rw [World.size_alloc] at htr
  have hvs0 : w.heap.size + 1 < ((w.alloc (.cells #[.int .i64 n, .slice a xs.length c] 26)).alloc (.cells #[.int .i64 0, .slice none 0 0] 26)).heap.size := by simp
  obtain ⟨br, hbr⟩ : ∃ br, w.heap.size + 1 = br := ⟨_, rfl⟩
  rw [hbr] at htr hvs0
  have hH := h.keeps hb0
  have hwb : w.heap.size < br := by omega
  have hVS : ((w.alloc (.cells #[.int .i64 n, .slice a xs.length c] 26)).alloc (.cells #[.int .i64 0, .slice none 0 0] 26)).heap.size = br + 1 := by simp; omega
  have HC := Lib.hid hC
  have HSS := Lib.hid hs
  clear h hC
  go_enter Try.func64, Try.ntmps64
  go_wp2
  try rw [hbr]
  obtain ⟨V, hV⟩ : ∃ V, (w.alloc (.cells #[.int .i64 n, .slice a xs.length c] 26)).alloc (.cells #[.int .i64 0, .slice none 0 0] 26) = V := ⟨_, rfl⟩
  rw [hV] at hb0 htc htr hvs0 hH hVS
  try rw [hV]
  have TC := Lib.hid htc
  have TR := Lib.hid htr
  have HH := Lib.hid hH
  have HBV := Lib.hid hb0
  have hvs := hb0.size
  have HVS := Lib.hid hVS
  have hbv := hvs0
  clear htc htr hb0 hH hV hbr hVS
  go_loopw [5, 6] (fun v i wr => ∃ k : Nat, k ≤ xs.length ∧ i = .int .i64 (k : Int) ∧ OwnInts wr V.heap.size v (mapL (meetZ s) xs k) ∧ Below V.heap.size V wr) (fun _ i _ => xs.length - (intOf i).toNat)
  case atStart => exact ⟨0, Nat.zero_le _, rfl, (by have h := OwnInts.lit V V.heap.size [] (Nat.le_refl _) (by simp); first | exact h | (have e := HVS.out; simp only [e] at h ⊢; exact h)), (Below.refl _ _).alloc (Nat.le_refl _) _⟩
  case round =>
    obtain ⟨k, hk, rfl, hO, hB⟩ := hrel
    have HO := Lib.hid hO
    unfold OwnInts at HO
    have hsz := hB.size
    have hl := mapL_le (meetZ s) xs k
    clear hO
    obtain ⟨q0, q1, q2, q3, q4⟩ := TC.out.keeps hB
    by_cases hlt : k < xs.length
    · obtain ⟨b0, o, hae, g⟩ := (HH.out.keeps hB) k hlt
      obtain ⟨t, ht, ht64⟩ := isC_at2 (isC_ok HC.out) k hlt
      rw [ht] at g
      have HT := Lib.hid ht
      subst hae
      clear ht
      have ha := and_meet t s ht64 HSS.out
      have HN := Lib.hid ((mapL_next (meetZ s) xs k hlt).trans (by rw [HT.out]))
      obtain ⟨z, hz⟩ : ∃ z, meetZ s (t : Int) = z := ⟨_, rfl⟩
      rw [hz] at ha HN
      clear hz
      go_wp2_with (at_builtin; refine wpList_append_own _ rfl _ _ 24 rfl V.heap.size 3 i0 (.int .i64 0) 1 8 Try.underlying24 hi hz0 hz1 hz2 rfl (by decide) _ _ _ rfl (HO.out.alloc _) ⟨wr.heap.size, 0, none⟩ 1 1 [.int .i64 (z)] rfl rfl ?c1 ?c2 ?c3 ?c4 ?c5 ?_)
      case c1 => intro j u hj; exact Mem.cell_new wr _ _ j u hj
      case c2 => intro u hu; simp at hu; subst hu; rfl
      case c3 => unfold maxLen; omega
      case c4 => omega
      case c5 => simp; omega
      intro v' w5 hown1 hgrow _
      have hB5 : Below V.heap.size V w5 := (hB.alloc hsz _).grown hgrow (by simp; omega) (fun g hg => (HO.out.lt g hg).1)
      have H1 := Lib.hid hown1
      clear hown1 hgrow
      go_wp2
      go_roundw
      case rel => exact ⟨k + 1, by omega, by go_num, by rw [HN.out]; exact OwnInts.next H1.out, hB5⟩
      case measure => simp [intOf]; omega
    · have E := Lib.hid (show k = xs.length by omega)
      have hO1 := HO.out
      rw [E.out] at hO1 hl
      obtain ⟨a1, c1, g1x, rfl, hg1x, hr1⟩ := OwnInts.at hO1
      have R1 := Lib.hid hr1
      have R0 := Lib.hid (TR.out.keeps hB)
      clear hO1 hr1 HO
      go_wp2_with fail
      refine (l3Make_any n _ _ (mapL (meetZ s) xs xs.length) (by rw [mapL_all]; exact map_ok s (isC_ok HC.out)) (by omega) _ R1.out.ints).mono ?_
      rintro e w6 ⟨v, rfl, hO2, hb6⟩
      rw [ind_spec s xs (isC_ok HC.out)] at hO2
      obtain ⟨a2, c2, g2, rfl, hc2, hg2, hr2, _⟩ := OwnInts.ata hO2 hb6.size
      obtain ⟨r0, r1, r2, r3, r4⟩ := R0.out.keeps hb6
      have HO2 := Lib.hid (OwnInts.lower hO2 hsz)
      have HB6 : Hid (Below w.heap.size w w6) := HBV.out.trans ((hB.trans (hb6.mono hsz)).mono hvs)
      clear hO2 hr2 hb6
      go_wp2
      refine ret_cx br rfl rfl (x := .int .i64 n) (y := .slice a2 (maxQ (indQ xs s)).length c2) (by go_simp) (by go_simp) rfl ?_
      exact ⟨_, rfl, (OwnInts.set (OwnInts.set HO2.out _ _ _ (by omega)) _ _ _ (by omega)).lower (by omega), (HB6.out.setCell (by dsimp only; omega) _).setCell (by dsimp only; omega) _⟩

set_option maxRecDepth 100000 in
set_option maxHeartbeats 4000000 in
theorem l5Without_any (n : Int) (a : Option Addr) (c : Nat) (xs : List Int) (hC : isC n xs = true) (s : Nat) (hs : s < 64) (hlen : xs.length ≤ 1099511627776) (w : World) (h : Ints w a xs) :
    Calls Try.prog 48 #[cx n (.slice a xs.length c), .int .i64 (s : Int)] w fun e w' => ∃ v, e = .returned (cx n v) ∧ OwnInts w' w.heap.size v (maxQ (delQ xs s)) ∧ Below w.heap.size w w' := by
  obtain ⟨i0, hi, hz0, hz1, hz2⟩ := info_parts info_int
  have hb0 : Below w.heap.size w ((w.alloc (.cells #[.int .i64 n, .slice a xs.length c] 26)).alloc (.cells #[.int .i64 0, .slice none 0 0] 26)) := ((Below.refl _ _).alloc (Nat.le_refl _) _).alloc (by simp) _
  have htc := (Two.new w (.int .i64 n) (.slice a xs.length c) 26).alloc (.cells #[.int .i64 0, .slice none 0 0] 26)
  have htr := Two.new (w.alloc (.cells #[.int .i64 n, .slice a xs.length c] 26)) (.int .i64 0) (.slice none 0 0) 26
  rw [World.size_alloc] at htr
  have hvs0 : w.heap.size + 1 < ((w.alloc (.cells #[.int .i64 n, .slice a xs.length c] 26)).alloc (.cells #[.int .i64 0, .slice none 0 0] 26)).heap.size := by simp
  obtain ⟨br, hbr⟩ : ∃ br, w.heap.size + 1 = br := ⟨_, rfl⟩
  rw [hbr] at htr hvs0
  have hH := h.keeps hb0
  have hwb : w.heap.size < br := by omega
  have hVS : ((w.alloc (.cells #[.int .i64 n, .slice a xs.length c] 26)).alloc (.cells #[.int .i64 0, .slice none 0 0] 26)).heap.size = br + 1 := by simp; omega
  have hspec := del_spec n xs hC s
  have HC := Lib.hid hC
  have HSS := Lib.hid hs
  clear h hC
  go_enter Try.func48, Try.ntmps48
  obtain ⟨c0, c1, c2, c3, c4⟩ := id htc
  go_wp2_with fail
  clear c0 c1 c2 c3 c4
  try rw [hbr]
  obtain ⟨V, hV⟩ : ∃ V, (w.alloc (.cells #[.int .i64 n, .slice a xs.length c] 26)).alloc (.cells #[.int .i64 0, .slice none 0 0] 26) = V := ⟨_, rfl⟩
  rw [hV] at hb0 htc htr hvs0 hH hVS
  try rw [hV]
  have TC := Lib.hid htc
  have TR := Lib.hid htr
  have HH := Lib.hid hH
  have HBV := Lib.hid hb0
  have hvs := hb0.size
  have HVS := Lib.hid hVS
  have hbv := hvs0
  clear htc htr hb0 hH hV hbr hVS
  refine (specFaces_any n _ _ xs hlen _ (HH.out.keeps ((Below.refl _ _).alloc (Nat.le_refl _) _))).mono ?_
  rintro e w1 ⟨v1, rfl, hO1, hb1⟩
  obtain ⟨a1, d1, g1, rfl, _, hg1, hr1, _⟩ := OwnInts.ata hO1 hb1.size
  have hO0 : OwnInts (V.alloc (.cells #[] 3)) V.heap.size (.slice (some ⟨br + 1, 0, none⟩) 0 0) [] := by
    have h := OwnInts.lit V V.heap.size [] (Nat.le_refl _) (by simp)
    first | exact h | (have e := HVS.out; simp only [e] at h ⊢; exact h)
  have hB1 : Below V.heap.size V w1 := ((Below.refl _ _).alloc (Nat.le_refl _) _).trans (hb1.mono (by simp))
  have HO1 := Lib.hid (OwnInts.keeps hO0 hb1)
  have HB1 := Lib.hid hB1
  simp only [World.size_alloc] at hg1
  have hne1 : (Value.slice (some ⟨br + 1, 0, none⟩) 0 0).ownBlock ≠ some g1 := by
    simp only [Value.ownBlock, ne_eq, Option.some.injEq]
    first | omega | (have e := HVS.out; omega)
  have HR1 := Lib.hid hr1
  have hle := faces_le n xs
  have HOKL := Lib.hid (size_ok n xs)
  have HSPEC := Lib.hid hspec
  obtain ⟨L, hL⟩ : ∃ L, faces n xs = L := ⟨_, rfl⟩
  rw [hL] at HR1 hle HOKL HSPEC
  try rw [hL]
  clear hO1 hr1 hb1 hO0 hB1 hL hspec
  go_wp2
  go_loopw [5, 7] (fun v i wr => ∃ k : Nat, k ≤ L.length ∧ i = .int .i64 (k : Int) ∧ OwnInts wr V.heap.size v (keepL (fun f => !sub s f.toNat) L k) ∧ Below V.heap.size V wr ∧ IntsAt wr g1 a1 L ∧ v.ownBlock ≠ some g1) (fun _ i _ => L.length - (intOf i).toNat)
  case atStart => exact ⟨0, Nat.zero_le _, rfl, HO1.out, HB1.out, HR1.out, hne1⟩
  case round =>
    clear hne1 HO1 HB1 HR1
    obtain ⟨k, hk, rfl, hO, hB, hR, hne⟩ := hrel
    have HO := Lib.hid hO
    unfold OwnInts at HO
    have HR := Lib.hid hR
    have HNE := Lib.hid hne
    have hsz := hB.size
    have hl := keepL_le (fun f => !sub s f.toNat) L k
    clear hO hR hne
    obtain ⟨q0, q1, q2, q3, q4⟩ := TC.out.keeps hB
    by_cases hlt : k < L.length
    · obtain ⟨t, ht, ht64⟩ := isC_at2 HOKL.out k hlt
      obtain ⟨ea, hg1l, g, _⟩ := HR.out k hlt
      rw [ht] at g
      have HT := Lib.hid ht
      obtain rfl := ea
      clear ht
      have ha := and_sub3 t s ht64 HSS.out
      have ha2 : (bits BinOp.and IntKind.i64 (t : Int) (s : Int) != (s : Int)) = (!sub s t) := by rw [← ha]; rfl
      clear ha
      cases hcd : !sub s t with
      | true =>
        have HN := Lib.hid ((keepL_hit (fun f => !sub s f.toNat) L k hlt (by rw [HT.out]; exact hcd)).trans (by rw [HT.out]))
        rw [hcd] at ha2
        clear hcd
        go_wp2_with (at_builtin; refine wpList_append_own_at _ rfl _ _ 24 rfl V.heap.size 3 i0 (.int .i64 0) 1 8 Try.underlying24 hi hz0 hz1 hz2 rfl (by decide) _ _ _ rfl (HO.out.alloc _) ⟨wr.heap.size, 0, none⟩ 1 1 [.int .i64 ((t : Int))] rfl rfl ?c1 ?c2 ?c3 ?c4 ?c5 ?_)
        case c1 => intro j u hj; exact Mem.cell_new wr _ _ j u hj
        case c2 => intro u hu; simp at hu; subst hu; rfl
        case c3 => unfold maxLen; omega
        case c4 => omega
        case c5 => simp; omega
        intro v' w5 hown1 hgrow _ hob
        have hB5 : Below V.heap.size V w5 := (hB.alloc hsz _).grown hgrow (by simp; omega) (fun g hg => (HO.out.lt g hg).1)
        have hR5 := IntsAt.off (HR.out.keeps ((Below.refl _ _).alloc (Nat.le_refl _) _)) hgrow HNE.out
        have hn5 : v'.ownBlock ≠ some g1 := by
          rcases hob with e | e
          · rw [e]; exact HNE.out
          · rw [e]; simp; omega
        have HR5 := Lib.hid hR5
        have HN5 := Lib.hid hn5
        have H1 := Lib.hid hown1
        clear hown1 hgrow hob hR5 hn5
        go_wp2
        go_roundw
        case rel => exact ⟨k + 1, by omega, by go_num, by rw [HN.out]; exact OwnInts.next H1.out, hB5, HR5.out, HN5.out⟩
        case measure => simp [intOf]; omega
      | false =>
        have HN := Lib.hid (keepL_miss (fun f => !sub s f.toNat) L k hlt (by rw [HT.out]; exact hcd))
        rw [hcd] at ha2
        clear hcd
        go_wp2
        go_roundw
        case rel => exact ⟨k + 1, by omega, by go_num, by rw [HN.out]; exact HO.out, hB, HR.out, HNE.out⟩
        case measure => simp [intOf]; omega
    · have E := Lib.hid (show k = L.length by omega)
      have hO1 := HO.out
      rw [E.out] at hO1 hl
      obtain ⟨a1, c1, g1x, rfl, hg1x, hr1⟩ := OwnInts.at hO1
      have R1 := Lib.hid hr1
      have R0 := Lib.hid (TR.out.keeps hB)
      clear hO1 hr1 HO
      go_wp2_with fail
      refine (l3Make_any n _ _ (keepL (fun f => !sub s f.toNat) L L.length) (by rw [keepL_all]; exact filter_ok _ HOKL.out) (by omega) _ R1.out.ints).mono ?_
      rintro e w6 ⟨v, rfl, hO2, hb6⟩
      rw [HSPEC.out] at hO2
      obtain ⟨a2, c2, g2, rfl, hc2, hg2, hr2, _⟩ := OwnInts.ata hO2 hb6.size
      obtain ⟨r0, r1, r2, r3, r4⟩ := R0.out.keeps hb6
      have HO2 := Lib.hid (OwnInts.lower hO2 hsz)
      have HB6 : Hid (Below w.heap.size w w6) := HBV.out.trans ((hB.trans (hb6.mono hsz)).mono hvs)
      clear hO2 hr2 hb6
      go_wp2
      refine ret_cx br rfl rfl (x := .int .i64 n) (y := .slice a2 (maxQ (delQ xs s)).length c2) (by go_simp) (by go_simp) rfl ?_
      exact ⟨_, rfl, (OwnInts.set (OwnInts.set HO2.out _ _ _ (by omega)) _ _ _ (by omega)).lower (by omega), (HB6.out.setCell (by dsimp only; omega) _).setCell (by dsimp only; omega) _⟩

theorem partO_no {ok : Bool} {n : Int} {q : Nat → Bool} (h : ok = false) : partO ok n q = none := by unfold partO; rw [if_neg (by rw [h]; simp)]
theorem partO_yes {ok : Bool} {n : Int} {q : Nat → Bool} (h : ok = true) : partO ok n q = some (n, maxQ q) := by unfold partO; rw [if_pos h]

set_option maxRecDepth 100000 in
set_option maxHeartbeats 4000000 in
theorem specLink_any (n : Int) (a : Option Addr) (c : Nat) (xs : List Int) (s : Int) (hlen : xs.length ≤ 1099511627776) (w : World) (h : Ints w a xs) :
    Calls Try.prog 14 #[cx n (.slice a xs.length c), .int .i64 s] w fun e w' => ∃ v, e = .returned (.tuple #[cx (oN (linkO n xs s)) v, .bool (linkO n xs s).isSome]) ∧ OwnInts w' w.heap.size v (oL (linkO n xs s)) ∧ Below w.heap.size w w' := by
  have hb0 : Below w.heap.size w ((w.alloc (.cells #[.int .i64 n, .slice a xs.length c] 26)).alloc (.cells #[.int .i64 0, .slice none 0 0] 26)) := ((Below.refl _ _).alloc (Nat.le_refl _) _).alloc (by simp) _
  have htc := (Two.new w (.int .i64 n) (.slice a xs.length c) 26).alloc (.cells #[.int .i64 0, .slice none 0 0] 26)
  have htr := Two.new (w.alloc (.cells #[.int .i64 n, .slice a xs.length c] 26)) (.int .i64 0) (.slice none 0 0) 26
  rw [World.size_alloc] at htr
  have hvs0 : w.heap.size + 1 < ((w.alloc (.cells #[.int .i64 n, .slice a xs.length c] 26)).alloc (.cells #[.int .i64 0, .slice none 0 0] 26)).heap.size := by simp
  obtain ⟨br, hbr⟩ : ∃ br, w.heap.size + 1 = br := ⟨_, rfl⟩
  rw [hbr] at htr hvs0
  have hH := h.keeps hb0
  have hwb : w.heap.size < br := by omega
  have hVS : ((w.alloc (.cells #[.int .i64 n, .slice a xs.length c] 26)).alloc (.cells #[.int .i64 0, .slice none 0 0] 26)).heap.size = br + 1 := by simp; omega
  have TC := Lib.hid htc
  have TR := Lib.hid htr
  have HH := Lib.hid hH
  have HBV := Lib.hid hb0
  obtain ⟨k0, k1, k2, k3, k4⟩ := htc
  clear h htr hH hb0 hVS hvs0
  cases hok : (isC n xs && setB n s) with
  | false =>
    have HOK := Lib.hid hok
    rw [show linkO n xs s = none from partO_no hok]
    clear hok
    go_enter Try.func14, Try.ntmps14
    go_wp2_with fail
    try rw [hbr]
    refine (l5Set_b n _ _ xs s false HOK.out hlen _ HH.out).mono ?_
    rintro e w1 ⟨rfl, hb1⟩
    obtain ⟨r0, r1, r2, r3, r4⟩ := TR.out.keeps hb1
    have HB1 : Hid (Below w.heap.size w w1) := HBV.out.trans (hb1.mono HBV.out.size)
    clear hb1
    go_wp2
    refine ret_cx2 br rfl rfl rfl (x := .int .i64 0) (y := .slice none 0 0) (by go_simp) (by go_simp) rfl ?_
    exact ⟨_, rfl, OwnInts.nil _ _, by first | exact (HB1.out.setCell (by dsimp only; omega) _).setCell (by dsimp only; omega) _ | exact HB1.out⟩
  | true =>
    have HOK := Lib.hid hok
    have hcs := hok
    rw [Bool.and_eq_true] at hcs
    have HC := Lib.hid hcs.1
    obtain ⟨u, rfl, hu⟩ := okZ_cast s (setB_ok hcs.2)
    rw [show linkO n xs (u : Int) = some (n, maxQ (linkQ xs u)) from partO_yes hok]
    clear hok hcs
    go_enter Try.func14, Try.ntmps14
    go_wp2_with fail
    try rw [hbr]
    refine (l5Set_b n _ _ xs (u : Int) true HOK.out hlen _ HH.out).mono ?_
    rintro e w1 ⟨rfl, hb1⟩
    obtain ⟨V, rfl⟩ : ∃ V : World, V = w1 := ⟨_, rfl⟩
    have TC := Lib.hid (TC.out.keeps hb1)
    have TR := Lib.hid (TR.out.keeps hb1)
    have HH := Lib.hid (HH.out.keeps hb1)
    have HBV : Hid (Below w.heap.size w V) := HBV.out.trans (hb1.mono HBV.out.size)
    have hvs := HBV.out.size
    have hbv := TR.out.1
    clear hb1
    obtain ⟨c0, c1, c2, c3, c4⟩ := TC.out
    go_wp2_with fail
    refine (l5Link_any n _ _ xs HC.out u hu hlen _ HH.out).mono ?_
    rintro e w6 ⟨v, rfl, hO2, hb6⟩
    obtain ⟨a2, c2x, g2, rfl, hc2, hg2, hr2, _⟩ := OwnInts.ata hO2 hb6.size
    obtain ⟨r0, r1, r2, r3, r4⟩ := TR.out.keeps hb6
    have HO2 := Lib.hid hO2
    have HB6 : Hid (Below w.heap.size w w6) := HBV.out.trans (hb6.mono hvs)
    clear hO2 hr2 hb6
    go_wp2
    refine ret_cx2 br rfl rfl rfl (x := .int .i64 n) (y := .slice a2 (maxQ (linkQ xs u)).length c2x) (by go_simp) (by go_simp) rfl ?_
    exact ⟨_, rfl, (OwnInts.set (OwnInts.set HO2.out _ _ _ (by omega)) _ _ _ (by omega)).lower (by omega), (HB6.out.setCell (by dsimp only; omega) _).setCell (by dsimp only; omega) _⟩

set_option maxRecDepth 100000 in
set_option maxHeartbeats 4000000 in
theorem specDel_any (n : Int) (a : Option Addr) (c : Nat) (xs : List Int) (s : Int) (hlen : xs.length ≤ 1099511627776) (w : World) (h : Ints w a xs) :
    Calls Try.prog 18 #[cx n (.slice a xs.length c), .int .i64 s] w fun e w' => ∃ v, e = .returned (.tuple #[cx (oN (delO n xs s)) v, .bool (delO n xs s).isSome]) ∧ OwnInts w' w.heap.size v (oL (delO n xs s)) ∧ Below w.heap.size w w' := by
  have hb0 : Below w.heap.size w ((w.alloc (.cells #[.int .i64 n, .slice a xs.length c] 26)).alloc (.cells #[.int .i64 0, .slice none 0 0] 26)) := ((Below.refl _ _).alloc (Nat.le_refl _) _).alloc (by simp) _
  have htc := (Two.new w (.int .i64 n) (.slice a xs.length c) 26).alloc (.cells #[.int .i64 0, .slice none 0 0] 26)
  have htr := Two.new (w.alloc (.cells #[.int .i64 n, .slice a xs.length c] 26)) (.int .i64 0) (.slice none 0 0) 26
  rw [World.size_alloc] at htr
  have hvs0 : w.heap.size + 1 < ((w.alloc (.cells #[.int .i64 n, .slice a xs.length c] 26)).alloc (.cells #[.int .i64 0, .slice none 0 0] 26)).heap.size := by simp
  obtain ⟨br, hbr⟩ : ∃ br, w.heap.size + 1 = br := ⟨_, rfl⟩
  rw [hbr] at htr hvs0
  have hH := h.keeps hb0
  have hwb : w.heap.size < br := by omega
  have hVS : ((w.alloc (.cells #[.int .i64 n, .slice a xs.length c] 26)).alloc (.cells #[.int .i64 0, .slice none 0 0] 26)).heap.size = br + 1 := by simp; omega
  have TC := Lib.hid htc
  have TR := Lib.hid htr
  have HH := Lib.hid hH
  have HBV := Lib.hid hb0
  obtain ⟨k0, k1, k2, k3, k4⟩ := htc
  clear h htr hH hb0 hVS hvs0
  cases hok : (isC n xs && setB n s) with
  | false =>
    have HOK := Lib.hid hok
    rw [show delO n xs s = none from partO_no hok]
    clear hok
    go_enter Try.func18, Try.ntmps18
    go_wp2_with fail
    try rw [hbr]
    refine (l5Set_b n _ _ xs s false HOK.out hlen _ HH.out).mono ?_
    rintro e w1 ⟨rfl, hb1⟩
    obtain ⟨r0, r1, r2, r3, r4⟩ := TR.out.keeps hb1
    have HB1 : Hid (Below w.heap.size w w1) := HBV.out.trans (hb1.mono HBV.out.size)
    clear hb1
    go_wp2
    refine ret_cx2 br rfl rfl rfl (x := .int .i64 0) (y := .slice none 0 0) (by go_simp) (by go_simp) rfl ?_
    exact ⟨_, rfl, OwnInts.nil _ _, by first | exact (HB1.out.setCell (by dsimp only; omega) _).setCell (by dsimp only; omega) _ | exact HB1.out⟩
  | true =>
    have HOK := Lib.hid hok
    have hcs := hok
    rw [Bool.and_eq_true] at hcs
    have HC := Lib.hid hcs.1
    obtain ⟨u, rfl, hu⟩ := okZ_cast s (setB_ok hcs.2)
    rw [show delO n xs (u : Int) = some (n, maxQ (delQ xs u)) from partO_yes hok]
    clear hok hcs
    go_enter Try.func18, Try.ntmps18
    go_wp2_with fail
    try rw [hbr]
    refine (l5Set_b n _ _ xs (u : Int) true HOK.out hlen _ HH.out).mono ?_
    rintro e w1 ⟨rfl, hb1⟩
    obtain ⟨V, rfl⟩ : ∃ V : World, V = w1 := ⟨_, rfl⟩
    have TC := Lib.hid (TC.out.keeps hb1)
    have TR := Lib.hid (TR.out.keeps hb1)
    have HH := Lib.hid (HH.out.keeps hb1)
    have HBV : Hid (Below w.heap.size w V) := HBV.out.trans (hb1.mono HBV.out.size)
    have hvs := HBV.out.size
    have hbv := TR.out.1
    clear hb1
    obtain ⟨c0, c1, c2, c3, c4⟩ := TC.out
    go_wp2_with fail
    refine (l5Without_any n _ _ xs HC.out u hu hlen _ HH.out).mono ?_
    rintro e w6 ⟨v, rfl, hO2, hb6⟩
    obtain ⟨a2, c2x, g2, rfl, hc2, hg2, hr2, _⟩ := OwnInts.ata hO2 hb6.size
    obtain ⟨r0, r1, r2, r3, r4⟩ := TR.out.keeps hb6
    have HO2 := Lib.hid hO2
    have HB6 : Hid (Below w.heap.size w w6) := HBV.out.trans (hb6.mono hvs)
    clear hO2 hr2 hb6
    go_wp2
    refine ret_cx2 br rfl rfl rfl (x := .int .i64 n) (y := .slice a2 (maxQ (delQ xs u)).length c2x) (by go_simp) (by go_simp) rfl ?_
    exact ⟨_, rfl, (OwnInts.set (OwnInts.set HO2.out _ _ _ (by omega)) _ _ _ (by omega)).lower (by omega), (HB6.out.setCell (by dsimp only; omega) _).setCell (by dsimp only; omega) _⟩

set_option maxRecDepth 100000 in
set_option maxHeartbeats 4000000 in
theorem specInd_any (n : Int) (a : Option Addr) (c : Nat) (xs : List Int) (s : Int) (hlen : xs.length ≤ 1099511627776) (w : World) (h : Ints w a xs) :
    Calls Try.prog 24 #[cx n (.slice a xs.length c), .int .i64 s] w fun e w' => ∃ v, e = .returned (.tuple #[cx (oN (indO n xs s)) v, .bool (indO n xs s).isSome]) ∧ OwnInts w' w.heap.size v (oL (indO n xs s)) ∧ Below w.heap.size w w' := by
  have hb0 : Below w.heap.size w ((w.alloc (.cells #[.int .i64 n, .slice a xs.length c] 26)).alloc (.cells #[.int .i64 0, .slice none 0 0] 26)) := ((Below.refl _ _).alloc (Nat.le_refl _) _).alloc (by simp) _
  have htc := (Two.new w (.int .i64 n) (.slice a xs.length c) 26).alloc (.cells #[.int .i64 0, .slice none 0 0] 26)
  have htr := Two.new (w.alloc (.cells #[.int .i64 n, .slice a xs.length c] 26)) (.int .i64 0) (.slice none 0 0) 26
  rw [World.size_alloc] at htr
  have hvs0 : w.heap.size + 1 < ((w.alloc (.cells #[.int .i64 n, .slice a xs.length c] 26)).alloc (.cells #[.int .i64 0, .slice none 0 0] 26)).heap.size := by simp
  obtain ⟨br, hbr⟩ : ∃ br, w.heap.size + 1 = br := ⟨_, rfl⟩
  rw [hbr] at htr hvs0
  have hH := h.keeps hb0
  have hwb : w.heap.size < br := by omega
  have hVS : ((w.alloc (.cells #[.int .i64 n, .slice a xs.length c] 26)).alloc (.cells #[.int .i64 0, .slice none 0 0] 26)).heap.size = br + 1 := by simp; omega
  have TC := Lib.hid htc
  have TR := Lib.hid htr
  have HH := Lib.hid hH
  have HBV := Lib.hid hb0
  obtain ⟨k0, k1, k2, k3, k4⟩ := htc
  clear h htr hH hb0 hVS hvs0
  cases hok : (isC n xs && setB n s) with
  | false =>
    have HOK := Lib.hid hok
    rw [show indO n xs s = none from partO_no hok]
    clear hok
    go_enter Try.func24, Try.ntmps24
    go_wp2_with fail
    try rw [hbr]
    refine (l5Set_b n _ _ xs s false HOK.out hlen _ HH.out).mono ?_
    rintro e w1 ⟨rfl, hb1⟩
    obtain ⟨r0, r1, r2, r3, r4⟩ := TR.out.keeps hb1
    have HB1 : Hid (Below w.heap.size w w1) := HBV.out.trans (hb1.mono HBV.out.size)
    clear hb1
    go_wp2
    refine ret_cx2 br rfl rfl rfl (x := .int .i64 0) (y := .slice none 0 0) (by go_simp) (by go_simp) rfl ?_
    exact ⟨_, rfl, OwnInts.nil _ _, by first | exact (HB1.out.setCell (by dsimp only; omega) _).setCell (by dsimp only; omega) _ | exact HB1.out⟩
  | true =>
    have HOK := Lib.hid hok
    have hcs := hok
    rw [Bool.and_eq_true] at hcs
    have HC := Lib.hid hcs.1
    obtain ⟨u, rfl, hu⟩ := okZ_cast s (setB_ok hcs.2)
    rw [show indO n xs (u : Int) = some (n, maxQ (indQ xs u)) from partO_yes hok]
    clear hok hcs
    go_enter Try.func24, Try.ntmps24
    go_wp2_with fail
    try rw [hbr]
    refine (l5Set_b n _ _ xs (u : Int) true HOK.out hlen _ HH.out).mono ?_
    rintro e w1 ⟨rfl, hb1⟩
    obtain ⟨V, rfl⟩ : ∃ V : World, V = w1 := ⟨_, rfl⟩
    have TC := Lib.hid (TC.out.keeps hb1)
    have TR := Lib.hid (TR.out.keeps hb1)
    have HH := Lib.hid (HH.out.keeps hb1)
    have HBV : Hid (Below w.heap.size w V) := HBV.out.trans (hb1.mono HBV.out.size)
    have hvs := HBV.out.size
    have hbv := TR.out.1
    clear hb1
    obtain ⟨c0, c1, c2, c3, c4⟩ := TC.out
    go_wp2_with fail
    refine (l5Inside_any n _ _ xs HC.out u hu hlen _ HH.out).mono ?_
    rintro e w6 ⟨v, rfl, hO2, hb6⟩
    obtain ⟨a2, c2x, g2, rfl, hc2, hg2, hr2, _⟩ := OwnInts.ata hO2 hb6.size
    obtain ⟨r0, r1, r2, r3, r4⟩ := TR.out.keeps hb6
    have HO2 := Lib.hid hO2
    have HB6 : Hid (Below w.heap.size w w6) := HBV.out.trans (hb6.mono hvs)
    clear hO2 hr2 hb6
    go_wp2
    refine ret_cx2 br rfl rfl rfl (x := .int .i64 n) (y := .slice a2 (maxQ (indQ xs u)).length c2x) (by go_simp) (by go_simp) rfl ?_
    exact ⟨_, rfl, (OwnInts.set (OwnInts.set HO2.out _ _ _ (by omega)) _ _ _ (by omega)).lower (by omega), (HB6.out.setCell (by dsimp only; omega) _).setCell (by dsimp only; omega) _⟩

set_option maxRecDepth 100000 in
set_option maxHeartbeats 4000000 in
theorem specStar_any (n : Int) (a : Option Addr) (c : Nat) (xs : List Int) (s : Int) (hlen : xs.length ≤ 1099511627776) (w : World) (h : Ints w a xs) :
    Calls Try.prog 16 #[cx n (.slice a xs.length c), .int .i64 s] w fun e w' => ∃ v, e = .returned (.tuple #[cx (oN (starO n xs s)) v, .bool (starO n xs s).isSome]) ∧ OwnInts w' w.heap.size v (oL (starO n xs s)) ∧ Below w.heap.size w w' := by
  obtain ⟨i0, hi, hz0, hz1, hz2⟩ := info_parts info_int
  have hb0 : Below w.heap.size w ((w.alloc (.cells #[.int .i64 n, .slice a xs.length c] 26)).alloc (.cells #[.int .i64 0, .slice none 0 0] 26)) := ((Below.refl _ _).alloc (Nat.le_refl _) _).alloc (by simp) _
  have htc := (Two.new w (.int .i64 n) (.slice a xs.length c) 26).alloc (.cells #[.int .i64 0, .slice none 0 0] 26)
  have htr := Two.new (w.alloc (.cells #[.int .i64 n, .slice a xs.length c] 26)) (.int .i64 0) (.slice none 0 0) 26
  rw [World.size_alloc] at htr
  have hvs0 : w.heap.size + 1 < ((w.alloc (.cells #[.int .i64 n, .slice a xs.length c] 26)).alloc (.cells #[.int .i64 0, .slice none 0 0] 26)).heap.size := by simp
  obtain ⟨br, hbr⟩ : ∃ br, w.heap.size + 1 = br := ⟨_, rfl⟩
  rw [hbr] at htr hvs0
  have hH := h.keeps hb0
  have hwb : w.heap.size < br := by omega
  have hVS : ((w.alloc (.cells #[.int .i64 n, .slice a xs.length c] 26)).alloc (.cells #[.int .i64 0, .slice none 0 0] 26)).heap.size = br + 1 := by simp; omega
  have TC := Lib.hid htc
  have TR := Lib.hid htr
  have HH := Lib.hid hH
  have HBV := Lib.hid hb0
  obtain ⟨k0, k1, k2, k3, k4⟩ := htc
  clear h htr hH hb0 hVS hvs0
  cases hok : (isC n xs && setB n s) with
  | false =>
    have HOK := Lib.hid hok
    rw [show starO n xs s = none from partO_no hok]
    clear hok
    go_enter Try.func16, Try.ntmps16
    go_wp2_with fail
    try rw [hbr]
    refine (l5Set_b n _ _ xs s false HOK.out hlen _ HH.out).mono ?_
    rintro e w1 ⟨rfl, hb1⟩
    obtain ⟨r0, r1, r2, r3, r4⟩ := TR.out.keeps hb1
    have HB1 : Hid (Below w.heap.size w w1) := HBV.out.trans (hb1.mono HBV.out.size)
    clear hb1
    go_wp2
    refine ret_cx2 br rfl rfl rfl (x := .int .i64 0) (y := .slice none 0 0) (by go_simp) (by go_simp) rfl ?_
    exact ⟨_, rfl, OwnInts.nil _ _, by first | exact (HB1.out.setCell (by dsimp only; omega) _).setCell (by dsimp only; omega) _ | exact HB1.out⟩
  | true =>
    have HOK := Lib.hid hok
    have hcs := hok
    rw [Bool.and_eq_true] at hcs
    have HC := Lib.hid hcs.1
    obtain ⟨u, rfl, hu⟩ := okZ_cast s (setB_ok hcs.2)
    rw [show starO n xs (u : Int) = some (n, maxQ (starQ xs u)) from partO_yes hok]
    have HSS := Lib.hid hu
    clear hok hcs
    go_enter Try.func16, Try.ntmps16
    go_wp2_with fail
    try rw [hbr]
    refine (l5Set_b n _ _ xs (u : Int) true HOK.out hlen _ HH.out).mono ?_
    rintro e w1 ⟨rfl, hb1⟩
    obtain ⟨V, rfl⟩ : ∃ V : World, V = w1 := ⟨_, rfl⟩
    have TC := Lib.hid (TC.out.keeps hb1)
    have TR := Lib.hid (TR.out.keeps hb1)
    have HH := Lib.hid (HH.out.keeps hb1)
    have HBV : Hid (Below w.heap.size w V) := HBV.out.trans (hb1.mono HBV.out.size)
    have hvs := HBV.out.size
    have hbv := TR.out.1
    clear hb1
    clear hbr k0 k1 k2 k3 k4
    go_wp2
    go_loopw [6, 7] (fun v i wr => ∃ k : Nat, k ≤ xs.length ∧ i = .int .i64 (k : Int) ∧ OwnInts wr V.heap.size v (keepL (fun f => sub u f.toNat) xs k) ∧ Below V.heap.size V wr) (fun _ i _ => xs.length - (intOf i).toNat)
    case atStart => exact ⟨0, Nat.zero_le _, rfl, (by have h := OwnInts.lit V V.heap.size [] (Nat.le_refl _) (by simp); first | exact h | (have e := HVS.out; simp only [e] at h ⊢; exact h)), (Below.refl _ _).alloc (Nat.le_refl _) _⟩
    case round =>
      obtain ⟨k, hk, rfl, hO, hB⟩ := hrel
      have HO := Lib.hid hO
      unfold OwnInts at HO
      have hsz := hB.size
      have hl := keepL_le (fun f => sub u f.toNat) xs k
      clear hO
      obtain ⟨q0, q1, q2, q3, q4⟩ := TC.out.keeps hB
      by_cases hlt : k < xs.length
      · obtain ⟨b0, o, hae, g⟩ := (HH.out.keeps hB) k hlt
        obtain ⟨t, ht, ht64⟩ := isC_at2 (isC_ok HC.out) k hlt
        rw [ht] at g
        have HT := Lib.hid ht
        subst hae
        clear ht
        have ha := and_sub3 t u ht64 HSS.out
        cases hcd : sub u t with
        | true =>
          have HN := Lib.hid ((keepL_hit (fun f => sub u f.toNat) xs k hlt (by rw [HT.out]; exact hcd)).trans (by rw [HT.out]))
          rw [hcd] at ha
          clear hcd
          go_wp2_with (at_builtin; refine wpList_append_own _ rfl _ _ 24 rfl V.heap.size 3 i0 (.int .i64 0) 1 8 Try.underlying24 hi hz0 hz1 hz2 rfl (by decide) _ _ _ rfl (HO.out.alloc _) ⟨wr.heap.size, 0, none⟩ 1 1 [.int .i64 ((t : Int))] rfl rfl ?c1 ?c2 ?c3 ?c4 ?c5 ?_)
          case c1 => intro j u hj; exact Mem.cell_new wr _ _ j u hj
          case c2 => intro u hu; simp at hu; subst hu; rfl
          case c3 => unfold maxLen; omega
          case c4 => omega
          case c5 => simp; omega
          intro v' w5 hown1 hgrow _
          have hB5 : Below V.heap.size V w5 := (hB.alloc hsz _).grown hgrow (by simp; omega) (fun g hg => (HO.out.lt g hg).1)
          have H1 := Lib.hid hown1
          clear hown1 hgrow
          go_wp2
          go_roundw
          case rel => exact ⟨k + 1, by omega, by go_num, by rw [HN.out]; exact OwnInts.next H1.out, hB5⟩
          case measure => simp [intOf]; omega
        | false =>
          have HN := Lib.hid (keepL_miss (fun f => sub u f.toNat) xs k hlt (by rw [HT.out]; exact hcd))
          rw [hcd] at ha
          clear hcd
          go_wp2
          go_roundw
          case rel => exact ⟨k + 1, by omega, by go_num, by rw [HN.out]; exact HO.out, hB⟩
          case measure => simp [intOf]; omega
      · have E := Lib.hid (show k = xs.length by omega)
        have hO1 := HO.out
        rw [E.out] at hO1 hl
        obtain ⟨a1, c1, g1x, rfl, hg1x, hr1⟩ := OwnInts.at hO1
        have R1 := Lib.hid hr1
        have R0 := Lib.hid (TR.out.keeps hB)
        clear hO1 hr1 HO
        go_wp2_with fail
        refine (l3Make_any n _ _ (keepL (fun f => sub u f.toNat) xs xs.length) (by rw [keepL_all]; exact filter_ok _ (isC_ok HC.out)) (by omega) _ R1.out.ints).mono ?_
        rintro e w6 ⟨v, rfl, hO2, hb6⟩
        rw [star_spec u xs (isC_ok HC.out)] at hO2
        obtain ⟨a2, c2, g2, rfl, hc2, hg2, hr2, _⟩ := OwnInts.ata hO2 hb6.size
        obtain ⟨r0, r1, r2, r3, r4⟩ := R0.out.keeps hb6
        have HO2 := Lib.hid (OwnInts.lower hO2 hsz)
        have HB6 : Hid (Below w.heap.size w w6) := HBV.out.trans ((hB.trans (hb6.mono hsz)).mono hvs)
        clear hO2 hr2 hb6
        go_wp2
        refine ret_cx2 br rfl rfl rfl (x := .int .i64 n) (y := .slice a2 (maxQ (starQ xs u)).length c2) (by go_simp) (by go_simp) rfl ?_
        exact ⟨_, rfl, (OwnInts.set (OwnInts.set HO2.out _ _ _ (by omega)) _ _ _ (by omega)).lower (by omega), (HB6.out.setCell (by dsimp only; omega) _).setCell (by dsimp only; omega) _⟩

set_option maxRecDepth 100000 in
set_option maxHeartbeats 4000000 in
theorem specSkel_any (n : Int) (a : Option Addr) (c : Nat) (xs : List Int) (s : Int) (hlen : xs.length ≤ 1099511627776) (w : World) (h : Ints w a xs) :
    Calls Try.prog 21 #[cx n (.slice a xs.length c), .int .i64 s] w fun e w' => ∃ v, e = .returned (.tuple #[cx (oN (skelO n xs s)) v, .bool (skelO n xs s).isSome]) ∧ OwnInts w' w.heap.size v (oL (skelO n xs s)) ∧ Below w.heap.size w w' := by
  obtain ⟨i0, hi, hz0, hz1, hz2⟩ := info_parts info_int
  have hb0 : Below w.heap.size w ((w.alloc (.cells #[.int .i64 n, .slice a xs.length c] 26)).alloc (.cells #[.int .i64 0, .slice none 0 0] 26)) := ((Below.refl _ _).alloc (Nat.le_refl _) _).alloc (by simp) _
  have htc := (Two.new w (.int .i64 n) (.slice a xs.length c) 26).alloc (.cells #[.int .i64 0, .slice none 0 0] 26)
  have htr := Two.new (w.alloc (.cells #[.int .i64 n, .slice a xs.length c] 26)) (.int .i64 0) (.slice none 0 0) 26
  rw [World.size_alloc] at htr
  have hvs0 : w.heap.size + 1 < ((w.alloc (.cells #[.int .i64 n, .slice a xs.length c] 26)).alloc (.cells #[.int .i64 0, .slice none 0 0] 26)).heap.size := by simp
  obtain ⟨br, hbr⟩ : ∃ br, w.heap.size + 1 = br := ⟨_, rfl⟩
  rw [hbr] at htr hvs0
  have hH := h.keeps hb0
  have hwb : w.heap.size < br := by omega
  have hVS : ((w.alloc (.cells #[.int .i64 n, .slice a xs.length c] 26)).alloc (.cells #[.int .i64 0, .slice none 0 0] 26)).heap.size = br + 1 := by simp; omega
  have TC := Lib.hid htc
  have TR := Lib.hid htr
  have HH := Lib.hid hH
  have HBV := Lib.hid hb0
  obtain ⟨k0, k1, k2, k3, k4⟩ := htc
  clear h htr hH hb0 hVS hvs0
  cases hC : isC n xs with
  | false =>
    have HC := Lib.hid hC
    rw [show skelO n xs s = none from partO_no (by rw [hC]; rfl)]
    clear hC
    go_enter Try.func21, Try.ntmps21
    go_wp2_with fail
    try rw [hbr]
    refine (specIsC_b n _ _ xs false HC.out hlen _ HH.out).mono ?_
    rintro e w1 ⟨rfl, hb1⟩
    obtain ⟨r0, r1, r2, r3, r4⟩ := TR.out.keeps hb1
    have HB1 : Hid (Below w.heap.size w w1) := HBV.out.trans (hb1.mono HBV.out.size)
    clear hb1
    go_wp2
    refine ret_cx2 br rfl rfl rfl (x := .int .i64 0) (y := .slice none 0 0) (by go_simp) (by go_simp) rfl ?_
    exact ⟨_, rfl, OwnInts.nil _ _, by first | exact (HB1.out.setCell (by dsimp only; omega) _).setCell (by dsimp only; omega) _ | exact HB1.out⟩
  | true =>
  cases hq0 : inB 0 6 s with
  | false =>
    have HC := Lib.hid hC
    have HQ := Lib.hid hq0
    rw [show skelO n xs s = none from partO_no (by rw [hq0, Bool.and_false])]
    clear hC hq0
    go_enter Try.func21, Try.ntmps21
    go_wp2_with fail
    try rw [hbr]
    refine (specIsC_b n _ _ xs true HC.out hlen _ HH.out).mono ?_
    rintro e w1 ⟨rfl, hb1⟩
    go_wp2_with fail
    refine (in_b s 0 6 false HQ.out _).mono ?_
    rintro e w' ⟨rfl, rfl⟩
    obtain ⟨r0, r1, r2, r3, r4⟩ := TR.out.keeps hb1
    have HB1 : Hid (Below w.heap.size w w1) := HBV.out.trans (hb1.mono HBV.out.size)
    clear hb1
    go_wp2
    refine ret_cx2 br rfl rfl rfl (x := .int .i64 0) (y := .slice none 0 0) (by go_simp) (by go_simp) rfl ?_
    exact ⟨_, rfl, OwnInts.nil _ _, by first | exact (HB1.out.setCell (by dsimp only; omega) _).setCell (by dsimp only; omega) _ | exact HB1.out⟩
  | true =>
    have hspec := skel_spec n xs hC s
    have HC := Lib.hid hC
    have HQ := Lib.hid hq0
    rw [show skelO n xs s = some (n, maxQ (skelQ xs s)) from partO_yes (by rw [hC, hq0]; rfl)]
    clear hC hq0
    go_enter Try.func21, Try.ntmps21
    go_wp2_with fail
    try rw [hbr]
    refine (specIsC_b n _ _ xs true HC.out hlen _ HH.out).mono ?_
    rintro e w1 ⟨rfl, hb1⟩
    go_wp2_with fail
    refine (in_b s 0 6 true HQ.out _).mono ?_
    rintro e w' ⟨rfl, rfl⟩
    obtain ⟨V, rfl⟩ : ∃ V : World, V = w1 := ⟨_, rfl⟩
    have TC := Lib.hid (TC.out.keeps hb1)
    have TR := Lib.hid (TR.out.keeps hb1)
    have HH := Lib.hid (HH.out.keeps hb1)
    have HBV : Hid (Below w.heap.size w V) := HBV.out.trans (hb1.mono HBV.out.size)
    have hvs := HBV.out.size
    have hbv := TR.out.1
    clear hb1
    clear hbr k0 k1 k2 k3 k4
    obtain ⟨c0, c1, c2, c3, c4⟩ := TC.out
    go_wp2_with fail
    clear c0 c1 c2 c3 c4
    refine (specFaces_any n _ _ xs hlen _ (HH.out.keeps ((Below.refl _ _).alloc (Nat.le_refl _) _))).mono ?_
    rintro e w1 ⟨v1, rfl, hO1, hb1⟩
    obtain ⟨a1, d1, g1, rfl, _, hg1, hr1, _⟩ := OwnInts.ata hO1 hb1.size
    have hO0 : OwnInts (V.alloc (.cells #[] 3)) V.heap.size (.slice (some ⟨V.heap.size, 0, none⟩) 0 0) [] := by
      have h := OwnInts.lit V V.heap.size [] (Nat.le_refl _) (by simp)
      first | exact h | (have e := HVS.out; simp only [e] at h ⊢; exact h)
    have hB1 : Below V.heap.size V w1 := ((Below.refl _ _).alloc (Nat.le_refl _) _).trans (hb1.mono (by simp))
    have HO1 := Lib.hid (OwnInts.keeps hO0 hb1)
    have HB1 := Lib.hid hB1
    simp only [World.size_alloc] at hg1
    have hne1 : (Value.slice (some ⟨V.heap.size, 0, none⟩) 0 0).ownBlock ≠ some g1 := by
      simp only [Value.ownBlock, ne_eq, Option.some.injEq]
      first | omega | (have e := HVS.out; omega)
    have HR1 := Lib.hid hr1
    have hle := faces_le n xs
    have HOKL := Lib.hid (size_ok n xs)
    have HSPEC := Lib.hid hspec
    obtain ⟨L, hL⟩ : ∃ L, faces n xs = L := ⟨_, rfl⟩
    rw [hL] at HR1 hle HOKL HSPEC
    try rw [hL]
    clear hO1 hr1 hb1 hO0 hB1 hL hspec
    go_wp2
    go_loopw [6, 8] (fun v i wr => ∃ k : Nat, k ≤ L.length ∧ i = .int .i64 (k : Int) ∧ OwnInts wr V.heap.size v (keepL (fun f => decide ((pc f.toNat : Int) ≤ s)) L k) ∧ Below V.heap.size V wr ∧ IntsAt wr g1 a1 L ∧ v.ownBlock ≠ some g1) (fun _ i _ => L.length - (intOf i).toNat)
    case atStart => exact ⟨0, Nat.zero_le _, rfl, HO1.out, HB1.out, HR1.out, hne1⟩
    case round =>
      clear hne1 HO1 HB1 HR1
      obtain ⟨k, hk, rfl, hO, hB, hR, hne⟩ := hrel
      have HO := Lib.hid hO
      unfold OwnInts at HO
      have HR := Lib.hid hR
      have HNE := Lib.hid hne
      have hsz := hB.size
      have hl := keepL_le (fun f => decide ((pc f.toNat : Int) ≤ s)) L k
      clear hO hR hne
      obtain ⟨q0, q1, q2, q3, q4⟩ := TC.out.keeps hB
      by_cases hlt : k < L.length
      · obtain ⟨t, ht, ht64⟩ := isC_at2 HOKL.out k hlt
        obtain ⟨ea, hg1l, g, _⟩ := HR.out k hlt
        rw [ht] at g
        have HT := Lib.hid ht
        obtain rfl := ea
        clear ht
        obtain ⟨p, hp⟩ : ∃ p, pc t = p := ⟨_, rfl⟩
        have hp6 := pc_le t
        rw [hp] at hp6
        have HP := Lib.hid hp
        cases hcd : decide ((p : Int) ≤ s) with
        | true =>
          have HN := Lib.hid ((keepL_hit (fun f => decide ((pc f.toNat : Int) ≤ s)) L k hlt (by rw [HT.out]; show decide ((pc t : Int) ≤ s) = true; rw [hp]; exact hcd)).trans (by rw [HT.out]))
          have hq := of_decide_eq_true hcd
          clear hp
          clear hcd
          go_wp2_with fail
          refine (l2Size_v t p HP.out ht64 _).mono ?_
          rintro e w' ⟨rfl, rfl⟩
          go_wp2_with (at_builtin; refine wpList_append_own_at _ rfl _ _ 24 rfl V.heap.size 3 i0 (.int .i64 0) 1 8 Try.underlying24 hi hz0 hz1 hz2 rfl (by decide) _ _ _ rfl (HO.out.alloc _) ⟨wr.heap.size, 0, none⟩ 1 1 [.int .i64 ((t : Int))] rfl rfl ?c1 ?c2 ?c3 ?c4 ?c5 ?_)
          case c1 => intro j u hj; exact Mem.cell_new wr _ _ j u hj
          case c2 => intro u hu; simp at hu; subst hu; rfl
          case c3 => unfold maxLen; omega
          case c4 => omega
          case c5 => simp; omega
          intro v' w5 hown1 hgrow _ hob
          have hB5 : Below V.heap.size V w5 := (hB.alloc hsz _).grown hgrow (by simp; omega) (fun g hg => (HO.out.lt g hg).1)
          have hR5 := IntsAt.off (HR.out.keeps ((Below.refl _ _).alloc (Nat.le_refl _) _)) hgrow HNE.out
          have hn5 : v'.ownBlock ≠ some g1 := by
            rcases hob with e | e
            · rw [e]; exact HNE.out
            · rw [e]; simp; omega
          have HR5 := Lib.hid hR5
          have HN5 := Lib.hid hn5
          have H1 := Lib.hid hown1
          clear hown1 hgrow hob hR5 hn5
          go_wp2
          go_roundw
          case rel => exact ⟨k + 1, by omega, by go_num, by rw [HN.out]; exact OwnInts.next H1.out, hB5, HR5.out, HN5.out⟩
          case measure => simp [intOf]; omega
        | false =>
          have HN := Lib.hid (keepL_miss (fun f => decide ((pc f.toNat : Int) ≤ s)) L k hlt (by rw [HT.out]; show decide ((pc t : Int) ≤ s) = false; rw [hp]; exact hcd))
          have hq := of_decide_eq_false hcd
          clear hp
          clear hcd
          go_wp2_with fail
          refine (l2Size_v t p HP.out ht64 _).mono ?_
          rintro e w' ⟨rfl, rfl⟩
          go_wp2
          go_roundw
          case rel => exact ⟨k + 1, by omega, by go_num, by rw [HN.out]; exact HO.out, hB, HR.out, HNE.out⟩
          case measure => simp [intOf]; omega
      · have E := Lib.hid (show k = L.length by omega)
        have hO1 := HO.out
        rw [E.out] at hO1 hl
        obtain ⟨a1, c1, g1x, rfl, hg1x, hr1⟩ := OwnInts.at hO1
        have R1 := Lib.hid hr1
        have R0 := Lib.hid (TR.out.keeps hB)
        clear hO1 hr1 HO
        go_wp2_with fail
        refine (l3Make_any n _ _ (keepL (fun f => decide ((pc f.toNat : Int) ≤ s)) L L.length) (by rw [keepL_all]; exact filter_ok _ HOKL.out) (by omega) _ R1.out.ints).mono ?_
        rintro e w6 ⟨v, rfl, hO2, hb6⟩
        rw [HSPEC.out] at hO2
        obtain ⟨a2, c2, g2, rfl, hc2, hg2, hr2, _⟩ := OwnInts.ata hO2 hb6.size
        obtain ⟨r0, r1, r2, r3, r4⟩ := R0.out.keeps hb6
        have HO2 := Lib.hid (OwnInts.lower hO2 hsz)
        have HB6 : Hid (Below w.heap.size w w6) := HBV.out.trans ((hB.trans (hb6.mono hsz)).mono hvs)
        clear hO2 hr2 hb6
        go_wp2
        refine ret_cx2 br rfl rfl rfl (x := .int .i64 n) (y := .slice a2 (maxQ (skelQ xs s)).length c2) (by go_simp) (by go_simp) rfl ?_
        exact ⟨_, rfl, (OwnInts.set (OwnInts.set HO2.out _ _ _ (by omega)) _ _ _ (by omega)).lower (by omega), (HB6.out.setCell (by dsimp only; omega) _).setCell (by dsimp only; omega) _⟩


end Go.Proofs.Ytpakjcagdnnedaa
