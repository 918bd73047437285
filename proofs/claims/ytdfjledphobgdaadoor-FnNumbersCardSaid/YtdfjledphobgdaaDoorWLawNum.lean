/-
  THE WALK of the law on numbers and integers.
-/
import Derived.Test.YtdfjledphobgdaaDoorWDrawNum
import Derived.Test.YtdfjledphobgdaaDoorWLaws
namespace Go.Proofs.YtdfjledphobgdaaDoor
open Go.RowKit
open Num (implF numberF)

theorem length_of (n : Int) : (Lib.itoa n).length = (if n < 0 then 1 else 0) + (Lib.decDigits n.natAbs).length := by
  rcases Num.itoa_cases n with ⟨u, h1, rfl, e⟩ | ⟨u, rfl, e⟩
  · rw [e, if_pos (by omega), List.length_cons, show (-(u : Int)).natAbs = u by omega]; omega
  · rw [e, if_neg (by omega), show ((u : Int)).natAbs = u by omega]; omega
theorem digits12 (n : Int) : (Lib.decDigits n.natAbs).length ≤ 12 ↔ (-999999999999 ≤ n ∧ n ≤ 999999999999) := by
  rw [show (12 : Nat) = 11 + 1 from rfl, Num.length_iff]
  have : (10 : Nat) ^ (11 + 1) = 1000000000000 := by decide
  rw [this]; omega
theorem impl_in (n : Int) (h : -999999999999 ≤ n ∧ n ≤ 999999999999) : implF (Lib.itoa n) = some n := (Num.implF_iff _ _).2 ⟨rfl, h⟩
theorem impl_out (n : Int) (h : ¬ (-999999999999 ≤ n ∧ n ≤ 999999999999)) : implF (Lib.itoa n) = none := by
  cases hc : implF (Lib.itoa n) with
  | none => rfl
  | some m =>
    obtain ⟨h1, h2⟩ := (Num.implF_iff _ _).1 hc
    rw [Num.itoa_inj h1] at h2
    exact absurd h2 h

/-- The number that the text spells, or none: as the second half of the law has it. -/
theorem number_cases (l : List UInt8) : numberF l = none ∨ ∃ y : Int, numberF l = some y ∧ 0 ≤ y ∧ y ≤ 999999 ∧ Lib.itoa y = l := by
  cases h : numberF l with
  | none => exact Or.inl rfl
  | some y =>
    refine Or.inr ⟨y, rfl, ?_⟩
    unfold numberF at h
    simp only [Option.filter_eq_some_iff, Bool.and_eq_true, decide_eq_true_eq] at h
    exact ⟨h.2.1, h.2.2, ((Num.implF_iff l y).1 h.1).1⟩

set_option maxRecDepth 100000 in
set_option maxHeartbeats 4000000 in
theorem numbers_walk (a : Option Addr) (n c : Nat) (hn : n ≤ 9223372036854775807) (w : World) (hc : Code w a n) (ht : Tab w) (he : Errs w) :
    Calls Tryd.prog 3 #[.slice a n c] w fun e w' => e = .returned (.bool true) ∧ Below w.heap.size w w' := by
  have HC := Lib.hid hc
  have HT := Lib.hid ht
  have HE := Lib.hid he
  clear hc ht he
  by_cases hbig : 1048576 < (n : Int)
  · go_enter Tryd.func3, Tryd.ntmps3
    go_wp2
    go_ret
    exact ⟨rfl, Below.refl _ _⟩
  · go_enter Tryd.func3, Tryd.ntmps3
    go_wp2_with (go_at_call 9; go_in)
    refine (drawInt_any a n c (by omega) _ HC.out).mono ?_
    rintro e w1 ⟨x, hx1, hx2, rfl, hb1⟩
    have T1 := Lib.hid (HT.out.keeps hb1)
    go_wp2_with fail
    refine (fmt_any x hx1 hx2 _ T1.out).mono ?_
    rintro e w2 ⟨rfl, hb2⟩
    have B2 : Hid (Below w.heap.size w w2) := hb1.trans (hb2.mono hb1.size)
    have T2 := Lib.hid (HT.out.keeps B2.out)
    have E2 := Lib.hid (HE.out.keeps B2.out)
    clear hb1 hb2 T1
    have hl21 := Lib.itoa_length_le x hx1 hx2
    have hsz : (⟨(Lib.itoa x).toArray⟩ : ByteArray).size ≤ 281474976710656 := by
      show (Lib.itoa x).toArray.size ≤ _
      rw [List.size_toArray]; omega
    have hp := implInt_any ⟨(Lib.itoa x).toArray⟩ hsz w2 T2.out E2.out
    rw [show (⟨(Lib.itoa x).toArray⟩ : ByteArray).data.toList = Lib.itoa x from rfl] at hp
    have hlen := length_of x
    have hdig := digits12 x
    by_cases hin : -999999999999 ≤ x ∧ x ≤ 999999999999
    · rw [impl_in x hin] at hp
      have HP := Lib.hid hp
      have hd := hdig.2 hin
      by_cases h12 : (Lib.itoa x).length ≤ 12
      · clear hp hdig hlen hd hin hsz hl21
        go_wp2_with fail
        refine HP.out.mono ?_
        rintro e w3 ⟨rfl, hb3⟩
        unfold two
        have B3 : Hid (Below w.heap.size w w3) := B2.out.trans (hb3.mono B2.out.size)
        clear hb3
        go_wp2_with fail
        refine (format_any x hx1 hx2 _).mono ?_
        rintro e w4 ⟨rfl, hb4⟩
        have B4 : Hid (Below w.heap.size w w4) := B3.out.trans (hb4.mono B3.out.size)
        clear hb4
        go_wp2_with fail
        refine (drawNumText_any a n c (by omega) _ (HC.out.keeps B4.out)).mono ?_
        rintro e w5 ⟨t, ht, rfl, hb5⟩
        have B5 : Hid (Below w.heap.size w w5) := B4.out.trans (hb5.mono B4.out.size)
        clear hb5
        go_wp2_with fail
        refine (implNumber_any t (by omega) _ (HT.out.keeps B5.out) (HE.out.keeps B5.out)).mono ?_
        rintro e w6 ⟨rfl, hb6⟩
        have B6 : Hid (Below w.heap.size w w6) := B5.out.trans (hb6.mono B5.out.size)
        clear hb6
        unfold two
        go_wp2_with fail
        refine (specNumber_impl t (by omega) _).mono ?_
        rintro e w7 ⟨rfl, hb7⟩
        have B7 : Hid (Below w.heap.size w w7) := B6.out.trans (hb7.mono B6.out.size)
        clear hb7
        unfold two
        rcases number_cases t.data.toList with hnum | ⟨y, hnum, hy1, hy2, hy3⟩
        · rw [hnum]
          clear hnum
          go_wp2
          go_ret
          exact ⟨rfl, B7.out⟩
        · rw [hnum]
          clear hnum
          have hq : (Lib.itoa y == t.toList) = true := by rw [ByteArray.toList_eq]; simpa using hy3
          clear hy3
          go_wp2_with fail
          refine (fmt_any y (by omega) (by omega) _ (HT.out.keeps B7.out)).mono ?_
          rintro e w8 ⟨rfl, hb8⟩
          have B8 : Hid (Below w.heap.size w w8) := B7.out.trans (hb8.mono B7.out.size)
          clear hb8
          go_wp2
          go_ret
          exact ⟨rfl, B8.out⟩
      · have hneg : x < 0 := by
          by_cases h : x < 0
          · exact h
          · rw [if_neg h] at hlen; omega
        have h13 : (Lib.itoa x).length ≤ 13 := by rw [if_pos hneg] at hlen; omega
        have hB12 : decide (((Lib.itoa x).length : Int) ≤ 12) = false := by simp; omega
        have hB13 : decide (((Lib.itoa x).length : Int) ≤ 13) = true := by simp; omega
        clear hp hdig hlen hd hin hsz hl21
        go_wp2_with fail
        refine HP.out.mono ?_
        rintro e w3 ⟨rfl, hb3⟩
        unfold two
        have B3 : Hid (Below w.heap.size w w3) := B2.out.trans (hb3.mono B2.out.size)
        clear hb3
        go_wp2_with fail
        refine (format_any x hx1 hx2 _).mono ?_
        rintro e w4 ⟨rfl, hb4⟩
        have B4 : Hid (Below w.heap.size w w4) := B3.out.trans (hb4.mono B3.out.size)
        clear hb4
        go_wp2_with fail
        refine (drawNumText_any a n c (by omega) _ (HC.out.keeps B4.out)).mono ?_
        rintro e w5 ⟨t, ht, rfl, hb5⟩
        have B5 : Hid (Below w.heap.size w w5) := B4.out.trans (hb5.mono B4.out.size)
        clear hb5
        go_wp2_with fail
        refine (implNumber_any t (by omega) _ (HT.out.keeps B5.out) (HE.out.keeps B5.out)).mono ?_
        rintro e w6 ⟨rfl, hb6⟩
        have B6 : Hid (Below w.heap.size w w6) := B5.out.trans (hb6.mono B5.out.size)
        clear hb6
        unfold two
        go_wp2_with fail
        refine (specNumber_impl t (by omega) _).mono ?_
        rintro e w7 ⟨rfl, hb7⟩
        have B7 : Hid (Below w.heap.size w w7) := B6.out.trans (hb7.mono B6.out.size)
        clear hb7
        unfold two
        rcases number_cases t.data.toList with hnum | ⟨y, hnum, hy1, hy2, hy3⟩
        · rw [hnum]
          clear hnum
          go_wp2
          go_ret
          exact ⟨rfl, B7.out⟩
        · rw [hnum]
          clear hnum
          have hq : (Lib.itoa y == t.toList) = true := by rw [ByteArray.toList_eq]; simpa using hy3
          clear hy3
          go_wp2_with fail
          refine (fmt_any y (by omega) (by omega) _ (HT.out.keeps B7.out)).mono ?_
          rintro e w8 ⟨rfl, hb8⟩
          have B8 : Hid (Below w.heap.size w w8) := B7.out.trans (hb8.mono B7.out.size)
          clear hb8
          go_wp2
          go_ret
          exact ⟨rfl, B8.out⟩
    · rw [impl_out x hin] at hp
      have HP := Lib.hid hp
      have hd : ¬ (Lib.decDigits x.natAbs).length ≤ 12 := fun h => hin (hdig.1 h)
      have h12 : ¬ (Lib.itoa x).length ≤ 12 := by omega
      by_cases hneg : x < 0
      · have h13 : ¬ (Lib.itoa x).length ≤ 13 := by rw [if_pos hneg] at hlen; omega
        clear hp hdig hlen hd hin hsz hl21
        go_wp2_with fail
        refine HP.out.mono ?_
        rintro e w3 ⟨rfl, hb3⟩
        unfold two
        have B3 : Hid (Below w.heap.size w w3) := B2.out.trans (hb3.mono B2.out.size)
        clear hb3
        go_wp2_with fail
        refine (format_any x hx1 hx2 _).mono ?_
        rintro e w4 ⟨rfl, hb4⟩
        have B4 : Hid (Below w.heap.size w w4) := B3.out.trans (hb4.mono B3.out.size)
        clear hb4
        go_wp2_with fail
        refine (drawNumText_any a n c (by omega) _ (HC.out.keeps B4.out)).mono ?_
        rintro e w5 ⟨t, ht, rfl, hb5⟩
        have B5 : Hid (Below w.heap.size w w5) := B4.out.trans (hb5.mono B4.out.size)
        clear hb5
        go_wp2_with fail
        refine (implNumber_any t (by omega) _ (HT.out.keeps B5.out) (HE.out.keeps B5.out)).mono ?_
        rintro e w6 ⟨rfl, hb6⟩
        have B6 : Hid (Below w.heap.size w w6) := B5.out.trans (hb6.mono B5.out.size)
        clear hb6
        unfold two
        go_wp2_with fail
        refine (specNumber_impl t (by omega) _).mono ?_
        rintro e w7 ⟨rfl, hb7⟩
        have B7 : Hid (Below w.heap.size w w7) := B6.out.trans (hb7.mono B6.out.size)
        clear hb7
        unfold two
        rcases number_cases t.data.toList with hnum | ⟨y, hnum, hy1, hy2, hy3⟩
        · rw [hnum]
          clear hnum
          go_wp2
          go_ret
          exact ⟨rfl, B7.out⟩
        · rw [hnum]
          clear hnum
          have hq : (Lib.itoa y == t.toList) = true := by rw [ByteArray.toList_eq]; simpa using hy3
          clear hy3
          go_wp2_with fail
          refine (fmt_any y (by omega) (by omega) _ (HT.out.keeps B7.out)).mono ?_
          rintro e w8 ⟨rfl, hb8⟩
          have B8 : Hid (Below w.heap.size w w8) := B7.out.trans (hb8.mono B7.out.size)
          clear hb8
          go_wp2
          go_ret
          exact ⟨rfl, B8.out⟩
      · clear hp hdig hlen hd hin hsz hl21
        go_wp2_with fail
        refine HP.out.mono ?_
        rintro e w3 ⟨rfl, hb3⟩
        unfold two
        have B3 : Hid (Below w.heap.size w w3) := B2.out.trans (hb3.mono B2.out.size)
        clear hb3
        go_wp2_with fail
        refine (format_any x hx1 hx2 _).mono ?_
        rintro e w4 ⟨rfl, hb4⟩
        have B4 : Hid (Below w.heap.size w w4) := B3.out.trans (hb4.mono B3.out.size)
        clear hb4
        go_wp2_with fail
        refine (drawNumText_any a n c (by omega) _ (HC.out.keeps B4.out)).mono ?_
        rintro e w5 ⟨t, ht, rfl, hb5⟩
        have B5 : Hid (Below w.heap.size w w5) := B4.out.trans (hb5.mono B4.out.size)
        clear hb5
        go_wp2_with fail
        refine (implNumber_any t (by omega) _ (HT.out.keeps B5.out) (HE.out.keeps B5.out)).mono ?_
        rintro e w6 ⟨rfl, hb6⟩
        have B6 : Hid (Below w.heap.size w w6) := B5.out.trans (hb6.mono B5.out.size)
        clear hb6
        unfold two
        go_wp2_with fail
        refine (specNumber_impl t (by omega) _).mono ?_
        rintro e w7 ⟨rfl, hb7⟩
        have B7 : Hid (Below w.heap.size w w7) := B6.out.trans (hb7.mono B6.out.size)
        clear hb7
        unfold two
        rcases number_cases t.data.toList with hnum | ⟨y, hnum, hy1, hy2, hy3⟩
        · rw [hnum]
          clear hnum
          go_wp2
          go_ret
          exact ⟨rfl, B7.out⟩
        · rw [hnum]
          clear hnum
          have hq : (Lib.itoa y == t.toList) = true := by rw [ByteArray.toList_eq]; simpa using hy3
          clear hy3
          go_wp2_with fail
          refine (fmt_any y (by omega) (by omega) _ (HT.out.keeps B7.out)).mono ?_
          rintro e w8 ⟨rfl, hb8⟩
          have B8 : Hid (Below w.heap.size w w8) := B7.out.trans (hb8.mono B7.out.size)
          clear hb8
          go_wp2
          go_ret
          exact ⟨rfl, B8.out⟩

end Go.Proofs.YtdfjledphobgdaaDoor
