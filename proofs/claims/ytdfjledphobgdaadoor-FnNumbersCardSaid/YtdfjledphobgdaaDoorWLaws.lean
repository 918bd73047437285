/-
  WALKS of the laws on parsing: both answers are the same.
-/
import Derived.Test.YtdfjledphobgdaaDoorWParse
namespace Go.Proofs.YtdfjledphobgdaaDoor
open Go.RowKit

theorem specInt_impl (s : ByteArray) (hs : s.size ≤ 281474976710656) (w : World) :
    Calls Tryd.prog 21 #[.string s] w fun e w' => e = two (Num.implF s.data.toList) ∧ Below w.heap.size w w' := by
  rw [Num.implF_readF]; exact specInt_any s hs w
theorem specNumber_impl (s : ByteArray) (hs : s.size ≤ 281474976710656) (w : World) :
    Calls Tryd.prog 16 #[.string s] w fun e w' => e = two (Num.numberF s.data.toList) ∧ Below w.heap.size w w' := by
  rw [Num.numberF_readF]; exact specNumber_any s hs w

set_option maxRecDepth 100000 in
theorem exactParseInt_walk (s : ByteArray) (hs : s.size ≤ 281474976710656) (w : World) (ht : Tab w) (he : Errs w) :
    Calls Tryd.prog 7 #[.string s] w fun e w' => e = .returned (.bool true) ∧ Below w.heap.size w w' := by
  have HT := Lib.hid ht
  have HE := Lib.hid he
  clear ht he
  by_cases hbig : 1048576 < (s.size : Int)
  · go_enter Tryd.func7, Tryd.ntmps7
    go_wp2
    go_ret
    exact ⟨rfl, Below.refl _ _⟩
  · go_enter Tryd.func7, Tryd.ntmps7
    go_wp2_with fail
    refine (specInt_impl s hs _).mono ?_
    rintro e w1 ⟨rfl, hb1⟩
    have HT1 := Lib.hid (HT.out.keeps hb1)
    have HE1 := Lib.hid (HE.out.keeps hb1)
    unfold two
    go_wp2_with fail
    refine (implInt_any s hs _ HT1.out HE1.out).mono ?_
    rintro e w2 ⟨rfl, hb2⟩
    unfold two
    go_wp2
    go_ret
    exact ⟨rfl, hb1.trans (hb2.mono hb1.size)⟩

set_option maxRecDepth 100000 in
theorem exactParseNumber_walk (s : ByteArray) (hs : s.size ≤ 281474976710656) (w : World) (ht : Tab w) (he : Errs w) :
    Calls Tryd.prog 6 #[.string s] w fun e w' => e = .returned (.bool true) ∧ Below w.heap.size w w' := by
  have HT := Lib.hid ht
  have HE := Lib.hid he
  clear ht he
  by_cases hbig : 1048576 < (s.size : Int)
  · go_enter Tryd.func6, Tryd.ntmps6
    go_wp2
    go_ret
    exact ⟨rfl, Below.refl _ _⟩
  · go_enter Tryd.func6, Tryd.ntmps6
    go_wp2_with fail
    refine (specNumber_impl s hs _).mono ?_
    rintro e w1 ⟨rfl, hb1⟩
    have HT1 := Lib.hid (HT.out.keeps hb1)
    have HE1 := Lib.hid (HE.out.keeps hb1)
    unfold two
    go_wp2_with fail
    refine (implNumber_any s hs _ HT1.out HE1.out).mono ?_
    rintro e w2 ⟨rfl, hb2⟩
    unfold two
    go_wp2
    go_ret
    exact ⟨rfl, hb1.trans (hb2.mono hb1.size)⟩

end Go.Proofs.YtdfjledphobgdaaDoor
