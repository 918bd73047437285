/-
  WALK of chapter 13 (impl): TimesMatrix.
-/
import Derived.Test.YthjgpbcdcgagfaaWMatI9
namespace Go.Proofs.Ythjgpbcdcgagfaa
open Go.RowKit

def timesOk (A B : Lin.Mat) : Bool := fitB A && (fitB B && (decide (0 < B.length) && decide (Lin.wid A = B.length)))
/-- The product; none where it isn't asked for. -/
def timesZ (A B : Lin.Mat) : Lin.Mat := if timesOk A B = true then Lin.timesM (Lin.wid B) A B else []
theorem timesZ_no {A B : Lin.Mat} (h : timesOk A B = false) : timesZ A B = [] := if_neg (by rw [h]; simp)

set_option maxRecDepth 100000 in
set_option maxHeartbeats 4000000 in
theorem implTimes_any (g1 g2 : Nat) (a1 a2 : Option Addr) (c1 c2 : Nat) (R1 R2 : List (Nat × Nat)) (A B : Lin.Mat) (hlA : A.length ≤ 1099511627776) (hlB : B.length ≤ 1099511627776) (hrA : ∀ i, i < A.length → (Lin.row A i).length ≤ 1099511627776) (hrB : ∀ i, i < B.length → (Lin.row B i).length ≤ 1099511627776) (w : World) (hA : Mx w g1 a1 R1 A) (hB : Mx w g2 a2 R2 B) :
    Calls Try.prog 18 #[.slice a1 A.length c1, .slice a2 B.length c2] w fun e w' => ∃ v, e = .returned (.tuple #[v, .bool (timesOk A B)]) ∧ HasMx w' w.heap.size v (timesZ A B) ∧ Below w.heap.size w w' := by
  have HCA := Lib.hid (readSmall_any g1 a1 c1 R1 A hlA hrA w hA)
  have HB := Lib.hid hB
  have HRB := Lib.hid hrB
  have HLB := Lib.hid hlB
  have HOK : Hid (timesOk A B = (fitB A && (fitB B && (decide (0 < B.length) && decide (Lin.wid A = B.length))))) := rfl
  have HNO := Lib.hid (fun h => timesZ_no (A := A) (B := B) h)
  have HYES : Hid (timesOk A B = true → timesZ A B = Lin.timesM (Lin.wid B) A B) := by
    have : timesOk A B = true → timesZ A B = Lin.timesM (Lin.wid B) A B := fun h => if_pos h
    exact this
  obtain ⟨k, hk⟩ : ∃ k, timesOk A B = k := ⟨_, rfl⟩
  rw [hk] at HOK HNO HYES ⊢
  obtain ⟨nA, hnA⟩ : ∃ k, A.length = k := ⟨_, rfl⟩
  obtain ⟨nB, hnB⟩ : ∃ k, B.length = k := ⟨_, rfl⟩
  have HNB := Lib.hid hnB
  rw [hnA] at HCA ⊢
  rw [hnB]
  clear hk hA hB hrA hrB hnA hnB hlA hlB
  go_enter Try.func18, Try.ntmps18
  go_wp2_with fail
  refine HCA.out.mono ?_
  rintro e w1 ⟨hdis, hb1⟩
  have HB1 := Lib.hid hb1
  have HDIS := Lib.hid hdis
  have hz1 := hb1.size
  have HCB := Lib.hid (readSmall_any g2 a2 c2 R2 B HLB.out HRB.out w1 (HB.out.keeps hb1))
  rw [HNB.out] at HCB
  clear hdis hb1
  rcases HDIS.out with ⟨fA, P, v, R, rfl, hM⟩ | ⟨fA, rfl⟩
  · have HM := Lib.hid hM
    have HFA := Lib.hid fA
    clear HDIS hM fA
    go_wp2_with fail
    refine HCB.out.mono ?_
    rintro e w2 ⟨⟨fB, P2, v2, R2, rfl, hM2⟩ | ⟨fB, rfl⟩, hb2⟩
    · have HM1 := Lib.hid (HM.out.keeps hb2)
      have HM2 := Lib.hid (hM2.lower hz1)
      have HB2 := Lib.hid (HB1.out.trans (hb2.mono hz1))
      have HFB := Lib.hid fB
      have hz2 := hb2.size
      clear hM2 hb2 fB HM
      have HFT := Lib.hid (fitsBefore_any w2 HM1.out HM2.out)
      obtain ⟨z, hz⟩ : ∃ z, (decide (0 < B.length) && decide (Lin.wid A = B.length)) = z := ⟨_, rfl⟩
      have HZ := Lib.hid hz
      rw [hz] at HFT HOK
      clear hz
      go_wp2_with fail
      refine HFT.out.mono ?_
      rintro e w3 ⟨rfl, rfl⟩
      cases z with
      | true =>
        have HK : Hid (k = true) := by
          have : k = true := by rw [HOK.out, HFA.out, HFB.out]; rfl
          exact this
        have hzz := HZ.out
        rw [Bool.and_eq_true, decide_eq_true_eq, decide_eq_true_eq] at hzz
        have hfa := HFA.out
        have hfb := HFB.out
        unfold fitB at hfa hfb
        rw [Bool.and_eq_true] at hfa hfb
        have HTM := Lib.hid (times_any hfa.1 hfb.1 hfa.2 hfb.2 hzz.1 hzz.2 w2 HM1.out HM2.out)
        have HTZ : Hid (timesZ A B = Lin.timesM (Lin.wid B) A B) := HYES.out HK.out
        clear hzz hfa hfb
        go_wp2_with fail
        refine HTM.out.mono ?_
        rintro e w4 ⟨P4, v4, R4, rfl, hM4, hb4⟩
        have hc4 := hM4.cell
        have HH : Hid (HasMx w4 w.heap.size v4 (timesZ A B)) := by
          have : HasMx w4 w.heap.size v4 (timesZ A B) := by rw [HTZ.out]; exact hM4.own.has.lower (by have := HB2.out.size; omega)
          exact this
        have HB4 : Hid (Below w.heap.size w w4) := HB2.out.trans (hb4.mono (by have := HB2.out.size; omega))
        clear hM4 hb4
        go_wp2
        go_ret2
        exact ⟨v4, by rw [HK.out]; rfl, HH.out, HB4.out⟩
      | false =>
        have HK : Hid (k = false) := by
          have : k = false := by rw [HOK.out, HFA.out, HFB.out]; rfl
          exact this
        have HTZ : Hid (timesZ A B = []) := HNO.out HK.out
        go_wp2
        go_ret2
        exact ⟨.slice none 0 0, by rw [HK.out]; rfl, by rw [HTZ.out]; exact HasMx.empty _ _, HB2.out⟩
    · have HB2 := Lib.hid (HB1.out.trans (hb2.mono hz1))
      have HK : Hid (k = false) := by
        have : k = false := by rw [HOK.out, HFA.out, fB]; rfl
        exact this
      have HTZ : Hid (timesZ A B = []) := HNO.out HK.out
      clear hb2 fB
      go_wp2
      go_ret2
      exact ⟨.slice none 0 0, by rw [HK.out]; rfl, by rw [HTZ.out]; exact HasMx.empty _ _, HB2.out⟩
  · have HK : Hid (k = false) := by
      have : k = false := by rw [HOK.out, fA]; rfl
      exact this
    have HTZ : Hid (timesZ A B = []) := HNO.out HK.out
    clear HDIS fA
    go_wp2_with fail
    refine HCB.out.mono ?_
    rintro e w2 ⟨hdis, hb2⟩
    have HB2 := Lib.hid (HB1.out.trans (hb2.mono hz1))
    have HDIS := Lib.hid hdis
    clear hdis hb2
    rcases HDIS.out with ⟨fB, P2, v2, R2, rfl, hM2⟩ | ⟨fB, rfl⟩
    · clear HDIS hM2 fB
      go_wp2
      go_ret2
      exact ⟨.slice none 0 0, by rw [HK.out]; rfl, by rw [HTZ.out]; exact HasMx.empty _ _, HB2.out⟩
    · clear HDIS fB
      go_wp2
      go_ret2
      exact ⟨.slice none 0 0, by rw [HK.out]; rfl, by rw [HTZ.out]; exact HasMx.empty _ _, HB2.out⟩

end Go.Proofs.Ythjgpbcdcgagfaa
