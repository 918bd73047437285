/-
  WALKS: impl.MissingSets.
-/
import Derived.Test.YtfnpkglijknnoaaWMissI1
import Derived.Test.YtfnpkglijknnoaaWWhereB
namespace Go.Proofs.Ytfnpkglijknnoaa
open Go.RowKit
open Sets

set_option maxRecDepth 100000 in
set_option maxHeartbeats 2000000 in
theorem miss1_pred (B m K : Nat) (f : Nat → Bool) (w : World) (hK : K < w.heap.size) (hk : w.cell? ⟨K, 0, none⟩ = some (.map (some B))) (h : BMap w B m f) :
    PredB 45 #[.pointer (some ⟨K, 0, none⟩)] (fun s => f s && !loses f s) w := by
  intro W s hs hb
  have HM := Lib.hid (h.keeps hb)
  have k1 : W.cell? ⟨K, 0, none⟩ = some (.map (some B)) := (hb.cell (p := ⟨K, 0, none⟩) hK).trans hk
  show Calls Try.prog 45 #[.int .i64 (s : Int), .pointer (some ⟨K, 0, none⟩)] W fun e w' => e = .returned (.bool (f s && !loses f s)) ∧ Below W.heap.size W w'
  clear hk h hb
  cases hf : f s with
  | false =>
    have HF := Lib.hid hf
    clear hf
    rw [Bool.false_and]
    go_enter Try.func45, Try.ntmps45
    go_wp2_with (at_lookup; refine wpList_bmap_look _ rfl _ _ rfl B m f rfl HM.out s false HF.out _ rfl rfl hs ?_)
    go_ret
    exact ⟨rfl, Below.refl _ _⟩
  | true =>
    have HF := Lib.hid hf
    clear hf
    rw [Bool.true_and]
    generalize hl : loses f s = b at *
    have HL := Lib.hid hl
    clear hl
    go_enter Try.func45, Try.ntmps45
    go_wp2_with (at_lookup; refine wpList_bmap_look _ rfl _ _ rfl B m f rfl HM.out s true HF.out _ rfl rfl hs ?_)
    refine (loses_any B m f s hs b HL.out _ HM.out).mono ?_
    rintro e w' ⟨rfl, rfl⟩
    go_wp2
    go_ret
    exact ⟨rfl, Below.refl _ _⟩

set_option maxRecDepth 100000 in
set_option maxHeartbeats 2000000 in
theorem implMissing_any (n : Int) (a : Option Addr) (c : Nat) (xs : List Int) (hcap : xs.length ≤ c) (hlen : xs.length ≤ 1099511627776) (w : World) (h : Ints w a xs) :
    Calls Try.prog 12 #[cx n (.slice a xs.length c)] w fun e w' => ∃ v, e = .returned v ∧ OwnInts w' w.heap.size v (missing n xs) ∧ Below w.heap.size w w' := by
  have hb0 : Below w.heap.size w (w.alloc (Obj.cells #[Value.int IntKind.i64 n, Value.slice a xs.length c] 26)) := (Below.refl _ _).alloc (Nat.le_refl _) _
  have htwo : Two (w.alloc (Obj.cells #[Value.int IntKind.i64 n, Value.slice a xs.length c] 26)) w.heap.size (.int .i64 n) (.slice a xs.length c) := Two.new _ _ _ _
  have H := Lib.hid (h.keeps hb0)
  have HB0 := Lib.hid hb0
  have HT := Lib.hid htwo
  clear h hb0 htwo
  obtain ⟨t0, t1, t2, _, _⟩ := HT.out
  cases hC : isC n xs with
  | false =>
    have HC := Lib.hid hC
    rw [missing_no hC]
    clear hC
    go_enter Try.func12, Try.ntmps12
    go_wp2_with fail
    refine (implIsC_b n _ _ xs hcap false HC.out hlen _ H.out).mono ?_
    rintro e w1 ⟨rfl, hb1⟩
    go_wp2
    go_ret
    exact ⟨_, rfl, OwnInts.nil _ _, HB0.out.trans (hb1.mono (by simp))⟩
  | true =>
    have HC := Lib.hid hC
    have HF : Hid (missing n xs = ord fun s => missQ n xs s && !loses (missQ n xs) s) := by
      have : missing n xs = ord fun s => missQ n xs s && !loses (missQ n xs) s := by rw [missing_yes hC, minQ_loses hC]
      exact this
    clear hC
    have eg : ∀ args w, (callFunc 45 args).run Try.prog w = .ok (.enter 45 args) w := enters_of Try.func45 (by kernel_rfl) rfl
    have EG := Lib.hid eg
    clear eg
    go_enter Try.func12, Try.ntmps12
    go_wp2_with fail
    refine (implIsC_b n _ _ xs hcap true HC.out hlen _ H.out).mono ?_
    rintro e w1 ⟨rfl, hb1⟩
    have HB1 : Hid (Below w.heap.size w w1) := HB0.out.trans (hb1.mono (by simp))
    have HI1 := Lib.hid (H.out.keeps hb1)
    clear t0 t1 t2
    obtain ⟨t0, t1, t2, _, _⟩ := HT.out.keeps hb1
    clear hb1
    go_wp2_with fail
    refine (noFaces_any n a c xs HC.out hlen _ HI1.out).mono ?_
    rintro e w2 ⟨rfl, hM, hb2⟩
    have HB2 : Hid (Below w.heap.size w w2) := HB1.out.trans (hb2.mono HB1.out.size)
    have hsz2 := HB2.out.size
    have hM2 := hM.keeps ((Below.refl w2.heap.size w2).alloc (Nat.le_refl _) (Obj.cells #[Value.map (some (w1.heap.size + 1))] 50))
    have HP := Lib.hid (miss1_pred (w1.heap.size + 1) 64 w2.heap.size (missQ n xs) (w2.alloc (Obj.cells #[Value.map (some (w1.heap.size + 1))] 50)) (by simp) (by simp) hM2)
    clear t0 t1 t2 hM2 hM hb2
    go_wp2_with fail
    refine (setsWhere_bel _ _ _ _ EG.out HP.out).mono ?_
    rintro e w3 ⟨v, rfl, hO, hb3⟩
    go_wp2
    go_ret
    refine ⟨v, rfl, ?_, (HB2.out.alloc (by omega) _).trans (hb3.mono (by simp; omega))⟩
    rw [HF.out]
    exact hO.lower (by simp; omega)

theorem implMissing_b (n : Int) (a : Option Addr) (c : Nat) (xs M : List Int) (hM : missing n xs = M) (hcap : xs.length ≤ c) (hlen : xs.length ≤ 1099511627776) (w : World) (h : Ints w a xs) :
    Calls Try.prog 12 #[cx n (.slice a xs.length c)] w fun e w' => ∃ v, e = .returned v ∧ OwnInts w' w.heap.size v M ∧ Below w.heap.size w w' := by
  subst hM; exact implMissing_any n a c xs hcap hlen w h

end Go.Proofs.Ytfnpkglijknnoaa
