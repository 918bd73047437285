/-
  WALKS of chapter 4: spec.IsPure.
-/
import Derived.Test.YtlggglegoonapaaWPure
import Derived.BigQuiet
namespace Go.Proofs.Ytlggglegoonapaa
open Go.RowKit
open Sets

/-- What spec.l2Size answers at whatever number. -/
def szF : Nat → Int → Int → Int
  | 0, _, m => m
  | f + 1, t, m => if 0 < t then szF f (t / 2) (wrap64 (m + bits BinOp.and IntKind.i64 t 1)) else m
def szI (x : Int) : Int := szF x.toNat x 0
theorem szF_done (f : Nat) (t m : Int) (h : ¬ 0 < t) : szF f t m = m := by
  cases f with
  | zero => rfl
  | succ f => unfold szF; rw [if_neg h]

set_option maxRecDepth 100000 in
set_option maxHeartbeats 2000000 in
theorem l2Size_all (s0 : Int) (w : World) : Calls Try.prog 51 #[.int .i64 s0] w fun e w' => e = .returned (.int .i64 (szI s0)) ∧ w = w' := by
  obtain ⟨V, hV⟩ : ∃ V, szI s0 = V := ⟨_, rfl⟩
  have HV := Lib.hid hV
  rw [hV]
  clear hV
  go_enter Try.func51, Try.ntmps51
  go_wp2
  go_loop [0, 3] (fun x n => ∃ (f : Nat) (t m : Int), x = .int .i64 t ∧ n = .int .i64 m ∧ t.toNat ≤ f ∧ szF f t m = V) (fun x _ => (intOf x).toNat)
  case atStart => exact ⟨s0.toNat, s0, 0, rfl, rfl, Nat.le_refl _, HV.out⟩
  case round =>
    obtain ⟨f, t, m, rfl, rfl, hf, he⟩ := hrel
    have HE := Lib.hid he
    clear he
    by_cases hpos : 0 < t
    · obtain ⟨g, rfl⟩ : ∃ g, f = g + 1 := ⟨f - 1, by omega⟩
      have hs : szF g (t / 2) (wrap64 (m + bits BinOp.and IntKind.i64 t 1)) = V := by
        have h := HE.out
        unfold szF at h
        rwa [if_pos hpos] at h
      have HS := Lib.hid hs
      clear hs
      go_wp2
      go_round
      case rel => exact ⟨g, t / 2, _, rfl, rfl, by omega, HS.out⟩
      case measure => simp [intOf]; omega
    · have hm : m = V := by rw [← HE.out]; exact (szF_done f t m hpos).symm
      go_wp2
      go_ret
      exact ⟨by rw [← hm]; rfl, rfl⟩

set_option maxRecDepth 100000 in
set_option maxHeartbeats 4000000 in
theorem specPure_any (n : Int) (a : Option Addr) (c : Nat) (xs : List Int) (hlen : xs.length ≤ 1099511627776) (w : World) (h : Ints w a xs) :
    Calls Try.prog 24 #[cx n (.slice a xs.length c)] w fun e w' => e = .returned (.bool (pureB n xs)) ∧ Below w.heap.size w w' := by
  have hb0 : Below w.heap.size w (w.alloc (Obj.cells #[Value.int IntKind.i64 n, Value.slice a xs.length c] 26)) := (Below.refl _ _).alloc (Nat.le_refl _) _
  have htwo : Two (w.alloc (Obj.cells #[Value.int IntKind.i64 n, Value.slice a xs.length c] 26)) w.heap.size (.int .i64 n) (.slice a xs.length c) := Two.new _ _ _ _
  have H := Lib.hid (h.keeps hb0)
  have HB0 := Lib.hid hb0
  have HT := Lib.hid htwo
  clear h hb0 htwo
  cases hC : isC n xs with
  | false =>
    have HC := Lib.hid hC
    have HF := Lib.hid (pure_no hC)
    clear hC
    go_enter Try.func24, Try.ntmps24
    go_wp2
    generalize hW : (w.alloc (Obj.cells #[Value.int IntKind.i64 n, Value.slice a xs.length c] 26)) = W at *
    clear hW
    go_loopw [3] (fun i wr => ∃ k m : Nat, 1 ≤ k ∧ i = .int .i64 (k : Int) ∧ wr = W.drewN m ∧ (k ≤ xs.length ∨ k = 1)) (fun i _ => xs.length - (intOf i).toNat)
    case atStart => exact ⟨1, 0, Nat.le_refl _, rfl, rfl, Or.inr rfl⟩
    case round =>
      obtain ⟨k, m, hk1, rfl, rfl, hk⟩ := hrel
      obtain ⟨t0, t1, t2, _, _⟩ := HT.out
      by_cases hlt : k < xs.length
      · obtain ⟨b0, o, rfl, g⟩ := H.out k hlt
        obtain ⟨b1, o1, e1, g0⟩ := H.out 0 (by omega)
        cases e1
        generalize xs.getD k 0 = x at g
        generalize xs.getD 0 0 = y at g0
        rw [Nat.add_zero] at g0
        have h0l : (0 : Int) < (xs.length : Int) := by omega
        have hkl : (k : Int) < (xs.length : Int) := by omega
        by_cases e : szI x = szI y
        · have hq : (szI x != szI y) = false := by simp [e]
          clear e
          go_wp2_with fail
          go_quiet ((first | (go_at_call 51; with_reducible exact quietly (l2Size_all x _)) | (go_at_call 51; with_reducible exact quietly (l2Size_all y _))))
          go_wp2
          go_roundw
          case rel => exact ⟨k + 1, _, by omega, by go_num, rfl, Or.inl (by omega)⟩
          case measure => simp [intOf]; omega
        · have hq : (szI x != szI y) = true := by simp [e]
          clear e
          go_wp2_with fail
          go_quiet ((first | (go_at_call 51; with_reducible exact quietly (l2Size_all x _)) | (go_at_call 51; with_reducible exact quietly (l2Size_all y _))))
          go_wp2
          go_ret
          exact ⟨by rw [HF.out]; rfl, (by first | exact bdrew HB0.out _ | exact bdrew (bdrew HB0.out _) _ | exact (bdrew HB0.out _).drew)⟩
      · go_wp2_with fail
        refine (specIsC_b n _ _ xs false HC.out hlen _ (Ints.drewN H.out m)).mono ?_
        rintro e w1 ⟨rfl, hb1⟩
        go_wp2
        go_ret
        exact ⟨by rw [HF.out]; rfl, (bdrew HB0.out m).trans (hb1.mono (bdrew HB0.out m).size)⟩
  | true =>
    have HC := Lib.hid hC
    have HF := Lib.hid (pure_yes hC)
    clear hC
    go_enter Try.func24, Try.ntmps24
    go_wp2
    generalize hW : (w.alloc (Obj.cells #[Value.int IntKind.i64 n, Value.slice a xs.length c] 26)) = W at *
    clear hW
    go_loopw [3] (fun i wr => ∃ k m : Nat, 1 ≤ k ∧ i = .int .i64 (k : Int) ∧ wr = W.drewN m ∧ (k ≤ xs.length ∨ k = 1) ∧ ∀ j, j < k → j < xs.length → pc (xs.getD j 0).toNat = pc (xs.getD 0 0).toNat) (fun i _ => xs.length - (intOf i).toNat)
    case atStart => exact ⟨1, 0, Nat.le_refl _, rfl, rfl, Or.inr rfl, fun j hj _ => by rw [show j = 0 by omega]⟩
    case round =>
      obtain ⟨k, m, hk1, rfl, rfl, hk, hq⟩ := hrel
      have HQ := Lib.hid hq
      clear hq
      obtain ⟨t0, t1, t2, _, _⟩ := HT.out
      by_cases hlt : k < xs.length
      · obtain ⟨b0, o, rfl, g⟩ := H.out k hlt
        obtain ⟨b1, o1, e1, g0⟩ := H.out 0 (by omega)
        cases e1
        obtain ⟨x, hx, hx64⟩ := isC_at HC.out k hlt
        obtain ⟨y, hy, hy64⟩ := isC_at HC.out 0 (by omega)
        obtain ⟨p, hp⟩ : ∃ p, pc x = p := ⟨_, rfl⟩
        obtain ⟨r, hr⟩ : ∃ r, pc y = r := ⟨_, rfl⟩
        rw [hx] at g
        rw [hy] at g0
        rw [Nat.add_zero] at g0
        have HX := Lib.hid hx
        have HY := Lib.hid hy
        have HP := Lib.hid hp
        have HR := Lib.hid hr
        have h0l : (0 : Int) < (xs.length : Int) := by omega
        have hkl : (k : Int) < (xs.length : Int) := by omega
        clear hx hy hp hr
        by_cases e : p = r
        · have hq : ((p : Int) != (r : Int)) = false := by simp; omega
          have HE := Lib.hid e
          clear e
          go_wp2_with fail
          go_quiet ((first | (go_at_call 51; with_reducible exact quietly (l2Size_b x p HP.out hx64 _)) | (go_at_call 51; with_reducible exact quietly (l2Size_b y r HR.out hy64 _))))
          go_wp2
          go_roundw
          case rel =>
            refine ⟨k + 1, _, by omega, by go_num, rfl, Or.inl (by omega), fun j hj hjl => ?_⟩
            by_cases e : j = k
            · subst e; rw [HX.out, HY.out]; show pc x = pc y; rw [HP.out, HR.out, HE.out]
            · exact HQ.out j (by omega) hjl
          case measure => simp [intOf]; omega
        · have hq : ((p : Int) != (r : Int)) = true := by simp; omega
          have HE : Hid (evenB xs = false) := by
            have : evenB xs = false := even_no hlt (by rw [HX.out, HY.out]; show pc x ≠ pc y; rw [HP.out, HR.out]; exact e)
            exact this
          clear e
          go_wp2_with fail
          go_quiet ((first | (go_at_call 51; with_reducible exact quietly (l2Size_b x p HP.out hx64 _)) | (go_at_call 51; with_reducible exact quietly (l2Size_b y r HR.out hy64 _))))
          go_wp2
          go_ret
          exact ⟨by rw [HF.out, HE.out]; rfl, (by first | exact bdrew HB0.out _ | exact bdrew (bdrew HB0.out _) _ | exact (bdrew HB0.out _).drew)⟩
      · have HE : Hid (evenB xs = true) := by
          have : evenB xs = true := even_yes fun j hj => HQ.out j (by omega) hj
          exact this
        go_wp2_with fail
        refine (specIsC_b n _ _ xs true HC.out hlen _ (Ints.drewN H.out m)).mono ?_
        rintro e w1 ⟨rfl, hb1⟩
        go_wp2
        go_ret
        exact ⟨by rw [HF.out, HE.out]; rfl, (bdrew HB0.out m).trans (hb1.mono (bdrew HB0.out m).size)⟩

end Go.Proofs.Ytlggglegoonapaa
