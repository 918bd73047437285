/-
  THE LAW ON MISSING SETS: its helpers.
-/
import Derived.Test.YtfnpkglijknnoaaJg8
import Derived.Test.YtfnpkglijknnoaaWPartB
import Derived.IntWalk
namespace Go.Proofs.Ytfnpkglijknnoaa
open Go.RowKit
open Sets

theorem getD_eq {xs ys : List Int} (hl : xs.length = ys.length) (h : ∀ j, j < xs.length → xs.getD j 0 = ys.getD j 0) : xs = ys := by
  apply List.ext_getElem hl
  intro j h1 h2
  have := h j h1
  rw [List.getD, List.getD, List.getElem?_eq_getElem h1, List.getElem?_eq_getElem h2] at this
  exact this

set_option maxRecDepth 100000 in
set_option maxHeartbeats 2000000 in
theorem sameInt_eq (a1 a2 : Option Addr) (c1 c2 : Nat) (xs ys : List Int) (hlen : xs.length ≤ 1099511627776) (b : Bool) (hb : b = true ↔ xs = ys) (w : World) (h1 : Ints w a1 xs) (h2 : Ints w a2 ys) :
    Calls Try.prog 19 #[.slice a1 xs.length c1, .slice a2 ys.length c2] w fun e w' => e = .returned (.bool b) ∧ Below w.heap.size w w' := by
  by_cases hl : xs.length = ys.length
  · have H1 := Lib.hid h1
    have H2 := Lib.hid h2
    have HB := Lib.hid hb
    have HL := Lib.hid hl
    rw [← hl]
    clear h1 h2 hb
    go_enter Try.func19, Try.ntmps19
    clear hl
    go_wp2
    go_loopw [5] (fun i wr => ∃ k n : Nat, k ≤ xs.length ∧ i = .int .i64 k ∧ (∀ j, j < k → xs.getD j 0 = ys.getD j 0) ∧ wr = w.drewN n) (fun i _ => xs.length - (intOf i).toNat)
    case atStart => exact ⟨0, 0, Nat.zero_le _, rfl, fun j hj => absurd hj (Nat.not_lt_zero _), rfl⟩
    case round =>
      obtain ⟨k, n, hk, rfl, hq, rfl⟩ := hrel
      have HQ := Lib.hid hq
      clear hq
      by_cases hlt : k < xs.length
      · obtain ⟨b1, o1, rfl, g1⟩ := H1.out k hlt
        obtain ⟨b2, o2, rfl, g2⟩ := H2.out k (by rw [← HL.out]; exact hlt)
        obtain ⟨x, hx⟩ : ∃ x, xs.getD k 0 = x := ⟨_, rfl⟩
        obtain ⟨y, hy⟩ : ∃ y, ys.getD k 0 = y := ⟨_, rfl⟩
        rw [hx] at g1
        rw [hy] at g2
        have HX := Lib.hid hx
        have HY := Lib.hid hy
        clear hx hy
        by_cases hxy : x = y
        · subst hxy
          go_wp2
          go_quiet (fail)
          go_wp2
          go_roundw
          case rel =>
            refine ⟨k + 1, n + nq, by omega, by go_num, fun j hj => ?_, rfl⟩
            by_cases e : j = k
            · subst e; rw [HX.out, HY.out]
            · exact HQ.out j (by omega)
          case measure => simp [intOf]; omega
        · have hne : (x == y) = false := by rw [beq_eq_false_iff_ne]; exact hxy
          have HR : Hid (b = false) := by
            have : b = false := by
              rw [Bool.eq_false_iff]; intro e
              have := HB.out.1 e
              rw [this, HY.out] at HX
              exact hxy HX.out.symm
            exact this
          go_wp2
          go_quiet (fail)
          go_wp2
          go_ret
          exact ⟨by rw [HR.out]; rfl, (Mem.below_drewN w n).trans (show Below w.heap.size (w.drewN n) ((w.drewN n).drewN nq) from Mem.below_drewN (w.drewN n) nq)⟩
      · have HR : Hid (b = true) := by
          have : b = true := HB.out.2 (getD_eq HL.out fun j hj => HQ.out j (by omega))
          exact this
        go_wp2
        go_ret
        exact ⟨by rw [HR.out]; rfl, Mem.below_drewN w n⟩
  · have hd : ((xs.length : Int) == (ys.length : Int)) = false := by rw [beq_eq_false_iff_ne]; omega
    have HR : Hid (b = false) := by
      have : b = false := by
        rw [Bool.eq_false_iff]; intro e
        exact hl (by rw [hb.1 e])
      exact this
    clear hb h1 h2
    go_enter Try.func19, Try.ntmps19
    go_wp2
    go_ret
    exact ⟨by rw [HR.out]; rfl, Below.refl _ _⟩

set_option maxRecDepth 100000 in
set_option maxHeartbeats 2000000 in
theorem sameCx_eq (n : Int) (a1 a2 : Option Addr) (c1 c2 : Nat) (xs ys : List Int) (hlen : xs.length ≤ 1099511627776) (b : Bool) (hb : b = true ↔ xs = ys) (w : World) (h1 : Ints w a1 xs) (h2 : Ints w a2 ys) :
    Calls Try.prog 21 #[cx n (.slice a1 xs.length c1), cx n (.slice a2 ys.length c2)] w fun e w' => e = .returned (.bool b) ∧ Below w.heap.size w w' := by
  have H1 := Lib.hid h1
  have H2 := Lib.hid h2
  have HB := Lib.hid hb
  clear h1 h2 hb
  go_enter Try.func21, Try.ntmps21
  go_wp2_with fail
  refine (sameInt_eq _ _ _ _ xs ys hlen b HB.out _ (H1.out.keeps (((Below.refl _ _).alloc (Nat.le_refl _) _).alloc (by simp) _)) (H2.out.keeps (((Below.refl _ _).alloc (Nat.le_refl _) _).alloc (by simp) _))).mono ?_
  rintro e w1 ⟨rfl, hb1⟩
  go_wp2
  go_ret
  exact ⟨rfl, (((Below.refl _ _).alloc (Nat.le_refl _) _).alloc (by simp) _).trans (hb1.mono (by simp; omega))⟩

theorem specSizeM_b (x s : Int) (hs : sizeZ x = s) (w : World) : Calls Try.prog 30 #[.int .i64 x] w fun e w' => e = .returned (.int .i64 s) ∧ w = w' := by
  subst hs; exact specSizeOf_any x w

theorem specSizeMB (t p : Nat) (hp : pc t = p) (ht : t < 64) (w : World) : Calls Try.prog 30 #[.int .i64 (t : Int)] w fun e w' => e = .returned (.int .i64 (p : Int)) ∧ Below w.heap.size w w' := by
  refine (specSizeM_b (t : Int) (p : Int) (by rw [sizeZ_nat t ht, hp]) w).mono ?_
  rintro e w' ⟨rfl, rfl⟩
  exact ⟨rfl, Below.refl _ _⟩

theorem parts_someM (ok : Bool) (n : Int) (q : Nat → Bool) : (partO ok n q).isSome = ok := by unfold partO; cases ok <;> rfl

/-- A region of a function's text. -/
def regAt (n : Nat) : Go.Code → Option Go.Code
  | .region id ops d => if id = n then some (.region id ops d) else none
  | .seq a b => match regAt n a with
    | some c => some c
    | none => regAt n b
  | .cond _ a b => match regAt n a with
    | some c => some c
    | none => regAt n b
  | .block _ a => regAt n a
  | .loop a => regAt n a
  | _ => none

noncomputable def missReg (n : Nat) : Go.Code := (Try.f3.body.bind (regAt n)).getD .skip

end Go.Proofs.Ytfnpkglijknnoaa
