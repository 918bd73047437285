/-
  THE LAW ON JOINS: its helpers (written by genjoinlaw.py).
-/
import Derived.Test.YthobncbggaggjaaJg21
import Derived.Test.YthobncbggaggjaaWPartB
import Derived.IntWalk
namespace Go.Proofs.Ythobncbggaggjaa
open Go.RowKit
open Sets Lin Hom Join

theorem specFacesJ_len (n : Int) (a : Option Addr) (c : Nat) (xs : List Int) (hlen : xs.length ≤ 1099511627776) (z : Nat) (hz : (faces n xs).length = z) (w : World) (h : Ints w a xs) :
    Calls Try.prog 29 #[cx n (.slice a xs.length c)] w fun e w' => ∃ a' c', e = .returned (.slice a' z c') ∧ Below w.heap.size w w' := by
  subst hz
  refine (specFaces_any n a c xs hlen w h).mono ?_
  rintro e w' ⟨v, rfl, hO, hb⟩
  obtain ⟨pa, pc0, pg, rfl, _⟩ := OwnInts.ata hO hb.size
  exact ⟨_, _, rfl, hb⟩
theorem joinR_le (n m : Int) (xs ys : List Int) : (oL (joinO n m xs ys)).length ≤ 1099511627776 := Nat.le_trans (partL_le _ _ _) (by decide)
theorem disR_le (n m : Int) (xs ys : List Int) : (oL (disO n m xs ys)).length ≤ 1099511627776 := Nat.le_trans (partL_le _ _ _) (by decide)
theorem crossR_le (k : Int) : (oL (crossO k)).length ≤ 1099511627776 := Nat.le_trans (partL_le _ _ _) (by decide)
theorem conePts_lt (n : Int) (xs : List Int) : conePts n xs < 64 := by
  unfold conePts
  split
  · have : ∀ (l : List Int) (a : Nat), a < 64 → l.foldl (fun a x => a &&& x.toNat) a < 64 := by
      intro l
      induction l with
      | nil => intro a ha; exact ha
      | cons x l ih => intro a ha; rw [List.foldl_cons]; exact ih _ (Nat.lt_of_le_of_lt Nat.and_le_left ha)
    exact this _ _ (by decide)
  · decide
theorem cone_shift (q Q : Nat) (hq : q ≤ 5) (hQ : Q < 64) (h : Q &&& 2 ^ q = 2 ^ q) : (bits BinOp.and IntKind.i64 (Q : Int) (IntKind.i64.wrap (2 ^ min (IntKind.u64.wrap (q : Int)).toNat 64)) == 0) = false := by
  have e : (IntKind.u64.wrap (q : Int)).toNat = q := by rw [IntKind.wrap_u64]; omega
  have hp := Nat.pow_le_pow_right (n := 2) (by decide) (show q ≤ 5 by omega)
  have hp1 := Nat.two_pow_pos q
  rw [e, Nat.min_eq_left (by omega), show (2 : Int) ^ q = ((2 ^ q : Nat) : Int) by push_cast; rfl, IntWalk.i64_in _ (by omega), and_natJ Q (2 ^ q) hQ (by omega), h]
  rw [beq_eq_false_iff_ne]
  omega
theorem cone_shift0 (q : Nat) (hq : q ≤ 5) : (bits BinOp.and IntKind.i64 ((0 : Nat) : Int) (IntKind.i64.wrap (2 ^ min (IntKind.u64.wrap (q : Int)).toNat 64)) == 0) = true := by
  have e : (IntKind.u64.wrap (q : Int)).toNat = q := by rw [IntKind.wrap_u64]; omega
  have hp := Nat.pow_le_pow_right (n := 2) (by decide) (show q ≤ 5 by omega)
  have hp1 := Nat.two_pow_pos q
  rw [e, Nat.min_eq_left (by omega), show (2 : Int) ^ q = ((2 ^ q : Nat) : Int) by push_cast; rfl, IntWalk.i64_in _ (by omega), and_natJ 0 (2 ^ q) (by decide) (by omega), Nat.zero_and]
  rfl
theorem ints_tail {w : World} {g : Nat} {a : Option Addr} {L : List Int} (h : IntsAt w g a (0 :: L)) : a = some ⟨g, 0, none⟩ ∧ w.cell? ⟨g, 0, none⟩ = some (.int .i64 0) ∧ Ints w (some ⟨g, 1, none⟩) L := by
  have h0 := h 0 (by simp)
  refine ⟨h0.1, h0.2.2.1, fun j hj => ⟨g, 1, rfl, ?_⟩⟩
  have h1 := (h (j + 1) (by rw [List.length_cons]; omega)).2.2.1
  rw [Nat.add_comm 1 j]
  simpa [List.getD] using h1
theorem tail_facts (m c : Nat) (hc : m + 1 ≤ c) (h0 : 0 < m) (h7 : m ≤ 7) : wrap64 ((m : Int) + 1) = (m : Int) + 1 ∧ ¬ (c = 1) ∧ ¬ (c = 0) ∧ (1 : Int) ≤ (m : Int) + 1 ∧ ¬ ((m : Int) + 1 < 1) ∧ m + 1 ≤ c :=
  ⟨IntWalk.wrap64_in _ (by omega), by omega, by omega, by omega, by omega, hc⟩
theorem cross_three (k : Int) (h : inB 1 3 k = true) : k = 1 ∨ k = 2 ∨ k = 3 := by
  obtain ⟨h1, h3⟩ := (inB_iff _ _ _).1 h
  omega
theorem parts_someJ (ok : Bool) (n : Int) (q : Nat → Bool) : (partO ok n q).isSome = ok := by unfold partO; cases ok <;> rfl
theorem isC_nat1 (n : Int) (xs : List Int) : joinOk n 1 xs [1] = (isC n xs && decide (n + 1 ≤ 6)) := by unfold joinOk; rw [isC_one, Bool.and_true]
theorem isC_nat2 (n : Int) (xs : List Int) : joinOk n 2 xs [1, 2] = (isC n xs && decide (n + 2 ≤ 6)) := by unfold joinOk; rw [isC_two, Bool.and_true]

/-- A region of a function's text. -/
def regAt (n : Nat) : Go.Code → Option Go.Code
  | .region id ops d => if id = n then some (.region id ops d) else none
  | .seq a b => match regAt n a with
    | some c => some c
    | none => regAt n b
  | .cond _ a b => match regAt n a with
    | some c => some c
    | none => regAt n b
  | _ => none
noncomputable def joinsReg (n : Nat) : Go.Code := (Try.f3.body.bind (regAt n)).getD .skip

end Go.Proofs.Ythobncbggaggjaa
