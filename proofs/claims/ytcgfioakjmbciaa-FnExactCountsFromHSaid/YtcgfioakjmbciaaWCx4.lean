/-
  WALKS: what is a face: impl's and spec's functions.
-/
import Derived.Test.YtcgfioakjmbciaaWCx3
import Derived.Test.YtcgfioakjmbciaaWWhereB
import Derived.Test.YtcgfioakjmbciaaWBest
import Derived.Test.YtcgfioakjmbciaaWSpecBest
namespace Go.Proofs.Ytcgfioakjmbciaa
open Go.RowKit
open Sets

/-! ### bits -/

theorem wrap_zero (n : Nat) (h : n < 18446744073709551616) (e : IntKind.i64.wrap (n : Int) = 0) : n = 0 := by
  simp [IntKind.wrap, IntKind.bits, IntKind.signed] at e
  split at e <;> omega
theorem andNot_ok (x y : Int) (hx : -9223372036854775808 ≤ x ∧ x ≤ 9223372036854775807) (hy : okZ y = true) (h : bits .andNot .i64 x y = 0) : okZ x = true := by
  obtain ⟨t, rfl, ht⟩ := okZ_cast y hy
  have h' : IntKind.i64.wrap ((BitVec.ofInt 64 x &&& ~~~BitVec.ofInt 64 (t : Int)).toNat : Int) = 0 := h
  have h0 := wrap_zero _ (BitVec.isLt _) h'
  have h1 : BitVec.ofInt 64 x &&& ~~~BitVec.ofInt 64 (t : Int) = 0#64 := BitVec.eq_of_toNat_eq (by rw [h0]; rfl)
  have h2 : BitVec.ofInt 64 x = BitVec.ofInt 64 x &&& BitVec.ofInt 64 (t : Int) := by
    apply BitVec.eq_of_getLsbD_eq
    intro i hi
    have h3 := congrArg (fun b => b.getLsbD i) h1
    simp only [BitVec.getLsbD_and, BitVec.getLsbD_not, BitVec.getLsbD_zero, hi, decide_true, Bool.true_and] at h3
    rw [BitVec.getLsbD_and]
    revert h3
    cases (BitVec.ofInt 64 x).getLsbD i <;> cases (BitVec.ofInt 64 (t : Int)).getLsbD i <;> simp
  have h4 := congrArg BitVec.toNat h2
  rw [BitVec.toNat_and] at h4
  have h5 : (BitVec.ofInt 64 (t : Int)).toNat = t := by simp; omega
  have h6 := Nat.and_le_right (n := (BitVec.ofInt 64 x).toNat) (m := (BitVec.ofInt 64 (t : Int)).toNat)
  rw [← h4, h5] at h6
  have h7 : (BitVec.ofInt 64 x).toNat = (x % 18446744073709551616).toNat := by simp [BitVec.toNat_ofInt]
  rw [h7] at h6
  rw [okZ_iff]
  omega

/-- The number is a set and a subset. -/
def subZ (x y : Int) : Bool := okZ x && sub x.toNat y.toNat

theorem andNot_subZ (x y : Int) (hx : -9223372036854775808 ≤ x ∧ x ≤ 9223372036854775807) (hy : okZ y = true) : (bits BinOp.andNot IntKind.i64 x y == 0) = subZ x y := by
  unfold subZ
  cases h : okZ x with
  | true =>
    obtain ⟨s, rfl, hs⟩ := okZ_cast x h
    obtain ⟨t, rfl, ht⟩ := okZ_cast y hy
    rw [and_sub s t hs ht]; rfl
  | false =>
    rw [Bool.false_and, beq_eq_false_iff_ne]
    intro e
    rw [andNot_ok x y hx hy e] at h; cases h

set_option maxRecDepth 100000 in
theorem isSubset_z (x y : Int) (hx : -9223372036854775808 ≤ x ∧ x ≤ 9223372036854775807) (hy : okZ y = true) (w : World) : Calls Try.prog 86 #[.int .i64 x, .int .i64 y] w fun e w' => e = .returned (.bool (subZ x y)) ∧ w = w' := by
  have h := andNot_subZ x y hx hy
  go_enter Try.func86, Try.ntmps86
  go_wp2
  go_ret
  exact ⟨rfl, rfl⟩

/-! ### is it in a facet? -/

/-- Is the number a set in a facet? -/
def inFZ (xs : List Int) (s : Int) : Bool := xs.any (subZ s)
theorem inFZ_ok (xs : List Int) (s : Int) : inFZ xs s = (okZ s && inF xs s.toNat) := by
  unfold inFZ inF subZ
  cases okZ s <;> simp
theorem inFZ_nat (xs : List Int) (s : Nat) (hs : s < 64) : inFZ xs (s : Int) = inF xs s := by
  rw [inFZ_ok, (okZ_nat s).2 hs]; rfl
theorem hasF_eq (n : Int) (xs : List Int) (s : Int) : hasF n xs s = (isC n xs && inFZ xs s) := by unfold hasF; rw [inFZ_ok, Bool.and_assoc]

set_option maxRecDepth 100000 in
theorem inFacet1_asks (s : Int) (hs : -9223372036854775808 ≤ s ∧ s ≤ 9223372036854775807) (xs : List Int) (hok : allOk xs = true) (B : Nat) (w : World) (hB : B < w.heap.size) (hc : w.cell? ⟨B, 0, none⟩ = some (.int .i64 s)) :
    Asks 85 #[.pointer (some ⟨B, 0, none⟩)] (subZ s) xs w := by
  intro W j hj hb
  have hf := allOk_at xs hok j hj
  generalize xs.getD j 0 = f at *
  have d1 : W.cell? ⟨B, 0, none⟩ = some (.int .i64 s) := (hb.cell (p := ⟨B, 0, none⟩) hB).trans hc
  show Calls Try.prog 85 #[.int .i64 f, .pointer (some ⟨B, 0, none⟩)] W _
  have HS := Lib.hid hs
  have HF := Lib.hid hf
  clear hc hb hok hj hs hf
  go_enter Try.func85, Try.ntmps85
  go_wp2_with fail
  refine (isSubset_z s f HS.out HF.out _).mono ?_
  rintro e w' ⟨rfl, rfl⟩
  go_wp2
  go_ret
  exact ⟨rfl, 0, rfl⟩

set_option maxRecDepth 100000 in
set_option maxHeartbeats 2000000 in
theorem inFacet_any (n : Int) (a : Option Addr) (c : Nat) (xs : List Int) (hok : allOk xs = true) (hlen : xs.length ≤ 1099511627776) (s : Int) (hs : -9223372036854775808 ≤ s ∧ s ≤ 9223372036854775807) (b : Bool) (hb : inFZ xs s = b) (w : World) (h : Ints w a xs) :
    Calls Try.prog 74 #[cx n (.slice a xs.length c), .int .i64 s] w fun e w' => e = .returned (.bool b) ∧ Below w.heap.size w w' := by
  have hb0 : Below w.heap.size w ((w.alloc (Obj.cells #[Value.int IntKind.i64 n, Value.slice a xs.length c] 26)).alloc (Obj.cells #[Value.int IntKind.i64 s] 3)) := ((Below.refl _ _).alloc (Nat.le_refl _) _).alloc (by simp) _
  have eg : ∀ args w, (callFunc 85 args).run Try.prog w = .ok (.enter 85 args) w := enters_of Try.func85 (by kernel_rfl) rfl
  have hc := contains_bel 85 #[.pointer (some ⟨w.heap.size + 1, 0, none⟩)] (subZ s) b a c xs hb _ eg (inFacet1_asks s hs xs hok (w.heap.size + 1) _ (by simp) (by simp)) hlen (h.keeps hb0)
  have HC := Lib.hid hc
  have HB0 := Lib.hid hb0
  clear hc eg h hb hok hb0
  go_enter Try.func74, Try.ntmps74
  go_wp2_with fail
  refine HC.out.mono ?_
  rintro e w1 ⟨rfl, hb1⟩
  go_wp2
  go_ret
  exact ⟨rfl, HB0.out.trans (hb1.mono (by simp; omega))⟩

set_option maxRecDepth 100000 in
set_option maxHeartbeats 2000000 in
theorem faces1_pred (n : Int) (a : Option Addr) (c : Nat) (xs : List Int) (hok : allOk xs = true) (hlen : xs.length ≤ 1099511627776) (B : Nat) (w : World) (h2 : Two w B (.int .i64 n) (.slice a xs.length c)) (h : Ints w a xs) :
    PredB 73 #[.pointer (some ⟨B, 0, none⟩)] (inF xs) w := by
  intro W s hs hb
  have hc := inFacet_any n a c xs hok hlen (s : Int) (by omega) (inF xs s) (inFZ_nat xs s hs) W (h.keeps hb)
  obtain ⟨t0, t1, t2, _, _⟩ := h2.keeps hb
  show Calls Try.prog 73 #[.int .i64 (s : Int), .pointer (some ⟨B, 0, none⟩)] W _
  have HC := Lib.hid hc
  clear hc h2 hb h hok
  go_enter Try.func73, Try.ntmps73
  go_wp2_with fail
  refine HC.out.mono ?_
  rintro e w1 ⟨rfl, hb1⟩
  go_wp2
  go_ret
  exact ⟨rfl, hb1⟩

theorem implIsC_b (n : Int) (a : Option Addr) (c : Nat) (xs : List Int) (hcap : xs.length ≤ c) (b : Bool) (hb : isC n xs = b) (hlen : xs.length ≤ 1099511627776) (w : World) (h : Ints w a xs) :
    Calls Try.prog 71 #[cx n (.slice a xs.length c)] w fun e w' => e = .returned (.bool b) ∧ Below w.heap.size w w' := by
  subst hb; exact implIsC_any n a c xs hcap hlen w h
theorem specIsC_b (n : Int) (a : Option Addr) (c : Nat) (xs : List Int) (b : Bool) (hb : isC n xs = b) (hlen : xs.length ≤ 1099511627776) (w : World) (h : Ints w a xs) :
    Calls Try.prog 68 #[cx n (.slice a xs.length c)] w fun e w' => e = .returned (.bool b) ∧ Below w.heap.size w w' := by
  subst hb; exact specIsC_any n a c xs hlen w h

set_option maxRecDepth 100000 in
set_option maxHeartbeats 4000000 in
theorem implFaces_any (n : Int) (a : Option Addr) (c : Nat) (xs : List Int) (hcap : xs.length ≤ c) (hlen : xs.length ≤ 1099511627776) (w : World) (h : Ints w a xs) :
    Calls Try.prog 57 #[cx n (.slice a xs.length c)] w fun e w' => ∃ v, e = .returned v ∧ OwnInts w' w.heap.size v (faces n xs) ∧ Below w.heap.size w w' := by
  have hb0 : Below w.heap.size w (w.alloc (Obj.cells #[Value.int IntKind.i64 n, Value.slice a xs.length c] 26)) := (Below.refl _ _).alloc (Nat.le_refl _) _
  have htwo : Two (w.alloc (Obj.cells #[Value.int IntKind.i64 n, Value.slice a xs.length c] 26)) w.heap.size (.int .i64 n) (.slice a xs.length c) := Two.new _ _ _ _
  have H := Lib.hid (h.keeps hb0)
  have HB0 := Lib.hid hb0
  have HT := Lib.hid htwo
  clear h hb0 htwo
  cases hC : isC n xs with
  | false =>
    have HC := Lib.hid hC
    have HF : Hid (faces n xs = []) := by
      have : faces n xs = [] := by unfold faces; rw [if_neg (by rw [hC]; simp)]
      exact this
    clear hC
    go_enter Try.func57, Try.ntmps57
    go_wp2_with fail
    refine (implIsC_b n _ _ xs hcap false HC.out hlen _ H.out).mono ?_
    rintro e w1 ⟨rfl, hb1⟩
    go_wp2
    go_ret
    exact ⟨_, rfl, by rw [HF.out]; exact OwnInts.nil _ _, HB0.out.trans (hb1.mono (by simp))⟩
  | true =>
    have HC := Lib.hid hC
    have HF : Hid (faces n xs = ord (inF xs)) := by
      have : faces n xs = ord (inF xs) := by unfold faces; rw [if_pos hC]
      exact this
    clear hC
    have eg : ∀ args w, (callFunc 73 args).run Try.prog w = .ok (.enter 73 args) w := enters_of Try.func73 (by kernel_rfl) rfl
    have EG := Lib.hid eg
    clear eg
    go_enter Try.func57, Try.ntmps57
    go_wp2_with fail
    refine (implIsC_b n _ _ xs hcap true HC.out hlen _ H.out).mono ?_
    rintro e w1 ⟨rfl, hb1⟩
    have HB1 : Hid (Below w.heap.size w w1) := HB0.out.trans (hb1.mono (by simp))
    have HP := Lib.hid (faces1_pred n a c xs (isC_ok HC.out) hlen w.heap.size w1 (HT.out.keeps hb1) (H.out.keeps hb1))
    clear hb1
    go_wp2_with fail
    refine (setsWhere_bel 73 _ _ _ EG.out HP.out).mono ?_
    rintro e w2 ⟨v, rfl, hO, hb2⟩
    have HO := Lib.hid hO
    have hsz := HB1.out.size
    clear hO
    go_wp2
    go_ret
    exact ⟨v, rfl, by rw [HF.out]; exact HO.out.lower hsz, HB1.out.trans (hb2.mono hsz)⟩

end Go.Proofs.Ytcgfioakjmbciaa
