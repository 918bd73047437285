/-
  TEXTS of one claim, put together: WMatS4, WMatJ, WPartI, Hom2.
-/
import Derived.Test.YthjgpbcdcgagfaaWMatIB
import Derived.Test.YthjgpbcdcgagfaaJg17
import Derived.Test.YthjgpbcdcgagfaaJg7
import Derived.Test.YthjgpbcdcgagfaaWMatS3
import Derived.Test.YthjgpbcdcgagfaaJg3
import Derived.Test.YthjgpbcdcgagfaaJg11
import Derived.Test.YthjgpbcdcgagfaaJg2
import Derived.Deep.RegionHeld3
import Derived.Deep.RegionLaw
import Derived.Deep.AppendLies
import Derived.Test.YthjgpbcdcgagfaaJg4
/-! WALKS of chapter 13 (spec): BorderMatrix. -/

namespace Go.Proofs.Ythjgpbcdcgagfaa
open Go.RowKit
open Sets

theorem in_yes {k : Int} (h1 : 1 ≤ k) (h6 : k ≤ 6) : inB 1 6 k = true := decide_eq_true ⟨h1, h6⟩
theorem in_not {k : Int} (h : ¬(1 ≤ k ∧ k ≤ 6)) : inB 1 6 k = false := decide_eq_false h

set_option maxRecDepth 100000 in
set_option maxHeartbeats 4000000 in
theorem specBordMx_any (n : Int) (a : Option Addr) (c : Nat) (xs : List Int) (hlen : xs.length ≤ 1099511627776) (k : Int) (w : World) (h : Ints w a xs) :
    Calls Try.prog 23 #[cx n (.slice a xs.length c), .int .i64 k] w fun e w' => ∃ v R, e = .returned v ∧ OwnMx w' w.heap.size v R (bordZ n xs k) ∧ Below w.heap.size w w' := by
  have hb0 : Below w.heap.size w (w.alloc (Obj.cells #[Value.int IntKind.i64 n, Value.slice a xs.length c] 26)) := (Below.refl _ _).alloc (Nat.le_refl _) _
  have htwo := Two.new w (.int .i64 n) (.slice a xs.length c) 26
  have H := Lib.hid (h.keeps hb0)
  have HB0 := Lib.hid hb0
  have HT := Lib.hid htwo
  have HNO : Hid (¬(isC n xs = true ∧ 1 ≤ k ∧ k ≤ 6) → bordZ n xs k = []) := by
    have : ¬(isC n xs = true ∧ 1 ≤ k ∧ k ≤ 6) → bordZ n xs k = [] := fun h => if_neg h
    exact this
  have HYES : Hid (isC n xs = true ∧ 1 ≤ k ∧ k ≤ 6 → bordZ n xs k = borM (sized (k - 1) (faces n xs)) (sized k (faces n xs))) := by
    have : isC n xs = true ∧ 1 ≤ k ∧ k ≤ 6 → bordZ n xs k = borM (sized (k - 1) (faces n xs)) (sized k (faces n xs)) := fun h => if_pos h
    exact this
  obtain ⟨Z, hZ⟩ : ∃ Z, bordZ n xs k = Z := ⟨_, rfl⟩
  rw [hZ] at HNO HYES ⊢
  have HL := Lib.hid hlen
  clear h hb0 htwo hZ
  go_enter Try.func23, Try.ntmps23
  obtain ⟨t0, t1, t2, t3, t4⟩ := HT.out
  go_wp2_with fail
  refine (specIsC_any n _ _ xs hlen _ H.out).mono ?_
  rintro e w1 ⟨rfl, hb1⟩
  have HB1 : Hid (Below w.heap.size w w1) := HB0.out.trans (hb1.mono HB0.out.size)
  have HT1 := Lib.hid (HT.out.keeps hb1)
  have H1 := Lib.hid (H.out.keeps hb1)
  have hz1 := HB1.out.size
  clear hb1 t0 t1 t2 t3 t4
  cases hc : isC n xs with
  | false =>
    have E := Lib.hid (HNO.out (by rw [hc]; simp))
    clear hc
    go_wp2
    go_ret
    exact ⟨_, [], rfl, by rw [E.out]; exact OwnMx.lit _ _ hz1, HB1.out.alloc hz1 _⟩
  | true =>
    have HC := Lib.hid hc
    clear hc
    by_cases hk : 1 ≤ k ∧ k ≤ 6
    · have E := Lib.hid (HYES.out ⟨HC.out, hk⟩)
      have HIN := Lib.hid (fun W => in_b k 1 6 true (in_yes hk.1 hk.2) W)
      have HBM := Lib.hid (l13Border_any n a c xs HL.out k (by omega) (by omega) w1 H1.out)
      clear hk
      go_wp2_with fail
      refine (HIN.out _).mono ?_
      rintro e w2 ⟨rfl, rfl⟩
      obtain ⟨t0, t1, t2, t3, t4⟩ := HT1.out
      go_wp2_with fail
      refine HBM.out.mono ?_
      rintro e w2 ⟨v, R, rfl, hO, hb2⟩
      have HO : Hid (OwnMx w2 w.heap.size v R Z) := by
        have : OwnMx w2 w.heap.size v R Z := by rw [E.out]; exact hO.lower hz1
        exact this
      have HB2 : Hid (Below w.heap.size w w2) := HB1.out.trans (hb2.mono hz1)
      clear hO hb2
      go_wp2
      go_ret
      exact ⟨v, R, rfl, HO.out, HB2.out⟩
    · have E := Lib.hid (HNO.out (fun h => hk h.2))
      have HIN := Lib.hid (fun W => in_b k 1 6 false (in_not hk) W)
      clear hk
      go_wp2_with fail
      refine (HIN.out _).mono ?_
      rintro e w2 ⟨rfl, rfl⟩
      go_wp2
      go_ret
      exact ⟨_, [], rfl, by rw [E.out]; exact OwnMx.lit _ _ hz1, HB1.out.alloc hz1 _⟩

end Go.Proofs.Ythjgpbcdcgagfaa

/-! Chapter 13: how great the results are; contracts as the exact laws' walks take them. -/

namespace Go.Proofs.Ythjgpbcdcgagfaa
open Go.RowKit
open Sets

theorem same_below {f : FuncId} {args : Array Value} {w : World} {v : Ending} (h : Calls Try.prog f args w fun e w' => e = v ∧ w = w') : Calls Try.prog f args w fun e w' => e = v ∧ Below w.heap.size w w' :=
  h.mono fun _ _ ⟨h1, h2⟩ => ⟨h1, h2 ▸ Below.refl _ _⟩
theorem rows_le {M : Lin.Mat} (h : M.length + offM M M.length ≤ 1048576) : M.length ≤ 1099511627776 ∧ ∀ i, i < M.length → (Lin.row M i).length ≤ 1099511627776 :=
  ⟨by omega, fun i hi => by have := offM_row M i hi; omega⟩
theorem turnZ_off {M : Lin.Mat} (h : M.length + offM M M.length ≤ 1048576) : (turnZ M).length ≤ 1099511627776 ∧ 1 + offM (turnZ M) (turnZ M).length ≤ 1099511627776 := by
  unfold turnZ
  split
  · have hw : Lin.wid M + M.length ≤ 1048576 := by
      rcases Nat.eq_zero_or_pos M.length with e | e
      · rw [List.eq_nil_of_length_eq_zero e]; decide
      · have : Lin.wid M ≤ offM M M.length := offM_row M 0 e
        omega
    have h1 := Lin.turnM_length (Lin.wid M) M
    have h2 := offM_same (k := M.length) (Lin.turnM (Lin.wid M) M) (fun r hr => Nat.le_of_eq (Lin.turnM_wide _ _ r hr))
    rw [h1] at h2 ⊢
    have h3 : Lin.wid M * M.length ≤ 1048576 * 1048575 := by
      rcases Nat.eq_zero_or_pos (Lin.wid M) with e | e
      · rw [e]; omega
      · exact Nat.mul_le_mul (by omega) (by omega)
    omega
  · exact ⟨by simp, by simp [offM]⟩
theorem timesZ_off (A B : Lin.Mat) : (timesZ A B).length ≤ 1099511627776 ∧ 1 + offM (timesZ A B) (timesZ A B).length ≤ 1099511627776 := by
  unfold timesZ
  split
  case isTrue h =>
    unfold timesOk fitB at h
    rw [Bool.and_eq_true, Bool.and_eq_true] at h
    obtain ⟨⟨q1, q2⟩, h⟩ := h
    rw [Bool.and_eq_true, Bool.and_eq_true] at h
    obtain ⟨⟨q3, q4⟩, -⟩ := h
    have a1 := (small_at q1 q2).1
    have b2 := (small_at q3 q4).2.1
    have h1 := Lin.timesM_length (Lin.wid B) A B
    have h2 := offM_same (k := 30) (Lin.timesM (Lin.wid B) A B) (fun r hr => by rw [Lin.timesM_wide _ _ _ r hr]; exact b2)
    rw [h1] at h2 ⊢
    omega
  · exact ⟨by simp, by simp [offM]⟩
theorem bordZ_off (n : Int) (xs : List Int) (k : Int) : (bordZ n xs k).length ≤ 1099511627776 ∧ 1 + offM (bordZ n xs k) (bordZ n xs k).length ≤ 1099511627776 := by
  unfold bordZ
  split
  · have h1 := borM_length (sized (k - 1) (faces n xs)) (sized k (faces n xs))
    have l1 := sized_le n xs (k - 1)
    have l2 := sized_le n xs k
    have h2 := offM_same (k := 64) (borM (sized (k - 1) (faces n xs)) (sized k (faces n xs))) (fun r hr => by
      unfold borM at hr
      obtain ⟨t, _, rfl⟩ := List.mem_map.1 hr
      rw [borR_length]; exact l2)
    rw [h1] at h2 ⊢
    omega
  · exact ⟨by simp, by simp [offM]⟩
theorem mb_has {f : FuncId} {args : Array Value} {w : World} {M : Lin.Mat} {b : Bool} (h : Calls Try.prog f args w fun e w' => ∃ v R, e = .returned (.tuple #[v, .bool b]) ∧ OwnMx w' w.heap.size v R M ∧ Below w.heap.size w w') :
    Calls Try.prog f args w fun e w' => ∃ v, e = .returned (.tuple #[v, .bool b]) ∧ HasMx w' w.heap.size v M ∧ Below w.heap.size w w' :=
  h.mono fun _ _ ⟨v, _, he, ho, hb⟩ => ⟨v, he, ho.has, hb⟩

end Go.Proofs.Ythjgpbcdcgagfaa

/-! WALKS: impl's chapter 5: parts of a complex (written by genparti.py). -/

namespace Go.Proofs.Ythjgpbcdcgagfaa
open Go.RowKit
open Sets

theorem own_has_cx {f : FuncId} {args : Array Value} {w : World} {n : Int} {L : List Int} {b : Bool} (h : Calls Try.prog f args w fun e w' => ∃ v, e = .returned (.tuple #[cx n v, .bool b]) ∧ OwnInts w' w.heap.size v L ∧ Below w.heap.size w w') :
    Calls Try.prog f args w fun e w' => ∃ v, e = .returned (.tuple #[cx n v, .bool b]) ∧ HasInts w' w.heap.size v L ∧ Below w.heap.size w w' :=
  h.mono fun _ _ ⟨v, he, ho, hb⟩ => ⟨v, he, ho.has hb.size, hb⟩
theorem pO_no {ok : Bool} {n : Int} {q : Nat → Bool} (h : ok = false) : partO ok n q = none := by unfold partO; rw [if_neg (by rw [h]; simp)]
theorem pO_yes {ok : Bool} {n : Int} {q : Nat → Bool} (h : ok = true) : partO ok n q = some (n, maxQ q) := by unfold partO; rw [if_pos h]
theorem part_le (ok : Bool) (n : Int) (q : Nat → Bool) : (oL (partO ok n q)).length ≤ 1048576 := by
  refine Nat.le_trans (m := 64) ?_ (by decide)
  cases ok
  · rw [pO_no rfl]; exact Nat.zero_le _
  · rw [pO_yes rfl]; exact maxQ_le q

/-- A family of sets of n points that holds with a set all of its subsets, made by MakeComplex. -/
def Fam (n : Int) (q : Nat → Bool) : Prop := Down q ∧ ∀ t, t < 64 → q t = true → setB n (t : Int) = true
theorem made_ord {n : Int} {q : Nat → Bool} (hn : inB 1 6 n = true) (h : Fam n q) : made n (ord q) = some (n, maxQ q) := by
  rw [made_yes ((setsOf_iff _ _).2 ⟨hn, ord_le _, fun x hx => ?_⟩), maximal_ord q h.1]
  obtain ⟨s, rfl, hs, hq⟩ := (mem_ord q x).1 hx
  exact h.2 s hs hq
theorem and_natP : ∀ a b : Nat, a < 64 → b < 64 → bits BinOp.and IntKind.i64 (a : Int) (b : Int) = ((a &&& b : Nat) : Int) := by
  refine fin64b ?_
  decide +kernel
theorem or_natP : ∀ a b : Nat, a < 64 → b < 64 → bits BinOp.or IntKind.i64 (a : Int) (b : Int) = ((a ||| b : Nat) : Int) := by
  refine fin64b ?_
  decide +kernel
theorem or_lt64 {s t : Nat} (hs : s < 64) (ht : t < 64) : s ||| t < 64 := Nat.or_lt_two_pow (n := 6) hs ht

/-! ### a family by its function value -/

set_option maxRecDepth 100000 in
set_option maxHeartbeats 2000000 in
theorem partWhere_any (n : Int) (g : Nat) (lb : Array Value) (q : Nat → Bool) (w : World) (hn : inB 1 6 n = true) (hf : Fam n q) (eg : ∀ args w, (callFunc g args).run Try.prog w = .ok (.enter g args) w) (hp : ∀ W : World, Below w.heap.size w W → PredB g lb q W) :
    Calls Try.prog 80 #[.int .i64 n, .func (.func g) #[] lb] w fun e w' => ∃ v, e = .returned (.tuple #[cx n v, .bool true]) ∧ OwnInts w' w.heap.size v (maxQ q) ∧ Below w.heap.size w w' := by
  have hb0 : Below w.heap.size w (w.alloc (.cells #[.int .i64 0, .slice none 0 0] 26)) := (Below.refl _ _).alloc (Nat.le_refl _) _
  have htr := Two.new w (.int .i64 0) (.slice none 0 0) 26
  have HP := Lib.hid (hp _ hb0)
  have HM := Lib.hid (made_ord hn hf)
  have HQ := Lib.hid (setsWhere_bel g lb q)
  have EG := Lib.hid eg
  have HB0 := Lib.hid hb0
  have TR := Lib.hid htr
  clear hb0 htr eg hp hf hn
  go_enter Try.func80, Try.ntmps80
  go_wp2_with fail
  refine (HQ.out _ EG.out HP.out).mono ?_
  rintro e w1 ⟨v, rfl, hO1, hb1⟩
  obtain ⟨a1, c1, g1, rfl, hc1, hg1, hr1, _⟩ := OwnInts.ata hO1 hb1.size
  have hl1 : (ord q).length ≤ 1099511627776 := Nat.le_trans (ord_le _) (by decide)
  have R1 := Lib.hid hr1
  have HB1 : Hid (Below w.heap.size w w1) := HB0.out.trans (hb1.mono HB0.out.size)
  have TR1 := Lib.hid (TR.out.keeps hb1)
  have hz1 := HB1.out.size
  clear hO1 hr1 hb1 hg1 hc1
  go_wp2_with fail
  refine (implMake_any n _ _ (ord q) hl1 _ R1.out.ints).mono ?_
  rintro e w2 ⟨v, he, hO2, hb2⟩
  rw [HM.out] at he hO2
  replace he : e = .returned (.tuple #[cx n v, .bool true]) := he
  subst he
  obtain ⟨a2, c2, g2, hv2, hc2, hg2, hr2, _⟩ := OwnInts.ata hO2 hb2.size
  replace hv2 : v = .slice a2 (maxQ q).length c2 := hv2
  subst hv2
  obtain ⟨r0, r1, r2, r3, r4⟩ := TR1.out.keeps hb2
  have hz0 := TR1.out.1
  have HO2 : Hid (OwnInts w2 w1.heap.size (.slice a2 (maxQ q).length c2) (maxQ q)) := hO2
  have HB2 : Hid (Below w.heap.size w w2) := HB1.out.trans (hb2.mono hz1)
  clear hO2 hr2 hb2
  go_wp2
  refine ret_cx2 w.heap.size rfl rfl rfl (x := .int .i64 n) (y := .slice a2 (maxQ q).length c2) (by go_simp) (by go_simp) rfl ?_
  exact ⟨_, rfl, (OwnInts.set (OwnInts.set HO2.out _ _ _ hz0) _ _ _ hz0).lower hz1, (HB2.out.setCell (by dsimp only; omega) _).setCell (by dsimp only; omega) _⟩

/-! ### the seven families -/

theorem fam_of {n : Int} {xs : List Int} {q : Nat → Bool} (hd : Down q) (hc : isC n xs = true) (h : ∀ t, q t = true → inF xs t = true) : Fam n q := ⟨hd, fun t _ hq => inF_set hc t (h t hq)⟩
theorem sub_orl (s t : Nat) : sub s (s ||| t) = true := (sub_iff _ _).2 fun i h => by rw [Nat.testBit_or, h]; rfl
theorem star_fam {n : Int} {xs : List Int} (hc : isC n xs = true) (u : Nat) : Fam n (starQ xs u) := fam_of (starQ_down xs u) hc fun t h => inF_sub (sub_orl t u) h
theorem link_fam {n : Int} {xs : List Int} (hc : isC n xs = true) (u : Nat) : Fam n (linkQ xs u) := fam_of (linkQ_down xs u) hc fun t h => by
  unfold linkQ at h
  rw [Bool.and_eq_true] at h
  exact inF_sub (sub_orl t u) h.2
theorem del_fam {n : Int} {xs : List Int} (hc : isC n xs = true) (u : Nat) : Fam n (delQ xs u) := fam_of (delQ_down xs u) hc fun t h => by
  unfold delQ at h
  rw [Bool.and_eq_true] at h
  exact h.1
theorem ind_fam {n : Int} {xs : List Int} (hc : isC n xs = true) (u : Nat) : Fam n (indQ xs u) := fam_of (indQ_down xs u) hc fun t h => by
  unfold indQ at h
  rw [Bool.and_eq_true] at h
  exact h.1
theorem skel_fam {n : Int} {xs : List Int} (hc : isC n xs = true) (k : Int) : Fam n (skelQ xs k) := fam_of (skelQ_down xs k) hc fun t h => by
  unfold skelQ at h
  rw [Bool.and_eq_true] at h
  exact h.1
theorem and_fam {n : Int} {xs : List Int} (ys : List Int) (hc : isC n xs = true) : Fam n (andQ xs ys) := fam_of (andQ_down xs ys) hc fun t h => by
  unfold andQ at h
  rw [Bool.and_eq_true] at h
  exact h.1
theorem or_fam {n : Int} {xs ys : List Int} (hx : isC n xs = true) (hy : isC n ys = true) : Fam n (orQ xs ys) := ⟨orQ_down xs ys, fun t _ h => by
  unfold orQ at h
  rw [Bool.or_eq_true] at h
  exact h.elim (inF_set hx t) (inF_set hy t)⟩

end Go.Proofs.Ythjgpbcdcgagfaa

/-! HOLES of cones and of suspensions, of no program. -/

namespace Go.Proofs.Ythjgpbcdcgagfaa
namespace Hom
open Sets Lin

def sg (t : Nat) : Int := 1 - 2 * ((pc t % 2 : Nat) : Int)
theorem blk0 : ∀ n : Fin 6, ∀ t s : Fin 64, t.val < 2 ^ n.val → s.val < 2 ^ n.val → sgn t.val (2 ^ n.val + s.val) = (if s = t then sg t.val else 0) ∧ sgn (2 ^ n.val + t.val) (2 ^ n.val + s.val) = sgn t.val s.val ∧ sgn (2 ^ n.val + t.val) s.val = 0 := by decide +kernel
theorem pc_blk0 : ∀ n : Fin 6, ∀ s : Fin 64, s.val < 2 ^ n.val → pc (2 ^ n.val + s.val) = pc s.val + 1 := by decide +kernel
theorem pow64 {n : Nat} (hn : n ≤ 6) : 2 ^ n ≤ 64 := Nat.pow_le_pow_right (by decide) hn
theorem pow_two (n : Nat) : 2 ^ (n + 1) = 2 ^ n + 2 ^ n := by rw [Nat.pow_succ]; omega
theorem blk1 {n t s : Nat} (hn : n ≤ 5) (ht : t < 2 ^ n) (hs : s < 2 ^ n) : sgn t (2 ^ n + s) = if s = t then sg t else 0 := by
  have h64 := pow64 (n := n) (by omega)
  have := (blk0 ⟨n, by omega⟩ ⟨t, by omega⟩ ⟨s, by omega⟩ ht hs).1
  simpa using this
theorem blk2 {n t s : Nat} (hn : n ≤ 5) (ht : t < 2 ^ n) (hs : s < 2 ^ n) : sgn (2 ^ n + t) (2 ^ n + s) = sgn t s := by
  have h64 := pow64 (n := n) (by omega)
  exact (blk0 ⟨n, by omega⟩ ⟨t, by omega⟩ ⟨s, by omega⟩ ht hs).2.1
theorem blk3 {n t s : Nat} (hn : n ≤ 5) (ht : t < 2 ^ n) (hs : s < 2 ^ n) : sgn (2 ^ n + t) s = 0 := by
  have h64 := pow64 (n := n) (by omega)
  exact (blk0 ⟨n, by omega⟩ ⟨t, by omega⟩ ⟨s, by omega⟩ ht hs).2.2
theorem pc_blk {n s : Nat} (hn : n ≤ 5) (hs : s < 2 ^ n) : pc (2 ^ n + s) = pc s + 1 := by
  have h64 := pow64 (n := n) (by omega)
  exact pc_blk0 ⟨n, by omega⟩ ⟨s, by omega⟩ hs
theorem sg_sq (t : Nat) : sg t * sg t = 1 := by unfold sg; rcases Nat.mod_two_eq_zero_or_one (pc t) with h | h <;> rw [h] <;> decide

theorem S_low {N : Nat} (hN : N ≤ 64) {f : Nat → Int} (h : ∀ s, N ≤ s → s < 64 → f s = 0) : S f = sm (List.range N) f := by
  unfold S
  rw [show 64 = N + (64 - N) by omega, sm_range_add, sm_zero (List.range (64 - N)) _ fun s hs => h _ (by omega) (by rw [List.mem_range] at hs; omega)]; omega
theorem S_two {N : Nat} (hN : N + N ≤ 64) {f : Nat → Int} (h : ∀ s, N + N ≤ s → s < 64 → f s = 0) : S f = sm (List.range N) f + sm (List.range N) fun s => f (N + s) := by
  rw [S_low hN h, sm_range_add]
theorem S_three {N : Nat} (hN : N + N + N ≤ 64) {f : Nat → Int} (h : ∀ s, N + N + N ≤ s → s < 64 → f s = 0) : S f = sm (List.range N) f + (sm (List.range N) fun s => f (N + s)) + sm (List.range N) fun s => f (N + N + s) := by
  rw [S_low hN h, sm_range_add, sm_range_add]

/-- The sets of n points. -/
def Low (n : Nat) (q : Nat → Bool) : Prop := ∀ s, s < 64 → q s = true → s < 2 ^ n
/-- The faces of a join. -/
def joinQ (n : Nat) (q r : Nat → Bool) (s : Nat) : Bool := q (s % 2 ^ n) && r (s / 2 ^ n)

theorem vec_zero {p : Nat} {q : Nat → Bool} {k : Nat} {y : Nat → Int} (h : Vec p (J q k) y) {s : Nat} (hs : s < 64 → ¬(pc s = k ∧ q s = true)) : y s = 0 := h.2 s fun hm => by
  have := (mem_J q k s).1 hm; exact hs this.1 this.2

/-- A vector's piece of N numbers from b on. -/
def cut (N b : Nat) (y : Nat → Int) (s : Nat) : Int := if s < N then y (b + s) else 0
theorem cut_lt {N b : Nat} {y : Nat → Int} {s : Nat} (h : s < N) : cut N b y s = y (b + s) := if_pos h
theorem cut_ge {N b : Nat} {y : Nat → Int} {s : Nat} (h : ¬s < N) : cut N b y s = 0 := if_neg h
theorem bd_cut {N b : Nat} (hN : N ≤ 64) (y : Nat → Int) (t : Nat) : bd (cut N b y) t = sm (List.range N) fun s => sgn t s * y (b + s) := by
  unfold bd
  rw [S_low hN fun s h _ => by rw [cut_ge (by omega)]; simp]
  exact sm_congr _ _ _ fun s hs => by rw [cut_lt (List.mem_range.1 hs)]

/-- A piece of a chain is a chain of the faces that lie in the piece. -/
theorem vec_cut {p n b k j : Nat} {q' q : Nat → Bool} {y : Nat → Int} (hn : b + 2 ^ n ≤ 64) (hlow : Low n q) (hq : ∀ s, s < 2 ^ n → (q' (b + s) = true ∧ pc (b + s) = k ↔ q s = true ∧ pc s = j)) (h : Vec p (J q' k) y) : Vec p (J q j) (cut (2 ^ n) b y) := by
  refine ⟨fun s hs => ?_, fun s hs => ?_⟩
  · obtain ⟨h1, h2, h3⟩ := (mem_J q j s).1 hs
    have hl := hlow s h1 h3
    rw [cut_lt hl]
    have := (hq s hl).2 ⟨h3, h2⟩
    exact h.1 _ ((mem_J q' k _).2 ⟨by omega, this.2, this.1⟩)
  · by_cases hl : s < 2 ^ n
    · rw [cut_lt hl]
      exact h.2 _ fun hm => by
        obtain ⟨_, h2, h3⟩ := (mem_J q' k _).1 hm
        have := (hq s hl).1 ⟨h3, h2⟩
        exact hs ((mem_J q j s).2 ⟨by omega, this.2, this.1⟩)
    · exact cut_ge hl

theorem emod_vec {p : Nat} (hp : 0 < p) {l : List Nat} {f : Nat → Int} (h : ∀ s, s ∉ l → (p : Int) ∣ f s) : Vec p l fun s => f s % p :=
  ⟨fun s _ => ⟨Int.emod_nonneg _ (by omega), Int.emod_lt_of_pos _ (by omega)⟩, fun s hs => Int.emod_eq_zero_of_dvd (h s hs)⟩
theorem vec_mod {p : Nat} {l : List Nat} {x : Nat → Int} (h : Vec p l x) (s : Nat) : x s % p = x s := by
  by_cases e : s ∈ l
  · exact Int.emod_eq_of_lt (h.1 s e).1 (h.1 s e).2
  · rw [h.2 s e]; simp
theorem vec_ext {p : Nat} {l m : List Nat} {x y : Nat → Int} (h : Vec p l x) (k : Vec p m y) (s : Nat) (hd : (p : Int) ∣ x s - y s) : x s = y s := by
  rw [← vec_mod h s, ← vec_mod k s]
  exact Int.emod_eq_emod_iff_emod_sub_eq_zero.2 (Int.emod_eq_zero_of_dvd hd)
theorem bd_emod (p : Int) (f : Nat → Int) (t : Nat) : p ∣ bd (fun s => f s % p) t - bd f t := by
  unfold bd S
  refine sm_dvd p _ _ _ fun s _ => ?_
  obtain ⟨m, hm⟩ := dvd_emod_sub (f s) p
  exact ⟨sgn t s * m, by dsimp only; grind⟩
theorem bd_add (f g : Nat → Int) (t : Nat) : bd (fun s => f s + g s) t = bd f t + bd g t := by
  unfold bd S
  rw [← sm_add]
  exact sm_congr _ _ _ fun s _ => by grind
theorem bd_mul (c : Int) (f : Nat → Int) (t : Nat) : bd (fun s => c * f s) t = c * bd f t := by
  unfold bd S
  rw [← sm_mul]
  exact sm_congr _ _ _ fun s _ => by grind
theorem bd_congr {f g : Nat → Int} (t : Nat) (h : ∀ s, s < 64 → sub t s = true → pc s = pc t + 1 → f s = g s) : bd f t = bd g t := by
  unfold bd S
  refine sm_congr _ _ _ fun s hs => ?_
  by_cases e : sub t s = true ∧ pc s = pc t + 1
  · rw [h s (List.mem_range.1 hs) e.1 e.2]
  · rw [sgn_zero e]; simp
theorem bd_out (f : Nat → Int) {t : Nat} (ht : 64 ≤ t) : bd f t = 0 := by
  unfold bd S
  refine sm_zero _ _ fun s hs => ?_
  rw [sgn_zero fun h => by have := sub_le h.1; rw [List.mem_range] at hs; omega]; simp

end Hom
end Go.Proofs.Ythjgpbcdcgagfaa
