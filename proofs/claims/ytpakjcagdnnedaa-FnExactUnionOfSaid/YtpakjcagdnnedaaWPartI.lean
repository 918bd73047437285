/-
  WALKS: impl's chapter 5: parts of a complex (written by genparti.py).
-/
import Derived.Test.YtpakjcagdnnedaaPart
import Derived.Test.YtpakjcagdnnedaaWCx6
import Derived.Test.YtpakjcagdnnedaaHas
import Derived.Deep.RegionHeld3
import Derived.Deep.RegionLaw
import Derived.Deep.AppendLies
namespace Go.Proofs.Ytpakjcagdnnedaa
open Go.RowKit
open Sets

theorem own_has_cx {f : FuncId} {args : Array Value} {w : World} {n : Int} {L : List Int} {b : Bool} (h : Calls Try.prog f args w fun e w' => ∃ v, e = .returned (.tuple #[cx n v, .bool b]) ∧ OwnInts w' w.heap.size v L ∧ Below w.heap.size w w') :
    Calls Try.prog f args w fun e w' => ∃ v, e = .returned (.tuple #[cx n v, .bool b]) ∧ HasInts w' w.heap.size v L ∧ Below w.heap.size w w' :=
  h.mono fun _ _ ⟨v, he, ho, hb⟩ => ⟨v, he, ho.has hb.size, hb⟩
theorem pO_no {ok : Bool} {n : Int} {q : Nat → Bool} (h : ok = false) : partO ok n q = none := by unfold partO; rw [if_neg (by rw [h]; simp)]
theorem pO_yes {ok : Bool} {n : Int} {q : Nat → Bool} (h : ok = true) : partO ok n q = some (n, maxQ q) := by unfold partO; rw [if_pos h]
theorem part_le (ok : Bool) (n : Int) (q : Nat → Bool) : (oL (partO ok n q)).length ≤ 1048576 := by
  refine Nat.le_trans (m := 64) ?_ (by decide)
  cases ok
  · rw [pO_no rfl]; exact Nat.zero_le _
  · rw [pO_yes rfl]; exact maxQ_le q

/-- A family of sets of n points that holds with a set all of its subsets, made by MakeComplex. -/
def Fam (n : Int) (q : Nat → Bool) : Prop := Down q ∧ ∀ t, t < 64 → q t = true → setB n (t : Int) = true
theorem made_ord {n : Int} {q : Nat → Bool} (hn : inB 1 6 n = true) (h : Fam n q) : made n (ord q) = some (n, maxQ q) := by
  rw [made_yes ((setsOf_iff _ _).2 ⟨hn, ord_le _, fun x hx => ?_⟩), maximal_ord q h.1]
  obtain ⟨s, rfl, hs, hq⟩ := (mem_ord q x).1 hx
  exact h.2 s hs hq
theorem and_natP : ∀ a b : Nat, a < 64 → b < 64 → bits BinOp.and IntKind.i64 (a : Int) (b : Int) = ((a &&& b : Nat) : Int) := by
  refine fin64b ?_
  decide +kernel
theorem or_natP : ∀ a b : Nat, a < 64 → b < 64 → bits BinOp.or IntKind.i64 (a : Int) (b : Int) = ((a ||| b : Nat) : Int) := by
  refine fin64b ?_
  decide +kernel
theorem or_lt64 {s t : Nat} (hs : s < 64) (ht : t < 64) : s ||| t < 64 := Nat.or_lt_two_pow (n := 6) hs ht

/-! ### a family by its function value -/

set_option maxRecDepth 100000 in
set_option maxHeartbeats 2000000 in
theorem partWhere_any (n : Int) (g : Nat) (lb : Array Value) (q : Nat → Bool) (w : World) (hn : inB 1 6 n = true) (hf : Fam n q) (eg : ∀ args w, (callFunc g args).run Try.prog w = .ok (.enter g args) w) (hp : ∀ W : World, Below w.heap.size w W → PredB g lb q W) :
    Calls Try.prog 53 #[.int .i64 n, .func (.func g) #[] lb] w fun e w' => ∃ v, e = .returned (.tuple #[cx n v, .bool true]) ∧ OwnInts w' w.heap.size v (maxQ q) ∧ Below w.heap.size w w' := by
  have hb0 : Below w.heap.size w (w.alloc (.cells #[.int .i64 0, .slice none 0 0] 26)) := (Below.refl _ _).alloc (Nat.le_refl _) _
  have htr := Two.new w (.int .i64 0) (.slice none 0 0) 26
  have HP := Lib.hid (hp _ hb0)
  have HM := Lib.hid (made_ord hn hf)
  have HQ := Lib.hid (setsWhere_bel g lb q)
  have EG := Lib.hid eg
  have HB0 := Lib.hid hb0
  have TR := Lib.hid htr
  clear hb0 htr eg hp hf hn
  go_enter Try.func53, Try.ntmps53
  go_wp2_with fail
  refine (HQ.out _ EG.out HP.out).mono ?_
  rintro e w1 ⟨v, rfl, hO1, hb1⟩
  obtain ⟨a1, c1, g1, rfl, hc1, hg1, hr1, _⟩ := OwnInts.ata hO1 hb1.size
  have hl1 : (ord q).length ≤ 1099511627776 := Nat.le_trans (ord_le _) (by decide)
  have R1 := Lib.hid hr1
  have HB1 : Hid (Below w.heap.size w w1) := HB0.out.trans (hb1.mono HB0.out.size)
  have TR1 := Lib.hid (TR.out.keeps hb1)
  have hz1 := HB1.out.size
  clear hO1 hr1 hb1 hg1 hc1
  go_wp2_with fail
  refine (implMake_any n _ _ (ord q) hl1 _ R1.out.ints).mono ?_
  rintro e w2 ⟨v, he, hO2, hb2⟩
  rw [HM.out] at he hO2
  replace he : e = .returned (.tuple #[cx n v, .bool true]) := he
  subst he
  obtain ⟨a2, c2, g2, hv2, hc2, hg2, hr2, _⟩ := OwnInts.ata hO2 hb2.size
  replace hv2 : v = .slice a2 (maxQ q).length c2 := hv2
  subst hv2
  obtain ⟨r0, r1, r2, r3, r4⟩ := TR1.out.keeps hb2
  have hz0 := TR1.out.1
  have HO2 : Hid (OwnInts w2 w1.heap.size (.slice a2 (maxQ q).length c2) (maxQ q)) := hO2
  have HB2 : Hid (Below w.heap.size w w2) := HB1.out.trans (hb2.mono hz1)
  clear hO2 hr2 hb2
  go_wp2
  refine ret_cx2 w.heap.size rfl rfl rfl (x := .int .i64 n) (y := .slice a2 (maxQ q).length c2) (by go_simp) (by go_simp) rfl ?_
  exact ⟨_, rfl, (OwnInts.set (OwnInts.set HO2.out _ _ _ hz0) _ _ _ hz0).lower hz1, (HB2.out.setCell (by dsimp only; omega) _).setCell (by dsimp only; omega) _⟩

set_option maxRecDepth 100000 in
set_option maxHeartbeats 4000000 in
theorem partAt_any (n : Int) (a : Option Addr) (c : Nat) (xs : List Int) (s : Int) (hcap : xs.length ≤ c) (hlen : xs.length ≤ 1099511627776) (g : Nat) (lb : Array Value) (q : Nat → Bool) (w : World) (h : Ints w a xs)
    (eg : ∀ args w, (callFunc g args).run Try.prog w = .ok (.enter g args) w) (hp : (isC n xs && setB n s) = true → Fam n q ∧ ∀ W : World, Below w.heap.size w W → PredB g lb q W) :
    Calls Try.prog 39 #[cx n (.slice a xs.length c), .int .i64 s, .func (.func g) #[] lb] w fun e w' => ∃ v, e = .returned (.tuple #[cx (oN (partO (isC n xs && setB n s) n q)) v, .bool (partO (isC n xs && setB n s) n q).isSome]) ∧ OwnInts w' w.heap.size v (oL (partO (isC n xs && setB n s) n q)) ∧ Below w.heap.size w w' := by
  have hb0 : Below w.heap.size w ((w.alloc (.cells #[.int .i64 n, .slice a xs.length c] 26)).alloc (.cells #[.int .i64 0, .slice none 0 0] 26)) := ((Below.refl _ _).alloc (Nat.le_refl _) _).alloc (by simp) _
  have htc := (Two.new w (.int .i64 n) (.slice a xs.length c) 26).alloc (.cells #[.int .i64 0, .slice none 0 0] 26)
  have htr := Two.new (w.alloc (.cells #[.int .i64 n, .slice a xs.length c] 26)) (.int .i64 0) (.slice none 0 0) 26
  rw [World.size_alloc] at htr
  obtain ⟨br, hbr⟩ : ∃ br, w.heap.size + 1 = br := ⟨_, rfl⟩
  rw [hbr] at htr
  have hwb : w.heap.size < br := by omega
  have TC := Lib.hid htc
  have TR := Lib.hid htr
  have HH := Lib.hid (h.keeps hb0)
  have HB0 := Lib.hid hb0
  have EG := Lib.hid eg
  have HBR := Lib.hid hbr
  clear h htr hb0 htc eg hbr
  cases hC : isC n xs with
  | false =>
    have HC := Lib.hid hC
    rw [show (false && setB n s) = false from rfl, pO_no rfl]
    clear hC hp
    go_enter Try.func39, Try.ntmps39
    obtain ⟨t0, t1, t2, t3, t4⟩ := TC.out
    go_wp2_with fail
    refine (implIsC_b n _ _ xs hcap false HC.out hlen _ HH.out).mono ?_
    rintro e w1 ⟨rfl, hb1⟩
    try rw [HBR.out]
    obtain ⟨r0, r1, r2, r3, r4⟩ := TR.out.keeps hb1
    have HB1 : Hid (Below w.heap.size w w1) := HB0.out.trans (hb1.mono HB0.out.size)
    clear hb1 t0 t1 t2 t3 t4
    go_wp2
    refine ret_cx2 br rfl rfl rfl (x := .int .i64 0) (y := .slice none 0 0) (by go_simp) (by go_simp) rfl ?_
    exact ⟨_, rfl, OwnInts.nil _ _, by first | exact (HB1.out.setCell (by dsimp only; omega) _).setCell (by dsimp only; omega) _ | exact HB1.out⟩
  | true =>
    cases hS : setB n s with
    | false =>
      have HC := Lib.hid hC
      have HS := Lib.hid hS
      rw [show (true && false) = false from rfl, pO_no rfl]
      clear hC hS hp
      go_enter Try.func39, Try.ntmps39
      obtain ⟨t0, t1, t2, t3, t4⟩ := TC.out
      go_wp2_with fail
      refine (implIsC_b n _ _ xs hcap true HC.out hlen _ HH.out).mono ?_
      rintro e w1 ⟨rfl, hb1⟩
      try rw [HBR.out]
      obtain ⟨r0, r1, r2, r3, r4⟩ := TR.out.keeps hb1
      have HB1 : Hid (Below w.heap.size w w1) := HB0.out.trans (hb1.mono HB0.out.size)
      clear t0 t1 t2 t3 t4
      obtain ⟨t0, t1, t2, t3, t4⟩ := TC.out.keeps hb1
      clear hb1
      go_wp2_with fail
      refine (isSet_b n s false HS.out _).mono ?_
      rintro e w' ⟨rfl, rfl⟩
      go_wp2
      refine ret_cx2 br rfl rfl rfl (x := .int .i64 0) (y := .slice none 0 0) (by go_simp) (by go_simp) rfl ?_
      exact ⟨_, rfl, OwnInts.nil _ _, by first | exact (HB1.out.setCell (by dsimp only; omega) _).setCell (by dsimp only; omega) _ | exact HB1.out⟩
    | true =>
      have HC := Lib.hid hC
      have HS := Lib.hid hS
      have hp2 := hp (by rw [hC, hS]; rfl)
      have HF := Lib.hid hp2.1
      have HP := Lib.hid hp2.2
      have HN := Lib.hid ((inB_iff _ _ _).2 (isC_n hC))
      rw [show (true && true) = true from rfl, pO_yes rfl]
      clear hC hS hp hp2
      go_enter Try.func39, Try.ntmps39
      obtain ⟨t0, t1, t2, t3, t4⟩ := TC.out
      go_wp2_with fail
      refine (implIsC_b n _ _ xs hcap true HC.out hlen _ HH.out).mono ?_
      rintro e w1 ⟨rfl, hb1⟩
      try rw [HBR.out]
      have TR1 := Lib.hid (TR.out.keeps hb1)
      have HB1 : Hid (Below w.heap.size w w1) := HB0.out.trans (hb1.mono HB0.out.size)
      clear t0 t1 t2 t3 t4
      obtain ⟨t0, t1, t2, t3, t4⟩ := TC.out.keeps hb1
      clear hb1
      go_wp2_with fail
      refine (isSet_b n s true HS.out _).mono ?_
      rintro e w' ⟨rfl, rfl⟩
      have hz1 := HB1.out.size
      go_wp2_with fail
      refine (partWhere_any n g lb q _ HN.out HF.out EG.out (fun W hW => HP.out W (HB1.out.trans (hW.mono hz1)))).mono ?_
      rintro e w6 ⟨v, rfl, hO2, hb6⟩
      obtain ⟨a2, c2x, g2, rfl, hc2, hg2, hr2, _⟩ := OwnInts.ata hO2 hb6.size
      have hzb := TR1.out.1
      obtain ⟨r0, r1, r2, r3, r4⟩ := TR1.out.keeps hb6
      have HO2 := Lib.hid hO2
      have HB6 : Hid (Below w.heap.size w w6) := HB1.out.trans (hb6.mono hz1)
      clear hO2 hr2 hb6
      go_wp2
      refine ret_cx2 br rfl rfl rfl (x := .int .i64 n) (y := .slice a2 (maxQ q).length c2x) (by go_simp) (by go_simp) rfl ?_
      exact ⟨_, rfl, (OwnInts.set (OwnInts.set HO2.out _ _ _ hzb) _ _ _ hzb).lower hz1, (HB6.out.setCell (by dsimp only; omega) _).setCell (by dsimp only; omega) _⟩

set_option maxRecDepth 100000 in
set_option maxHeartbeats 2000000 in
theorem star1_pred (n : Int) (a : Option Addr) (c : Nat) (xs : List Int) (hok : allOk xs = true) (hlen : xs.length ≤ 1099511627776) (t : Nat) (ht : t < 64) (B K : Nat) (w : World) (h2 : Two w B (.int .i64 n) (.slice a xs.length c)) (hK : K < w.heap.size) (hk : w.cell? ⟨K, 0, none⟩ = some (.int .i64 (t : Int))) (h : Ints w a xs) :
    PredB 44 #[.pointer (some ⟨B, 0, none⟩), .pointer (some ⟨K, 0, none⟩)] (starQ xs t) w := by
  intro W s hs hb
  have HH := Lib.hid (h.keeps hb)
  have hTB := h2.keeps hb
  have TB := Lib.hid hTB
  obtain ⟨t0, t1, t2, _, _⟩ := hTB
  have k1 : W.cell? ⟨K, 0, none⟩ = some (.int .i64 (t : Int)) := (hb.cell (p := ⟨K, 0, none⟩) hK).trans hk
  have hKB := Lib.hid (fun (W' : World) (hW : Below W.heap.size W W') => (hW.cell (p := ⟨K, 0, none⟩) (Nat.lt_of_lt_of_le hK hb.size)).trans k1)
  show Calls Try.prog 44 #[.int .i64 (s : Int), .pointer (some ⟨B, 0, none⟩), .pointer (some ⟨K, 0, none⟩)] W _
  clear h2 hk h hb
  have ho := or_natP s t hs ht
  have hol := or_lt64 hs ht
  have HF : Hid (starQ xs t s = inF xs (s ||| t)) := rfl
  generalize hbv : inF xs (s ||| t) = b at *
  have HBV := Lib.hid ((inFZ_nat xs (s ||| t) hol).trans hbv)
  clear hbv
  go_enter Try.func44, Try.ntmps44
  go_wp2_with fail
  refine (inFacet_any n a c xs hok hlen ((s ||| t : Nat) : Int) (by omega) b HBV.out _ HH.out).mono ?_
  rintro e w1 ⟨rfl, hb1⟩
  go_wp2
  go_ret
  exact ⟨by rw [HF.out]; rfl, hb1⟩

set_option maxRecDepth 100000 in
set_option maxHeartbeats 2000000 in
theorem link1_pred (n : Int) (a : Option Addr) (c : Nat) (xs : List Int) (hok : allOk xs = true) (hlen : xs.length ≤ 1099511627776) (t : Nat) (ht : t < 64) (B K : Nat) (w : World) (h2 : Two w B (.int .i64 n) (.slice a xs.length c)) (hK : K < w.heap.size) (hk : w.cell? ⟨K, 0, none⟩ = some (.int .i64 (t : Int))) (h : Ints w a xs) :
    PredB 40 #[.pointer (some ⟨K, 0, none⟩), .pointer (some ⟨B, 0, none⟩)] (linkQ xs t) w := by
  intro W s hs hb
  have HH := Lib.hid (h.keeps hb)
  have hTB := h2.keeps hb
  have TB := Lib.hid hTB
  obtain ⟨t0, t1, t2, _, _⟩ := hTB
  have k1 : W.cell? ⟨K, 0, none⟩ = some (.int .i64 (t : Int)) := (hb.cell (p := ⟨K, 0, none⟩) hK).trans hk
  have hKB := Lib.hid (fun (W' : World) (hW : Below W.heap.size W W') => (hW.cell (p := ⟨K, 0, none⟩) (Nat.lt_of_lt_of_le hK hb.size)).trans k1)
  show Calls Try.prog 40 #[.int .i64 (s : Int), .pointer (some ⟨K, 0, none⟩), .pointer (some ⟨B, 0, none⟩)] W _
  clear h2 hk h hb
  have ho := or_natP s t hs ht
  have hol := or_lt64 hs ht
  have ha : (bits BinOp.and IntKind.i64 (s : Int) (t : Int) == 0) = apart s t := by
    rw [and_natP s t hs ht]; unfold apart
    generalize s &&& t = u
    rw [Bool.eq_iff_iff]; simp
  cases hap : apart s t with
  | false =>
    have HF : Hid (linkQ xs t s = false) := by
      have : linkQ xs t s = false := by unfold linkQ; rw [hap]; rfl
      exact this
    rw [hap] at ha
    clear hap
    go_enter Try.func40, Try.ntmps40
    go_wp2
    go_ret
    exact ⟨by rw [HF.out]; rfl, Below.refl _ _⟩
  | true =>
    have HF : Hid (linkQ xs t s = inF xs (s ||| t)) := by
      have : linkQ xs t s = inF xs (s ||| t) := by unfold linkQ; rw [hap]; rfl
      exact this
    rw [hap] at ha
    clear hap
    generalize hbv : inF xs (s ||| t) = b at *
    have HBV := Lib.hid ((inFZ_nat xs (s ||| t) hol).trans hbv)
    clear hbv
    go_enter Try.func40, Try.ntmps40
    go_wp2_with fail
    refine (inFacet_any n a c xs hok hlen ((s ||| t : Nat) : Int) (by omega) b HBV.out _ HH.out).mono ?_
    rintro e w1 ⟨rfl, hb1⟩
    go_wp2
    go_ret
    exact ⟨by rw [HF.out]; rfl, hb1⟩

set_option maxRecDepth 100000 in
set_option maxHeartbeats 2000000 in
theorem del1_pred (n : Int) (a : Option Addr) (c : Nat) (xs : List Int) (hok : allOk xs = true) (hlen : xs.length ≤ 1099511627776) (t : Nat) (ht : t < 64) (B K : Nat) (w : World) (h2 : Two w B (.int .i64 n) (.slice a xs.length c)) (hK : K < w.heap.size) (hk : w.cell? ⟨K, 0, none⟩ = some (.int .i64 (t : Int))) (h : Ints w a xs) :
    PredB 46 #[.pointer (some ⟨B, 0, none⟩), .pointer (some ⟨K, 0, none⟩)] (delQ xs t) w := by
  intro W s hs hb
  have HH := Lib.hid (h.keeps hb)
  have hTB := h2.keeps hb
  have TB := Lib.hid hTB
  obtain ⟨t0, t1, t2, _, _⟩ := hTB
  have k1 : W.cell? ⟨K, 0, none⟩ = some (.int .i64 (t : Int)) := (hb.cell (p := ⟨K, 0, none⟩) hK).trans hk
  have hKB := Lib.hid (fun (W' : World) (hW : Below W.heap.size W W') => (hW.cell (p := ⟨K, 0, none⟩) (Nat.lt_of_lt_of_le hK hb.size)).trans k1)
  show Calls Try.prog 46 #[.int .i64 (s : Int), .pointer (some ⟨B, 0, none⟩), .pointer (some ⟨K, 0, none⟩)] W _
  clear h2 hk h hb
  cases hf : inF xs s with
  | false =>
    have HF : Hid (delQ xs t s = false) := by
      have : delQ xs t s = false := by unfold delQ; rw [hf]; rfl
      exact this
    have HBV := Lib.hid ((inFZ_nat xs s hs).trans hf)
    clear hf
    go_enter Try.func46, Try.ntmps46
    go_wp2_with fail
    refine (inFacet_any n a c xs hok hlen (s : Int) (by omega) false HBV.out _ HH.out).mono ?_
    rintro e w1 ⟨rfl, hb1⟩
    go_wp2
    go_ret
    exact ⟨by rw [HF.out]; rfl, hb1⟩
  | true =>
    have HF : Hid (delQ xs t s = !sub t s) := by
      have : delQ xs t s = !sub t s := by unfold delQ; rw [hf]; rfl
      exact this
    have HBV := Lib.hid ((inFZ_nat xs s hs).trans hf)
    clear hf
    go_enter Try.func46, Try.ntmps46
    go_wp2_with fail
    refine (inFacet_any n a c xs hok hlen (s : Int) (by omega) true HBV.out _ HH.out).mono ?_
    rintro e w1 ⟨rfl, hb1⟩
    have HB1 := Lib.hid hb1
    have k2 := hKB.out w1 hb1
    clear hb1 k1
    go_wp2_with fail
    refine (isSubset_any t s ht hs _).mono ?_
    rintro e w' ⟨rfl, rfl⟩
    go_wp2
    go_ret
    exact ⟨by rw [HF.out]; rfl, HB1.out⟩

set_option maxRecDepth 100000 in
set_option maxHeartbeats 2000000 in
theorem ind1_pred (n : Int) (a : Option Addr) (c : Nat) (xs : List Int) (hok : allOk xs = true) (hlen : xs.length ≤ 1099511627776) (t : Nat) (ht : t < 64) (B K : Nat) (w : World) (h2 : Two w B (.int .i64 n) (.slice a xs.length c)) (hK : K < w.heap.size) (hk : w.cell? ⟨K, 0, none⟩ = some (.int .i64 (t : Int))) (h : Ints w a xs) :
    PredB 63 #[.pointer (some ⟨B, 0, none⟩), .pointer (some ⟨K, 0, none⟩)] (indQ xs t) w := by
  intro W s hs hb
  have HH := Lib.hid (h.keeps hb)
  have hTB := h2.keeps hb
  have TB := Lib.hid hTB
  obtain ⟨t0, t1, t2, _, _⟩ := hTB
  have k1 : W.cell? ⟨K, 0, none⟩ = some (.int .i64 (t : Int)) := (hb.cell (p := ⟨K, 0, none⟩) hK).trans hk
  have hKB := Lib.hid (fun (W' : World) (hW : Below W.heap.size W W') => (hW.cell (p := ⟨K, 0, none⟩) (Nat.lt_of_lt_of_le hK hb.size)).trans k1)
  show Calls Try.prog 63 #[.int .i64 (s : Int), .pointer (some ⟨B, 0, none⟩), .pointer (some ⟨K, 0, none⟩)] W _
  clear h2 hk h hb
  cases hf : inF xs s with
  | false =>
    have HF : Hid (indQ xs t s = false) := by
      have : indQ xs t s = false := by unfold indQ; rw [hf]; rfl
      exact this
    have HBV := Lib.hid ((inFZ_nat xs s hs).trans hf)
    clear hf
    go_enter Try.func63, Try.ntmps63
    go_wp2_with fail
    refine (inFacet_any n a c xs hok hlen (s : Int) (by omega) false HBV.out _ HH.out).mono ?_
    rintro e w1 ⟨rfl, hb1⟩
    go_wp2
    go_ret
    exact ⟨by rw [HF.out]; rfl, hb1⟩
  | true =>
    have HF : Hid (indQ xs t s = sub s t) := by
      have : indQ xs t s = sub s t := by unfold indQ; rw [hf]; rfl
      exact this
    have HBV := Lib.hid ((inFZ_nat xs s hs).trans hf)
    clear hf
    go_enter Try.func63, Try.ntmps63
    go_wp2_with fail
    refine (inFacet_any n a c xs hok hlen (s : Int) (by omega) true HBV.out _ HH.out).mono ?_
    rintro e w1 ⟨rfl, hb1⟩
    have HB1 := Lib.hid hb1
    have k2 := hKB.out w1 hb1
    clear hb1 k1
    go_wp2_with fail
    refine (isSubset_any s t hs ht _).mono ?_
    rintro e w' ⟨rfl, rfl⟩
    go_wp2
    go_ret
    exact ⟨by rw [HF.out]; rfl, HB1.out⟩

set_option maxRecDepth 100000 in
set_option maxHeartbeats 2000000 in
theorem skel1_pred (n : Int) (a : Option Addr) (c : Nat) (xs : List Int) (hok : allOk xs = true) (hlen : xs.length ≤ 1099511627776) (k : Int) (B K : Nat) (w : World) (h2 : Two w B (.int .i64 n) (.slice a xs.length c)) (hK : K < w.heap.size) (hk : w.cell? ⟨K, 0, none⟩ = some (.int .i64 k)) (h : Ints w a xs) :
    PredB 54 #[.pointer (some ⟨B, 0, none⟩), .pointer (some ⟨K, 0, none⟩)] (skelQ xs k) w := by
  intro W s hs hb
  have HH := Lib.hid (h.keeps hb)
  have hTB := h2.keeps hb
  have TB := Lib.hid hTB
  obtain ⟨t0, t1, t2, _, _⟩ := hTB
  have k1 : W.cell? ⟨K, 0, none⟩ = some (.int .i64 k) := (hb.cell (p := ⟨K, 0, none⟩) hK).trans hk
  have hKB := Lib.hid (fun (W' : World) (hW : Below W.heap.size W W') => (hW.cell (p := ⟨K, 0, none⟩) (Nat.lt_of_lt_of_le hK hb.size)).trans k1)
  show Calls Try.prog 54 #[.int .i64 (s : Int), .pointer (some ⟨B, 0, none⟩), .pointer (some ⟨K, 0, none⟩)] W _
  clear h2 hk h hb
  cases hf : inF xs s with
  | false =>
    have HF : Hid (skelQ xs k s = false) := by
      have : skelQ xs k s = false := by unfold skelQ; rw [hf]; rfl
      exact this
    have HBV := Lib.hid ((inFZ_nat xs s hs).trans hf)
    clear hf
    go_enter Try.func54, Try.ntmps54
    go_wp2_with fail
    first | (go_region_law (first | (go_simp; go_at_call 41; refine (inFacet_any n a c xs hok hlen (s : Int) (by omega) false HBV.out _ (Ints.drew HH.out)).mono ?_; rintro e w1 ⟨rfl, hb1⟩) | fail "arm")) | fail "region"
    all_goals
      have hb2 := below_fresh hb1
      go_wp2_with fail
      go_ret
      exact ⟨by rw [HF.out]; rfl, hb2⟩
  | true =>
    have HF : Hid (skelQ xs k s = decide ((pc s : Int) ≤ k)) := by
      have : skelQ xs k s = decide ((pc s : Int) ≤ k) := by unfold skelQ; rw [hf]; rfl
      exact this
    have HBV := Lib.hid ((inFZ_nat xs s hs).trans hf)
    clear hf
    go_enter Try.func54, Try.ntmps54
    go_wp2_with fail
    go_region_held3 (fun w' => w'.cell? ⟨B, 0, none⟩ = some (.int .i64 n) ∧ w'.cell? ⟨B, 1, none⟩ = some (.slice a xs.length c) ∧ w'.cell? ⟨K, 0, none⟩ = some (.int .i64 k) ∧ Below W.heap.size W w') (first | (exact ⟨(TB.out.keeps (bdrew1 _)).2.1, (TB.out.keeps (bdrew1 _)).2.2.1, hKB.out _ (bdrew1 _), bdrew1 _⟩) | (exact ⟨(TB.out.keeps (below_fresh hb1)).2.1, (TB.out.keeps (below_fresh hb1)).2.2.1, hKB.out _ (below_fresh hb1), below_fresh hb1⟩) | fail "arm") (first | (go_at_call 41; refine (inFacet_any n a c xs hok hlen (s : Int) (by omega) true HBV.out _ (Ints.drew HH.out)).mono ?_; rintro e w1 ⟨rfl, hb1⟩) | (go_at_call 55; refine (implSizeOf_nat s hs _).mono ?_; rintro e w' ⟨rfl, rfl⟩) | fail "arm")
    have hb2 := below_fresh hb1
    go_wp2_with fail
    go_ret
    exact ⟨by rw [HF.out]; rfl, hb2⟩

/-! ### the seven families -/

theorem fam_of {n : Int} {xs : List Int} {q : Nat → Bool} (hd : Down q) (hc : isC n xs = true) (h : ∀ t, q t = true → inF xs t = true) : Fam n q := ⟨hd, fun t _ hq => inF_set hc t (h t hq)⟩
theorem sub_orl (s t : Nat) : sub s (s ||| t) = true := (sub_iff _ _).2 fun i h => by rw [Nat.testBit_or, h]; rfl
theorem star_fam {n : Int} {xs : List Int} (hc : isC n xs = true) (u : Nat) : Fam n (starQ xs u) := fam_of (starQ_down xs u) hc fun t h => inF_sub (sub_orl t u) h
theorem link_fam {n : Int} {xs : List Int} (hc : isC n xs = true) (u : Nat) : Fam n (linkQ xs u) := fam_of (linkQ_down xs u) hc fun t h => by
  unfold linkQ at h
  rw [Bool.and_eq_true] at h
  exact inF_sub (sub_orl t u) h.2
theorem del_fam {n : Int} {xs : List Int} (hc : isC n xs = true) (u : Nat) : Fam n (delQ xs u) := fam_of (delQ_down xs u) hc fun t h => by
  unfold delQ at h
  rw [Bool.and_eq_true] at h
  exact h.1
theorem ind_fam {n : Int} {xs : List Int} (hc : isC n xs = true) (u : Nat) : Fam n (indQ xs u) := fam_of (indQ_down xs u) hc fun t h => by
  unfold indQ at h
  rw [Bool.and_eq_true] at h
  exact h.1
theorem skel_fam {n : Int} {xs : List Int} (hc : isC n xs = true) (k : Int) : Fam n (skelQ xs k) := fam_of (skelQ_down xs k) hc fun t h => by
  unfold skelQ at h
  rw [Bool.and_eq_true] at h
  exact h.1
theorem and_fam {n : Int} {xs : List Int} (ys : List Int) (hc : isC n xs = true) : Fam n (andQ xs ys) := fam_of (andQ_down xs ys) hc fun t h => by
  unfold andQ at h
  rw [Bool.and_eq_true] at h
  exact h.1
theorem or_fam {n : Int} {xs ys : List Int} (hx : isC n xs = true) (hy : isC n ys = true) : Fam n (orQ xs ys) := ⟨orQ_down xs ys, fun t _ h => by
  unfold orQ at h
  rw [Bool.or_eq_true] at h
  exact h.elim (inF_set hx t) (inF_set hy t)⟩

set_option maxRecDepth 100000 in
set_option maxHeartbeats 4000000 in
theorem implStar_any (n : Int) (a : Option Addr) (c : Nat) (xs : List Int) (s : Int) (hcap : xs.length ≤ c) (hlen : xs.length ≤ 1099511627776) (w : World) (h : Ints w a xs) :
    Calls Try.prog 15 #[cx n (.slice a xs.length c), .int .i64 s] w fun e w' => ∃ v, e = .returned (.tuple #[cx (oN (starO n xs s)) v, .bool (starO n xs s).isSome]) ∧ OwnInts w' w.heap.size v (oL (starO n xs s)) ∧ Below w.heap.size w w' := by
  have hb0 : Below w.heap.size w (((w.alloc (.cells #[.int .i64 n, .slice a xs.length c] 26)).alloc (Obj.cells #[.int .i64 s] 3)).alloc (.cells #[.int .i64 0, .slice none 0 0] 26)) := (((Below.refl _ _).alloc (Nat.le_refl _) _).alloc (by simp) _).alloc (by simp; omega) _
  have htc := ((Two.new w (.int .i64 n) (.slice a xs.length c) 26).alloc (Obj.cells #[.int .i64 s] 3)).alloc (.cells #[.int .i64 0, .slice none 0 0] 26)
  have htr := Two.new ((w.alloc (.cells #[.int .i64 n, .slice a xs.length c] 26)).alloc (Obj.cells #[.int .i64 s] 3)) (.int .i64 0) (.slice none 0 0) 26
  simp only [World.size_alloc] at htr
  have hk0 : ((w.alloc (.cells #[.int .i64 n, .slice a xs.length c] 26)).alloc (Obj.cells #[.int .i64 s] 3)).cell? ⟨w.heap.size + 1, 0, none⟩ = some (.int .i64 s) := by
    have e : (w.alloc (.cells #[.int .i64 n, .slice a xs.length c] 26)).heap.size = w.heap.size + 1 := by simp
    rw [← e]
    simp
  have hk1 : Below ((w.alloc (.cells #[.int .i64 n, .slice a xs.length c] 26)).alloc (Obj.cells #[.int .i64 s] 3)).heap.size ((w.alloc (.cells #[.int .i64 n, .slice a xs.length c] 26)).alloc (Obj.cells #[.int .i64 s] 3)) (((w.alloc (.cells #[.int .i64 n, .slice a xs.length c] 26)).alloc (Obj.cells #[.int .i64 s] 3)).alloc (.cells #[.int .i64 0, .slice none 0 0] 26)) := (Below.refl _ _).alloc (Nat.le_refl _) _
  have hk := (hk1.cell (p := ⟨w.heap.size + 1, 0, none⟩) (by simp)).trans hk0
  have hks : w.heap.size + 1 < (((w.alloc (.cells #[.int .i64 n, .slice a xs.length c] 26)).alloc (Obj.cells #[.int .i64 s] 3)).alloc (.cells #[.int .i64 0, .slice none 0 0] 26)).heap.size := by simp
  have hH := h.keeps hb0
  have hP : (isC n xs && setB n s) = true → Fam n (starQ xs s.toNat) ∧ ∀ W : World, Below (((w.alloc (.cells #[.int .i64 n, .slice a xs.length c] 26)).alloc (Obj.cells #[.int .i64 s] 3)).alloc (.cells #[.int .i64 0, .slice none 0 0] 26)).heap.size (((w.alloc (.cells #[.int .i64 n, .slice a xs.length c] 26)).alloc (Obj.cells #[.int .i64 s] 3)).alloc (.cells #[.int .i64 0, .slice none 0 0] 26)) W → PredB 44 #[.pointer (some ⟨w.heap.size, 0, none⟩), .pointer (some ⟨w.heap.size + 1, 0, none⟩)] (starQ xs s.toNat) W := by
    intro hok
    rw [Bool.and_eq_true] at hok
    obtain ⟨u, hsu, hu⟩ := okZ_cast s (setB_ok hok.2)
    have hsn : s.toNat = u := by rw [hsu]; rfl
    rw [hsn]
    refine ⟨star_fam hok.1 u, fun W hW => star1_pred n a c xs (isC_ok hok.1) hlen u hu w.heap.size (w.heap.size + 1) W (htc.keeps hW) (Nat.lt_of_lt_of_le hks hW.size) ((hW.cell (p := ⟨w.heap.size + 1, 0, none⟩) hks).trans (by rw [hk, hsu])) (hH.keeps hW)⟩
  have eg : ∀ args w, (callFunc 44 args).run Try.prog w = .ok (.enter 44 args) w := enters_of Try.func44 (by kernel_rfl) rfl
  have hQ := partAt_any n a c xs s hcap hlen 44 #[.pointer (some ⟨w.heap.size, 0, none⟩), .pointer (some ⟨w.heap.size + 1, 0, none⟩)] (starQ xs s.toNat) (((w.alloc (.cells #[.int .i64 n, .slice a xs.length c] 26)).alloc (Obj.cells #[.int .i64 s] 3)).alloc (.cells #[.int .i64 0, .slice none 0 0] 26)) hH eg hP
  unfold starO
  generalize partO (isC n xs && setB n s) n (starQ xs s.toNat) = o at hQ ⊢
  have HQ := Lib.hid hQ
  have TR := Lib.hid htr
  have HB0 := Lib.hid hb0
  obtain ⟨t0, t1, t2, t3, t4⟩ := htc
  clear h hH hP eg hQ htr hb0 hks hk0 hk1
  go_enter Try.func15, Try.ntmps15
  go_wp2_with fail
  refine HQ.out.mono ?_
  rintro e w6 ⟨v, rfl, hO2, hb6⟩
  obtain ⟨a2, c2x, g2, rfl, hc2, hg2, hr2, _⟩ := OwnInts.ata hO2 hb6.size
  have hzb := TR.out.1
  have hz1 := HB0.out.size
  obtain ⟨r0, r1, r2, r3, r4⟩ := TR.out.keeps hb6
  have HO2 := Lib.hid hO2
  have HB6 : Hid (Below w.heap.size w w6) := HB0.out.trans (hb6.mono hz1)
  clear hO2 hr2 hb6
  go_wp2
  refine ret_cx2 (w.heap.size + 1 + 1) rfl rfl rfl (x := .int .i64 (oN o)) (y := .slice a2 (oL o).length c2x) (by go_simp) (by go_simp) rfl ?_
  exact ⟨_, rfl, (OwnInts.set (OwnInts.set HO2.out _ _ _ hzb) _ _ _ hzb).lower hz1, (HB6.out.setCell (by dsimp only; omega) _).setCell (by dsimp only; omega) _⟩

set_option maxRecDepth 100000 in
set_option maxHeartbeats 4000000 in
theorem implLink_any (n : Int) (a : Option Addr) (c : Nat) (xs : List Int) (s : Int) (hcap : xs.length ≤ c) (hlen : xs.length ≤ 1099511627776) (w : World) (h : Ints w a xs) :
    Calls Try.prog 13 #[cx n (.slice a xs.length c), .int .i64 s] w fun e w' => ∃ v, e = .returned (.tuple #[cx (oN (linkO n xs s)) v, .bool (linkO n xs s).isSome]) ∧ OwnInts w' w.heap.size v (oL (linkO n xs s)) ∧ Below w.heap.size w w' := by
  have hb0 : Below w.heap.size w (((w.alloc (.cells #[.int .i64 n, .slice a xs.length c] 26)).alloc (Obj.cells #[.int .i64 s] 3)).alloc (.cells #[.int .i64 0, .slice none 0 0] 26)) := (((Below.refl _ _).alloc (Nat.le_refl _) _).alloc (by simp) _).alloc (by simp; omega) _
  have htc := ((Two.new w (.int .i64 n) (.slice a xs.length c) 26).alloc (Obj.cells #[.int .i64 s] 3)).alloc (.cells #[.int .i64 0, .slice none 0 0] 26)
  have htr := Two.new ((w.alloc (.cells #[.int .i64 n, .slice a xs.length c] 26)).alloc (Obj.cells #[.int .i64 s] 3)) (.int .i64 0) (.slice none 0 0) 26
  simp only [World.size_alloc] at htr
  have hk0 : ((w.alloc (.cells #[.int .i64 n, .slice a xs.length c] 26)).alloc (Obj.cells #[.int .i64 s] 3)).cell? ⟨w.heap.size + 1, 0, none⟩ = some (.int .i64 s) := by
    have e : (w.alloc (.cells #[.int .i64 n, .slice a xs.length c] 26)).heap.size = w.heap.size + 1 := by simp
    rw [← e]
    simp
  have hk1 : Below ((w.alloc (.cells #[.int .i64 n, .slice a xs.length c] 26)).alloc (Obj.cells #[.int .i64 s] 3)).heap.size ((w.alloc (.cells #[.int .i64 n, .slice a xs.length c] 26)).alloc (Obj.cells #[.int .i64 s] 3)) (((w.alloc (.cells #[.int .i64 n, .slice a xs.length c] 26)).alloc (Obj.cells #[.int .i64 s] 3)).alloc (.cells #[.int .i64 0, .slice none 0 0] 26)) := (Below.refl _ _).alloc (Nat.le_refl _) _
  have hk := (hk1.cell (p := ⟨w.heap.size + 1, 0, none⟩) (by simp)).trans hk0
  have hks : w.heap.size + 1 < (((w.alloc (.cells #[.int .i64 n, .slice a xs.length c] 26)).alloc (Obj.cells #[.int .i64 s] 3)).alloc (.cells #[.int .i64 0, .slice none 0 0] 26)).heap.size := by simp
  have hH := h.keeps hb0
  have hP : (isC n xs && setB n s) = true → Fam n (linkQ xs s.toNat) ∧ ∀ W : World, Below (((w.alloc (.cells #[.int .i64 n, .slice a xs.length c] 26)).alloc (Obj.cells #[.int .i64 s] 3)).alloc (.cells #[.int .i64 0, .slice none 0 0] 26)).heap.size (((w.alloc (.cells #[.int .i64 n, .slice a xs.length c] 26)).alloc (Obj.cells #[.int .i64 s] 3)).alloc (.cells #[.int .i64 0, .slice none 0 0] 26)) W → PredB 40 #[.pointer (some ⟨w.heap.size + 1, 0, none⟩), .pointer (some ⟨w.heap.size, 0, none⟩)] (linkQ xs s.toNat) W := by
    intro hok
    rw [Bool.and_eq_true] at hok
    obtain ⟨u, hsu, hu⟩ := okZ_cast s (setB_ok hok.2)
    have hsn : s.toNat = u := by rw [hsu]; rfl
    rw [hsn]
    refine ⟨link_fam hok.1 u, fun W hW => link1_pred n a c xs (isC_ok hok.1) hlen u hu w.heap.size (w.heap.size + 1) W (htc.keeps hW) (Nat.lt_of_lt_of_le hks hW.size) ((hW.cell (p := ⟨w.heap.size + 1, 0, none⟩) hks).trans (by rw [hk, hsu])) (hH.keeps hW)⟩
  have eg : ∀ args w, (callFunc 40 args).run Try.prog w = .ok (.enter 40 args) w := enters_of Try.func40 (by kernel_rfl) rfl
  have hQ := partAt_any n a c xs s hcap hlen 40 #[.pointer (some ⟨w.heap.size + 1, 0, none⟩), .pointer (some ⟨w.heap.size, 0, none⟩)] (linkQ xs s.toNat) (((w.alloc (.cells #[.int .i64 n, .slice a xs.length c] 26)).alloc (Obj.cells #[.int .i64 s] 3)).alloc (.cells #[.int .i64 0, .slice none 0 0] 26)) hH eg hP
  unfold linkO
  generalize partO (isC n xs && setB n s) n (linkQ xs s.toNat) = o at hQ ⊢
  have HQ := Lib.hid hQ
  have TR := Lib.hid htr
  have HB0 := Lib.hid hb0
  obtain ⟨t0, t1, t2, t3, t4⟩ := htc
  clear h hH hP eg hQ htr hb0 hks hk0 hk1
  go_enter Try.func13, Try.ntmps13
  go_wp2_with fail
  refine HQ.out.mono ?_
  rintro e w6 ⟨v, rfl, hO2, hb6⟩
  obtain ⟨a2, c2x, g2, rfl, hc2, hg2, hr2, _⟩ := OwnInts.ata hO2 hb6.size
  have hzb := TR.out.1
  have hz1 := HB0.out.size
  obtain ⟨r0, r1, r2, r3, r4⟩ := TR.out.keeps hb6
  have HO2 := Lib.hid hO2
  have HB6 : Hid (Below w.heap.size w w6) := HB0.out.trans (hb6.mono hz1)
  clear hO2 hr2 hb6
  go_wp2
  refine ret_cx2 (w.heap.size + 1 + 1) rfl rfl rfl (x := .int .i64 (oN o)) (y := .slice a2 (oL o).length c2x) (by go_simp) (by go_simp) rfl ?_
  exact ⟨_, rfl, (OwnInts.set (OwnInts.set HO2.out _ _ _ hzb) _ _ _ hzb).lower hz1, (HB6.out.setCell (by dsimp only; omega) _).setCell (by dsimp only; omega) _⟩

set_option maxRecDepth 100000 in
set_option maxHeartbeats 4000000 in
theorem implDel_any (n : Int) (a : Option Addr) (c : Nat) (xs : List Int) (s : Int) (hcap : xs.length ≤ c) (hlen : xs.length ≤ 1099511627776) (w : World) (h : Ints w a xs) :
    Calls Try.prog 17 #[cx n (.slice a xs.length c), .int .i64 s] w fun e w' => ∃ v, e = .returned (.tuple #[cx (oN (delO n xs s)) v, .bool (delO n xs s).isSome]) ∧ OwnInts w' w.heap.size v (oL (delO n xs s)) ∧ Below w.heap.size w w' := by
  have hb0 : Below w.heap.size w (((w.alloc (.cells #[.int .i64 n, .slice a xs.length c] 26)).alloc (Obj.cells #[.int .i64 s] 3)).alloc (.cells #[.int .i64 0, .slice none 0 0] 26)) := (((Below.refl _ _).alloc (Nat.le_refl _) _).alloc (by simp) _).alloc (by simp; omega) _
  have htc := ((Two.new w (.int .i64 n) (.slice a xs.length c) 26).alloc (Obj.cells #[.int .i64 s] 3)).alloc (.cells #[.int .i64 0, .slice none 0 0] 26)
  have htr := Two.new ((w.alloc (.cells #[.int .i64 n, .slice a xs.length c] 26)).alloc (Obj.cells #[.int .i64 s] 3)) (.int .i64 0) (.slice none 0 0) 26
  simp only [World.size_alloc] at htr
  have hk0 : ((w.alloc (.cells #[.int .i64 n, .slice a xs.length c] 26)).alloc (Obj.cells #[.int .i64 s] 3)).cell? ⟨w.heap.size + 1, 0, none⟩ = some (.int .i64 s) := by
    have e : (w.alloc (.cells #[.int .i64 n, .slice a xs.length c] 26)).heap.size = w.heap.size + 1 := by simp
    rw [← e]
    simp
  have hk1 : Below ((w.alloc (.cells #[.int .i64 n, .slice a xs.length c] 26)).alloc (Obj.cells #[.int .i64 s] 3)).heap.size ((w.alloc (.cells #[.int .i64 n, .slice a xs.length c] 26)).alloc (Obj.cells #[.int .i64 s] 3)) (((w.alloc (.cells #[.int .i64 n, .slice a xs.length c] 26)).alloc (Obj.cells #[.int .i64 s] 3)).alloc (.cells #[.int .i64 0, .slice none 0 0] 26)) := (Below.refl _ _).alloc (Nat.le_refl _) _
  have hk := (hk1.cell (p := ⟨w.heap.size + 1, 0, none⟩) (by simp)).trans hk0
  have hks : w.heap.size + 1 < (((w.alloc (.cells #[.int .i64 n, .slice a xs.length c] 26)).alloc (Obj.cells #[.int .i64 s] 3)).alloc (.cells #[.int .i64 0, .slice none 0 0] 26)).heap.size := by simp
  have hH := h.keeps hb0
  have hP : (isC n xs && setB n s) = true → Fam n (delQ xs s.toNat) ∧ ∀ W : World, Below (((w.alloc (.cells #[.int .i64 n, .slice a xs.length c] 26)).alloc (Obj.cells #[.int .i64 s] 3)).alloc (.cells #[.int .i64 0, .slice none 0 0] 26)).heap.size (((w.alloc (.cells #[.int .i64 n, .slice a xs.length c] 26)).alloc (Obj.cells #[.int .i64 s] 3)).alloc (.cells #[.int .i64 0, .slice none 0 0] 26)) W → PredB 46 #[.pointer (some ⟨w.heap.size, 0, none⟩), .pointer (some ⟨w.heap.size + 1, 0, none⟩)] (delQ xs s.toNat) W := by
    intro hok
    rw [Bool.and_eq_true] at hok
    obtain ⟨u, hsu, hu⟩ := okZ_cast s (setB_ok hok.2)
    have hsn : s.toNat = u := by rw [hsu]; rfl
    rw [hsn]
    refine ⟨del_fam hok.1 u, fun W hW => del1_pred n a c xs (isC_ok hok.1) hlen u hu w.heap.size (w.heap.size + 1) W (htc.keeps hW) (Nat.lt_of_lt_of_le hks hW.size) ((hW.cell (p := ⟨w.heap.size + 1, 0, none⟩) hks).trans (by rw [hk, hsu])) (hH.keeps hW)⟩
  have eg : ∀ args w, (callFunc 46 args).run Try.prog w = .ok (.enter 46 args) w := enters_of Try.func46 (by kernel_rfl) rfl
  have hQ := partAt_any n a c xs s hcap hlen 46 #[.pointer (some ⟨w.heap.size, 0, none⟩), .pointer (some ⟨w.heap.size + 1, 0, none⟩)] (delQ xs s.toNat) (((w.alloc (.cells #[.int .i64 n, .slice a xs.length c] 26)).alloc (Obj.cells #[.int .i64 s] 3)).alloc (.cells #[.int .i64 0, .slice none 0 0] 26)) hH eg hP
  unfold delO
  generalize partO (isC n xs && setB n s) n (delQ xs s.toNat) = o at hQ ⊢
  have HQ := Lib.hid hQ
  have TR := Lib.hid htr
  have HB0 := Lib.hid hb0
  obtain ⟨t0, t1, t2, t3, t4⟩ := htc
  clear h hH hP eg hQ htr hb0 hks hk0 hk1
  go_enter Try.func17, Try.ntmps17
  go_wp2_with fail
  refine HQ.out.mono ?_
  rintro e w6 ⟨v, rfl, hO2, hb6⟩
  obtain ⟨a2, c2x, g2, rfl, hc2, hg2, hr2, _⟩ := OwnInts.ata hO2 hb6.size
  have hzb := TR.out.1
  have hz1 := HB0.out.size
  obtain ⟨r0, r1, r2, r3, r4⟩ := TR.out.keeps hb6
  have HO2 := Lib.hid hO2
  have HB6 : Hid (Below w.heap.size w w6) := HB0.out.trans (hb6.mono hz1)
  clear hO2 hr2 hb6
  go_wp2
  refine ret_cx2 (w.heap.size + 1 + 1) rfl rfl rfl (x := .int .i64 (oN o)) (y := .slice a2 (oL o).length c2x) (by go_simp) (by go_simp) rfl ?_
  exact ⟨_, rfl, (OwnInts.set (OwnInts.set HO2.out _ _ _ hzb) _ _ _ hzb).lower hz1, (HB6.out.setCell (by dsimp only; omega) _).setCell (by dsimp only; omega) _⟩

set_option maxRecDepth 100000 in
set_option maxHeartbeats 4000000 in
theorem implInd_any (n : Int) (a : Option Addr) (c : Nat) (xs : List Int) (s : Int) (hcap : xs.length ≤ c) (hlen : xs.length ≤ 1099511627776) (w : World) (h : Ints w a xs) :
    Calls Try.prog 23 #[cx n (.slice a xs.length c), .int .i64 s] w fun e w' => ∃ v, e = .returned (.tuple #[cx (oN (indO n xs s)) v, .bool (indO n xs s).isSome]) ∧ OwnInts w' w.heap.size v (oL (indO n xs s)) ∧ Below w.heap.size w w' := by
  have hb0 : Below w.heap.size w (((w.alloc (.cells #[.int .i64 n, .slice a xs.length c] 26)).alloc (Obj.cells #[.int .i64 s] 3)).alloc (.cells #[.int .i64 0, .slice none 0 0] 26)) := (((Below.refl _ _).alloc (Nat.le_refl _) _).alloc (by simp) _).alloc (by simp; omega) _
  have htc := ((Two.new w (.int .i64 n) (.slice a xs.length c) 26).alloc (Obj.cells #[.int .i64 s] 3)).alloc (.cells #[.int .i64 0, .slice none 0 0] 26)
  have htr := Two.new ((w.alloc (.cells #[.int .i64 n, .slice a xs.length c] 26)).alloc (Obj.cells #[.int .i64 s] 3)) (.int .i64 0) (.slice none 0 0) 26
  simp only [World.size_alloc] at htr
  have hk0 : ((w.alloc (.cells #[.int .i64 n, .slice a xs.length c] 26)).alloc (Obj.cells #[.int .i64 s] 3)).cell? ⟨w.heap.size + 1, 0, none⟩ = some (.int .i64 s) := by
    have e : (w.alloc (.cells #[.int .i64 n, .slice a xs.length c] 26)).heap.size = w.heap.size + 1 := by simp
    rw [← e]
    simp
  have hk1 : Below ((w.alloc (.cells #[.int .i64 n, .slice a xs.length c] 26)).alloc (Obj.cells #[.int .i64 s] 3)).heap.size ((w.alloc (.cells #[.int .i64 n, .slice a xs.length c] 26)).alloc (Obj.cells #[.int .i64 s] 3)) (((w.alloc (.cells #[.int .i64 n, .slice a xs.length c] 26)).alloc (Obj.cells #[.int .i64 s] 3)).alloc (.cells #[.int .i64 0, .slice none 0 0] 26)) := (Below.refl _ _).alloc (Nat.le_refl _) _
  have hk := (hk1.cell (p := ⟨w.heap.size + 1, 0, none⟩) (by simp)).trans hk0
  have hks : w.heap.size + 1 < (((w.alloc (.cells #[.int .i64 n, .slice a xs.length c] 26)).alloc (Obj.cells #[.int .i64 s] 3)).alloc (.cells #[.int .i64 0, .slice none 0 0] 26)).heap.size := by simp
  have hH := h.keeps hb0
  have hP : (isC n xs && setB n s) = true → Fam n (indQ xs s.toNat) ∧ ∀ W : World, Below (((w.alloc (.cells #[.int .i64 n, .slice a xs.length c] 26)).alloc (Obj.cells #[.int .i64 s] 3)).alloc (.cells #[.int .i64 0, .slice none 0 0] 26)).heap.size (((w.alloc (.cells #[.int .i64 n, .slice a xs.length c] 26)).alloc (Obj.cells #[.int .i64 s] 3)).alloc (.cells #[.int .i64 0, .slice none 0 0] 26)) W → PredB 63 #[.pointer (some ⟨w.heap.size, 0, none⟩), .pointer (some ⟨w.heap.size + 1, 0, none⟩)] (indQ xs s.toNat) W := by
    intro hok
    rw [Bool.and_eq_true] at hok
    obtain ⟨u, hsu, hu⟩ := okZ_cast s (setB_ok hok.2)
    have hsn : s.toNat = u := by rw [hsu]; rfl
    rw [hsn]
    refine ⟨ind_fam hok.1 u, fun W hW => ind1_pred n a c xs (isC_ok hok.1) hlen u hu w.heap.size (w.heap.size + 1) W (htc.keeps hW) (Nat.lt_of_lt_of_le hks hW.size) ((hW.cell (p := ⟨w.heap.size + 1, 0, none⟩) hks).trans (by rw [hk, hsu])) (hH.keeps hW)⟩
  have eg : ∀ args w, (callFunc 63 args).run Try.prog w = .ok (.enter 63 args) w := enters_of Try.func63 (by kernel_rfl) rfl
  have hQ := partAt_any n a c xs s hcap hlen 63 #[.pointer (some ⟨w.heap.size, 0, none⟩), .pointer (some ⟨w.heap.size + 1, 0, none⟩)] (indQ xs s.toNat) (((w.alloc (.cells #[.int .i64 n, .slice a xs.length c] 26)).alloc (Obj.cells #[.int .i64 s] 3)).alloc (.cells #[.int .i64 0, .slice none 0 0] 26)) hH eg hP
  unfold indO
  generalize partO (isC n xs && setB n s) n (indQ xs s.toNat) = o at hQ ⊢
  have HQ := Lib.hid hQ
  have TR := Lib.hid htr
  have HB0 := Lib.hid hb0
  obtain ⟨t0, t1, t2, t3, t4⟩ := htc
  clear h hH hP eg hQ htr hb0 hks hk0 hk1
  go_enter Try.func23, Try.ntmps23
  go_wp2_with fail
  refine HQ.out.mono ?_
  rintro e w6 ⟨v, rfl, hO2, hb6⟩
  obtain ⟨a2, c2x, g2, rfl, hc2, hg2, hr2, _⟩ := OwnInts.ata hO2 hb6.size
  have hzb := TR.out.1
  have hz1 := HB0.out.size
  obtain ⟨r0, r1, r2, r3, r4⟩ := TR.out.keeps hb6
  have HO2 := Lib.hid hO2
  have HB6 : Hid (Below w.heap.size w w6) := HB0.out.trans (hb6.mono hz1)
  clear hO2 hr2 hb6
  go_wp2
  refine ret_cx2 (w.heap.size + 1 + 1) rfl rfl rfl (x := .int .i64 (oN o)) (y := .slice a2 (oL o).length c2x) (by go_simp) (by go_simp) rfl ?_
  exact ⟨_, rfl, (OwnInts.set (OwnInts.set HO2.out _ _ _ hzb) _ _ _ hzb).lower hz1, (HB6.out.setCell (by dsimp only; omega) _).setCell (by dsimp only; omega) _⟩

set_option maxRecDepth 100000 in
set_option maxHeartbeats 4000000 in
theorem implSkel_any (n : Int) (a : Option Addr) (c : Nat) (xs : List Int) (s : Int) (hcap : xs.length ≤ c) (hlen : xs.length ≤ 1099511627776) (w : World) (h : Ints w a xs) :
    Calls Try.prog 20 #[cx n (.slice a xs.length c), .int .i64 s] w fun e w' => ∃ v, e = .returned (.tuple #[cx (oN (skelO n xs s)) v, .bool (skelO n xs s).isSome]) ∧ OwnInts w' w.heap.size v (oL (skelO n xs s)) ∧ Below w.heap.size w w' := by
  have hb0 : Below w.heap.size w (((w.alloc (.cells #[.int .i64 n, .slice a xs.length c] 26)).alloc (Obj.cells #[.int .i64 s] 3)).alloc (.cells #[.int .i64 0, .slice none 0 0] 26)) := (((Below.refl _ _).alloc (Nat.le_refl _) _).alloc (by simp) _).alloc (by simp; omega) _
  have htc := ((Two.new w (.int .i64 n) (.slice a xs.length c) 26).alloc (Obj.cells #[.int .i64 s] 3)).alloc (.cells #[.int .i64 0, .slice none 0 0] 26)
  have htr := Two.new ((w.alloc (.cells #[.int .i64 n, .slice a xs.length c] 26)).alloc (Obj.cells #[.int .i64 s] 3)) (.int .i64 0) (.slice none 0 0) 26
  simp only [World.size_alloc] at htr
  have hk0 : ((w.alloc (.cells #[.int .i64 n, .slice a xs.length c] 26)).alloc (Obj.cells #[.int .i64 s] 3)).cell? ⟨w.heap.size + 1, 0, none⟩ = some (.int .i64 s) := by
    have e : (w.alloc (.cells #[.int .i64 n, .slice a xs.length c] 26)).heap.size = w.heap.size + 1 := by simp
    rw [← e]
    simp
  have hk1 : Below ((w.alloc (.cells #[.int .i64 n, .slice a xs.length c] 26)).alloc (Obj.cells #[.int .i64 s] 3)).heap.size ((w.alloc (.cells #[.int .i64 n, .slice a xs.length c] 26)).alloc (Obj.cells #[.int .i64 s] 3)) (((w.alloc (.cells #[.int .i64 n, .slice a xs.length c] 26)).alloc (Obj.cells #[.int .i64 s] 3)).alloc (.cells #[.int .i64 0, .slice none 0 0] 26)) := (Below.refl _ _).alloc (Nat.le_refl _) _
  have hk := (hk1.cell (p := ⟨w.heap.size + 1, 0, none⟩) (by simp)).trans hk0
  have hks : w.heap.size + 1 < (((w.alloc (.cells #[.int .i64 n, .slice a xs.length c] 26)).alloc (Obj.cells #[.int .i64 s] 3)).alloc (.cells #[.int .i64 0, .slice none 0 0] 26)).heap.size := by simp
  have hH := h.keeps hb0
  have HH := Lib.hid hH
  have TC := Lib.hid htc
  have TR := Lib.hid htr
  have HB0 := Lib.hid hb0
  have HK := Lib.hid (fun (W : World) (hW : Below (((w.alloc (.cells #[.int .i64 n, .slice a xs.length c] 26)).alloc (Obj.cells #[.int .i64 s] 3)).alloc (.cells #[.int .i64 0, .slice none 0 0] 26)).heap.size (((w.alloc (.cells #[.int .i64 n, .slice a xs.length c] 26)).alloc (Obj.cells #[.int .i64 s] 3)).alloc (.cells #[.int .i64 0, .slice none 0 0] 26)) W) => (⟨(hW.cell (p := ⟨w.heap.size + 1, 0, none⟩) hks).trans hk, Nat.lt_of_lt_of_le hks hW.size⟩ : W.cell? ⟨w.heap.size + 1, 0, none⟩ = some (.int .i64 s) ∧ w.heap.size + 1 < W.heap.size))
  obtain ⟨t0, t1, t2, t3, t4⟩ := htc
  clear h hH htr hb0 hks hk hk0 hk1
  cases hC : isC n xs with
  | false =>
    have HC := Lib.hid hC
    rw [show skelO n xs s = none from pO_no (by rw [hC]; rfl)]
    clear hC
    go_enter Try.func20, Try.ntmps20
    go_wp2_with fail
    refine (implIsC_b n _ _ xs hcap false HC.out hlen _ HH.out).mono ?_
    rintro e w1 ⟨rfl, hb1⟩
    obtain ⟨r0, r1, r2, r3, r4⟩ := TR.out.keeps hb1
    have HB1 : Hid (Below w.heap.size w w1) := HB0.out.trans (hb1.mono HB0.out.size)
    clear hb1
    go_wp2
    refine ret_cx2 (w.heap.size + 1 + 1) rfl rfl rfl (x := .int .i64 0) (y := .slice none 0 0) (by go_simp) (by go_simp) rfl ?_
    exact ⟨_, rfl, OwnInts.nil _ _, by first | exact (HB1.out.setCell (by dsimp only; omega) _).setCell (by dsimp only; omega) _ | exact HB1.out⟩
  | true =>
    by_cases h0 : s < 0
    · have HC := Lib.hid hC
      rw [show skelO n xs s = none from pO_no (by rw [hC, inB_false (by omega)]; rfl)]
      clear hC
      go_enter Try.func20, Try.ntmps20
      go_wp2_with fail
      refine (implIsC_b n _ _ xs hcap true HC.out hlen _ HH.out).mono ?_
      rintro e w1 ⟨rfl, hb1⟩
      obtain ⟨r0, r1, r2, r3, r4⟩ := TR.out.keeps hb1
      obtain ⟨k1, k2⟩ := HK.out w1 hb1
      have HB1 : Hid (Below w.heap.size w w1) := HB0.out.trans (hb1.mono HB0.out.size)
      clear hb1
      go_wp2
      refine ret_cx2 (w.heap.size + 1 + 1) rfl rfl rfl (x := .int .i64 0) (y := .slice none 0 0) (by go_simp) (by go_simp) rfl ?_
      exact ⟨_, rfl, OwnInts.nil _ _, by first | exact (HB1.out.setCell (by dsimp only; omega) _).setCell (by dsimp only; omega) _ | exact HB1.out⟩
    · by_cases h6 : 6 < s
      · have HC := Lib.hid hC
        rw [show skelO n xs s = none from pO_no (by rw [hC, inB_false (by omega)]; rfl)]
        clear hC
        go_enter Try.func20, Try.ntmps20
        go_wp2_with fail
        refine (implIsC_b n _ _ xs hcap true HC.out hlen _ HH.out).mono ?_
        rintro e w1 ⟨rfl, hb1⟩
        obtain ⟨r0, r1, r2, r3, r4⟩ := TR.out.keeps hb1
        obtain ⟨k1, k2⟩ := HK.out w1 hb1
        have HB1 : Hid (Below w.heap.size w w1) := HB0.out.trans (hb1.mono HB0.out.size)
        clear hb1
        go_wp2
        refine ret_cx2 (w.heap.size + 1 + 1) rfl rfl rfl (x := .int .i64 0) (y := .slice none 0 0) (by go_simp) (by go_simp) rfl ?_
        exact ⟨_, rfl, OwnInts.nil _ _, by first | exact (HB1.out.setCell (by dsimp only; omega) _).setCell (by dsimp only; omega) _ | exact HB1.out⟩
      · have HC := Lib.hid hC
        have HF := Lib.hid (skel_fam hC s)
        have HN := Lib.hid ((inB_iff _ _ _).2 (isC_n hC))
        rw [show skelO n xs s = some (n, maxQ (skelQ xs s)) from pO_yes (by rw [hC, inB_true (by omega) (by omega)]; rfl)]
        have eg : ∀ args w, (callFunc 54 args).run Try.prog w = .ok (.enter 54 args) w := enters_of Try.func54 (by kernel_rfl) rfl
        have EG := Lib.hid eg
        clear hC eg
        go_enter Try.func20, Try.ntmps20
        go_wp2_with fail
        refine (implIsC_b n _ _ xs hcap true HC.out hlen _ HH.out).mono ?_
        rintro e w1 ⟨rfl, hb1⟩
        have TC1 := Lib.hid (TC.out.keeps hb1)
        have TR1 := Lib.hid (TR.out.keeps hb1)
        have HH1 := Lib.hid (HH.out.keeps hb1)
        have HK1 := Lib.hid (HK.out w1 hb1)
        have HB1 : Hid (Below w.heap.size w w1) := HB0.out.trans (hb1.mono HB0.out.size)
        obtain ⟨k1, k2⟩ := HK.out w1 hb1
        clear hb1 t0 t1 t2 t3 t4
        obtain ⟨t0, t1, t2, t3, t4⟩ := TC1.out
        have hz1 := HB1.out.size
        go_wp2_with fail
        refine (partWhere_any n 54 #[.pointer (some ⟨w.heap.size, 0, none⟩), .pointer (some ⟨w.heap.size + 1, 0, none⟩)] (skelQ xs s) _ HN.out HF.out EG.out (fun W hW => skel1_pred n a c xs (isC_ok HC.out) hlen s w.heap.size (w.heap.size + 1) W (TC1.out.keeps hW) (Nat.lt_of_lt_of_le HK1.out.2 hW.size) ((hW.cell (p := ⟨w.heap.size + 1, 0, none⟩) HK1.out.2).trans HK1.out.1) (HH1.out.keeps hW))).mono ?_
        rintro e w6 ⟨v, rfl, hO2, hb6⟩
        obtain ⟨a2, c2x, g2, rfl, hc2, hg2, hr2, _⟩ := OwnInts.ata hO2 hb6.size
        have hzb := TR1.out.1
        obtain ⟨r0, r1, r2, r3, r4⟩ := TR1.out.keeps hb6
        have HO2 := Lib.hid hO2
        have HB6 : Hid (Below w.heap.size w w6) := HB1.out.trans (hb6.mono hz1)
        clear hO2 hr2 hb6
        go_wp2
        refine ret_cx2 (w.heap.size + 1 + 1) rfl rfl rfl (x := .int .i64 n) (y := .slice a2 (maxQ (skelQ xs s)).length c2x) (by go_simp) (by go_simp) rfl ?_
        exact ⟨_, rfl, (OwnInts.set (OwnInts.set HO2.out _ _ _ hzb) _ _ _ hzb).lower hz1, (HB6.out.setCell (by dsimp only; omega) _).setCell (by dsimp only; omega) _⟩

set_option maxRecDepth 100000 in
set_option maxHeartbeats 4000000 in
theorem partBoth_any (n m : Int) (pa pb : Option Addr) (ca cb : Nat) (xs ys : List Int) (hca : xs.length ≤ ca) (hcb : ys.length ≤ cb) (hlx : xs.length ≤ 1099511627776) (hly : ys.length ≤ 1099511627776) (g : Nat) (lb : Array Value) (q : Nat → Bool) (w : World) (hx : Ints w pa xs) (hy : Ints w pb ys)
    (eg : ∀ args w, (callFunc g args).run Try.prog w = .ok (.enter g args) w) (hp : bothOk n m xs ys = true → Fam n q ∧ ∀ W : World, Below w.heap.size w W → PredB g lb q W) :
    Calls Try.prog 66 #[cx n (.slice pa xs.length ca), cx m (.slice pb ys.length cb), .func (.func g) #[] lb] w fun e w' => ∃ v, e = .returned (.tuple #[cx (oN (partO (bothOk n m xs ys) n q)) v, .bool (partO (bothOk n m xs ys) n q).isSome]) ∧ OwnInts w' w.heap.size v (oL (partO (bothOk n m xs ys) n q)) ∧ Below w.heap.size w w' := by
  have hb0 : Below w.heap.size w (((w.alloc (.cells #[.int .i64 n, .slice pa xs.length ca] 26)).alloc (.cells #[.int .i64 m, .slice pb ys.length cb] 26)).alloc (.cells #[.int .i64 0, .slice none 0 0] 26)) := (((Below.refl _ _).alloc (Nat.le_refl _) _).alloc (by simp) _).alloc (by simp; omega) _
  have hta := ((Two.new w (.int .i64 n) (.slice pa xs.length ca) 26).alloc (.cells #[.int .i64 m, .slice pb ys.length cb] 26)).alloc (.cells #[.int .i64 0, .slice none 0 0] 26)
  have htb := (Two.new (w.alloc (.cells #[.int .i64 n, .slice pa xs.length ca] 26)) (.int .i64 m) (.slice pb ys.length cb) 26).alloc (.cells #[.int .i64 0, .slice none 0 0] 26)
  have htr := Two.new ((w.alloc (.cells #[.int .i64 n, .slice pa xs.length ca] 26)).alloc (.cells #[.int .i64 m, .slice pb ys.length cb] 26)) (.int .i64 0) (.slice none 0 0) 26
  simp only [World.size_alloc] at htb htr
  have hX := hx.keeps hb0
  have hY := hy.keeps hb0
  have TA := Lib.hid hta
  have TB := Lib.hid htb
  have TR := Lib.hid htr
  have HX := Lib.hid hX
  have HY := Lib.hid hY
  have HB0 := Lib.hid hb0
  have EG := Lib.hid eg
  obtain ⟨k0, k1, k2, k3, k4⟩ := hta
  obtain ⟨l0, l1, l2, l3, l4⟩ := htb
  clear hx hy htr hX hY hb0 eg
  cases hcx : isC n xs with
  | false =>
    have HCX := Lib.hid hcx
    rw [show partO (bothOk n m xs ys) n q = none from pO_no (by unfold bothOk; rw [hcx]; rfl)]
    clear hcx hp
    go_enter Try.func66, Try.ntmps66
    go_wp2_with fail
    refine (implIsC_b n _ _ xs hca false HCX.out hlx _ HX.out).mono ?_
    rintro e w1 ⟨rfl, hb1⟩
    obtain ⟨r0, r1, r2, r3, r4⟩ := TR.out.keeps hb1
    have HB1 : Hid (Below w.heap.size w w1) := HB0.out.trans (hb1.mono HB0.out.size)
    clear hb1
    go_wp2
    refine ret_cx2 (w.heap.size + 1 + 1) rfl rfl rfl (x := .int .i64 0) (y := .slice none 0 0) (by go_simp) (by go_simp) rfl ?_
    exact ⟨_, rfl, OwnInts.nil _ _, by first | exact (HB1.out.setCell (by dsimp only; omega) _).setCell (by dsimp only; omega) _ | exact HB1.out⟩
  | true =>
    cases hcy : isC m ys with
    | false =>
      have HCX := Lib.hid hcx
      have HCY := Lib.hid hcy
      rw [show partO (bothOk n m xs ys) n q = none from pO_no (by unfold bothOk; rw [hcx, hcy]; rfl)]
      clear hcx hcy hp
      go_enter Try.func66, Try.ntmps66
      go_wp2_with fail
      refine (implIsC_b n _ _ xs hca true HCX.out hlx _ HX.out).mono ?_
      rintro e w1 ⟨rfl, hb1⟩
      have TA1 := Lib.hid (TA.out.keeps hb1)
      have TB1 := Lib.hid (TB.out.keeps hb1)
      have TR1 := Lib.hid (TR.out.keeps hb1)
      have HY1 := Lib.hid (HY.out.keeps hb1)
      have HX1 := Lib.hid (HX.out.keeps hb1)
      have HBV1 : Hid (Below w.heap.size w w1) := HB0.out.trans (hb1.mono HB0.out.size)
      have HW1 := Lib.hid hb1
      clear hb1 l0 l1 l2 l3 l4
      obtain ⟨l0, l1, l2, l3, l4⟩ := TB1.out
      go_wp2_with fail
      refine (implIsC_b m _ _ ys hcb false HCY.out hly _ HY1.out).mono ?_
      rintro e w2 ⟨rfl, hb2⟩
      obtain ⟨r0, r1, r2, r3, r4⟩ := TR1.out.keeps hb2
      have HB1 : Hid (Below w.heap.size w w2) := HBV1.out.trans (hb2.mono HBV1.out.size)
      clear hb2
      go_wp2
      refine ret_cx2 (w.heap.size + 1 + 1) rfl rfl rfl (x := .int .i64 0) (y := .slice none 0 0) (by go_simp) (by go_simp) rfl ?_
      exact ⟨_, rfl, OwnInts.nil _ _, by first | exact (HB1.out.setCell (by dsimp only; omega) _).setCell (by dsimp only; omega) _ | exact HB1.out⟩
    | true =>
      by_cases hnm : n = m
      · have HCX := Lib.hid hcx
        have HCY := Lib.hid hcy
        have hbo : bothOk n m xs ys = true := by unfold bothOk; rw [hcx, hcy, hnm]; simp
        rw [show partO (bothOk n m xs ys) n q = some (n, maxQ q) from pO_yes hbo]
        have hp2 := hp hbo
        have HF := Lib.hid hp2.1
        have HP := Lib.hid hp2.2
        have HN := Lib.hid ((inB_iff _ _ _).2 (isC_n hcx))
        have hnn : (n == m) = true := by rw [hnm]; simp
        have HNM := Lib.hid hnm
        clear hcx hcy hp hp2 hnm hbo
        go_enter Try.func66, Try.ntmps66
        go_wp2_with fail
        refine (implIsC_b n _ _ xs hca true HCX.out hlx _ HX.out).mono ?_
        rintro e w1 ⟨rfl, hb1⟩
        have TA1 := Lib.hid (TA.out.keeps hb1)
        have TB1 := Lib.hid (TB.out.keeps hb1)
        have TR1 := Lib.hid (TR.out.keeps hb1)
        have HY1 := Lib.hid (HY.out.keeps hb1)
        have HX1 := Lib.hid (HX.out.keeps hb1)
        have HBV1 : Hid (Below w.heap.size w w1) := HB0.out.trans (hb1.mono HB0.out.size)
        have HW1 := Lib.hid hb1
        clear hb1 l0 l1 l2 l3 l4
        obtain ⟨l0, l1, l2, l3, l4⟩ := TB1.out
        go_wp2_with fail
        refine (implIsC_b m _ _ ys hcb true HCY.out hly _ HY1.out).mono ?_
        rintro e w2 ⟨rfl, hb2⟩
        have TA2 := Lib.hid (TA1.out.keeps hb2)
        have TB2 := Lib.hid (TB1.out.keeps hb2)
        have TR2 := Lib.hid (TR1.out.keeps hb2)
        have HB1 : Hid (Below w.heap.size w w2) := HBV1.out.trans (hb2.mono HBV1.out.size)
        have HW2 : Hid (Below (((w.alloc (.cells #[.int .i64 n, .slice pa xs.length ca] 26)).alloc (.cells #[.int .i64 m, .slice pb ys.length cb] 26)).alloc (.cells #[.int .i64 0, .slice none 0 0] 26)).heap.size (((w.alloc (.cells #[.int .i64 n, .slice pa xs.length ca] 26)).alloc (.cells #[.int .i64 m, .slice pb ys.length cb] 26)).alloc (.cells #[.int .i64 0, .slice none 0 0] 26)) w2) := HW1.out.trans (hb2.mono HW1.out.size)
        clear hb2 k0 k1 k2 k3 k4 l0 l1 l2 l3 l4
        obtain ⟨k0, k1, k2, k3, k4⟩ := TA2.out
        obtain ⟨l0, l1, l2, l3, l4⟩ := TB2.out
        go_wp2_with fail
        have hz1 := HB1.out.size
        refine (partWhere_any n g lb q _ HN.out HF.out EG.out (fun W hW => HP.out W (HB1.out.trans (hW.mono hz1)))).mono ?_
        rintro e w6 ⟨v, rfl, hO2, hb6⟩
        obtain ⟨a2, c2x, g2, rfl, hc2, hg2, hr2, _⟩ := OwnInts.ata hO2 hb6.size
        have hzb := TR2.out.1
        obtain ⟨r0, r1, r2, r3, r4⟩ := TR2.out.keeps hb6
        have HO2 := Lib.hid hO2
        have HB6 : Hid (Below w.heap.size w w6) := HB1.out.trans (hb6.mono hz1)
        clear hO2 hr2 hb6
        go_wp2
        refine ret_cx2 (w.heap.size + 1 + 1) rfl rfl rfl (x := .int .i64 n) (y := .slice a2 (maxQ q).length c2x) (by go_simp) (by go_simp) rfl ?_
        exact ⟨_, rfl, (OwnInts.set (OwnInts.set HO2.out _ _ _ hzb) _ _ _ hzb).lower hz1, (HB6.out.setCell (by dsimp only; omega) _).setCell (by dsimp only; omega) _⟩
      · have HCX := Lib.hid hcx
        have HCY := Lib.hid hcy
        have hnn : (n == m) = false := by simp [hnm]
        rw [show partO (bothOk n m xs ys) n q = none from pO_no (by unfold bothOk; rw [hcx, hcy, hnn]; rfl)]
        clear hcx hcy hp
        go_enter Try.func66, Try.ntmps66
        go_wp2_with fail
        refine (implIsC_b n _ _ xs hca true HCX.out hlx _ HX.out).mono ?_
        rintro e w1 ⟨rfl, hb1⟩
        have TA1 := Lib.hid (TA.out.keeps hb1)
        have TB1 := Lib.hid (TB.out.keeps hb1)
        have TR1 := Lib.hid (TR.out.keeps hb1)
        have HY1 := Lib.hid (HY.out.keeps hb1)
        have HX1 := Lib.hid (HX.out.keeps hb1)
        have HBV1 : Hid (Below w.heap.size w w1) := HB0.out.trans (hb1.mono HB0.out.size)
        have HW1 := Lib.hid hb1
        clear hb1 l0 l1 l2 l3 l4
        obtain ⟨l0, l1, l2, l3, l4⟩ := TB1.out
        go_wp2_with fail
        refine (implIsC_b m _ _ ys hcb true HCY.out hly _ HY1.out).mono ?_
        rintro e w2 ⟨rfl, hb2⟩
        have TA2 := Lib.hid (TA1.out.keeps hb2)
        have TB2 := Lib.hid (TB1.out.keeps hb2)
        have TR2 := Lib.hid (TR1.out.keeps hb2)
        have HB1 : Hid (Below w.heap.size w w2) := HBV1.out.trans (hb2.mono HBV1.out.size)
        have HW2 : Hid (Below (((w.alloc (.cells #[.int .i64 n, .slice pa xs.length ca] 26)).alloc (.cells #[.int .i64 m, .slice pb ys.length cb] 26)).alloc (.cells #[.int .i64 0, .slice none 0 0] 26)).heap.size (((w.alloc (.cells #[.int .i64 n, .slice pa xs.length ca] 26)).alloc (.cells #[.int .i64 m, .slice pb ys.length cb] 26)).alloc (.cells #[.int .i64 0, .slice none 0 0] 26)) w2) := HW1.out.trans (hb2.mono HW1.out.size)
        clear hb2 k0 k1 k2 k3 k4 l0 l1 l2 l3 l4
        obtain ⟨k0, k1, k2, k3, k4⟩ := TA2.out
        obtain ⟨l0, l1, l2, l3, l4⟩ := TB2.out
        obtain ⟨r0, r1, r2, r3, r4⟩ := TR2.out
        go_wp2
        refine ret_cx2 (w.heap.size + 1 + 1) rfl rfl rfl (x := .int .i64 0) (y := .slice none 0 0) (by go_simp) (by go_simp) rfl ?_
        exact ⟨_, rfl, OwnInts.nil _ _, by first | exact (HB1.out.setCell (by dsimp only; omega) _).setCell (by dsimp only; omega) _ | exact HB1.out⟩

set_option maxRecDepth 100000 in
set_option maxHeartbeats 2000000 in
theorem union1_pred (n m : Int) (pa pb : Option Addr) (ca cb : Nat) (xs ys : List Int) (hox : allOk xs = true) (hoy : allOk ys = true) (hlx : xs.length ≤ 1099511627776) (hly : ys.length ≤ 1099511627776) (A B : Nat) (w : World) (h1 : Two w A (.int .i64 n) (.slice pa xs.length ca)) (h2 : Two w B (.int .i64 m) (.slice pb ys.length cb)) (hx : Ints w pa xs) (hy : Ints w pb ys) :
    PredB 67 #[.pointer (some ⟨A, 0, none⟩), .pointer (some ⟨B, 0, none⟩)] (orQ xs ys) w := by
  intro W s hs hb
  have HX := Lib.hid (hx.keeps hb)
  have HY := Lib.hid (hy.keeps hb)
  have TB := Lib.hid (h2.keeps hb)
  obtain ⟨t0, t1, t2, _, _⟩ := h1.keeps hb
  obtain ⟨l0, l1, l2, _, _⟩ := h2.keeps hb
  show Calls Try.prog 67 #[.int .i64 (s : Int), .pointer (some ⟨A, 0, none⟩), .pointer (some ⟨B, 0, none⟩)] W _
  clear h1 h2 hx hy hb
  cases hf : inF xs s with
  | true =>
    have HF : Hid (orQ xs ys s = true) := by
      have : orQ xs ys s = true := by unfold orQ; rw [hf]; rfl
      exact this
    have HBV := Lib.hid ((inFZ_nat xs s hs).trans hf)
    clear hf
    go_enter Try.func67, Try.ntmps67
    go_wp2_with fail
    refine (inFacet_any n pa ca xs hox hlx (s : Int) (by omega) true HBV.out _ HX.out).mono ?_
    rintro e w1 ⟨rfl, hb1⟩
    go_wp2
    go_ret
    exact ⟨by rw [HF.out]; rfl, hb1⟩
  | false =>
    have HF : Hid (orQ xs ys s = inF ys s) := by
      have : orQ xs ys s = inF ys s := by unfold orQ; rw [hf]; rfl
      exact this
    have HBV := Lib.hid ((inFZ_nat xs s hs).trans hf)
    clear hf
    generalize hbv : inF ys s = b at *
    have HBW := Lib.hid ((inFZ_nat ys s hs).trans hbv)
    clear hbv
    go_enter Try.func67, Try.ntmps67
    go_wp2_with fail
    refine (inFacet_any n pa ca xs hox hlx (s : Int) (by omega) false HBV.out _ HX.out).mono ?_
    rintro e w1 ⟨rfl, hb1⟩
    have HB1 := Lib.hid hb1
    have hz1 := hb1.size
    clear l0 l1 l2
    obtain ⟨l0, l1, l2, _, _⟩ := TB.out.keeps hb1
    clear hb1
    go_wp2_with fail
    refine (inFacet_any m pb cb ys hoy hly (s : Int) (by omega) b HBW.out _ (HY.out.keeps HB1.out)).mono ?_
    rintro e w2 ⟨rfl, hb2⟩
    go_wp2
    go_ret
    exact ⟨by rw [HF.out]; rfl, HB1.out.trans (hb2.mono hz1)⟩

set_option maxRecDepth 100000 in
set_option maxHeartbeats 2000000 in
theorem meet1_pred (n m : Int) (pa pb : Option Addr) (ca cb : Nat) (xs ys : List Int) (hox : allOk xs = true) (hoy : allOk ys = true) (hlx : xs.length ≤ 1099511627776) (hly : ys.length ≤ 1099511627776) (A B : Nat) (w : World) (h1 : Two w A (.int .i64 n) (.slice pa xs.length ca)) (h2 : Two w B (.int .i64 m) (.slice pb ys.length cb)) (hx : Ints w pa xs) (hy : Ints w pb ys) :
    PredB 68 #[.pointer (some ⟨A, 0, none⟩), .pointer (some ⟨B, 0, none⟩)] (andQ xs ys) w := by
  intro W s hs hb
  have HX := Lib.hid (hx.keeps hb)
  have HY := Lib.hid (hy.keeps hb)
  have TB := Lib.hid (h2.keeps hb)
  obtain ⟨t0, t1, t2, _, _⟩ := h1.keeps hb
  obtain ⟨l0, l1, l2, _, _⟩ := h2.keeps hb
  show Calls Try.prog 68 #[.int .i64 (s : Int), .pointer (some ⟨A, 0, none⟩), .pointer (some ⟨B, 0, none⟩)] W _
  clear h1 h2 hx hy hb
  cases hf : inF xs s with
  | false =>
    have HF : Hid (andQ xs ys s = false) := by
      have : andQ xs ys s = false := by unfold andQ; rw [hf]; rfl
      exact this
    have HBV := Lib.hid ((inFZ_nat xs s hs).trans hf)
    clear hf
    go_enter Try.func68, Try.ntmps68
    go_wp2_with fail
    refine (inFacet_any n pa ca xs hox hlx (s : Int) (by omega) false HBV.out _ HX.out).mono ?_
    rintro e w1 ⟨rfl, hb1⟩
    go_wp2
    go_ret
    exact ⟨by rw [HF.out]; rfl, hb1⟩
  | true =>
    have HF : Hid (andQ xs ys s = inF ys s) := by
      have : andQ xs ys s = inF ys s := by unfold andQ; rw [hf]; rfl
      exact this
    have HBV := Lib.hid ((inFZ_nat xs s hs).trans hf)
    clear hf
    generalize hbv : inF ys s = b at *
    have HBW := Lib.hid ((inFZ_nat ys s hs).trans hbv)
    clear hbv
    go_enter Try.func68, Try.ntmps68
    go_wp2_with fail
    refine (inFacet_any n pa ca xs hox hlx (s : Int) (by omega) true HBV.out _ HX.out).mono ?_
    rintro e w1 ⟨rfl, hb1⟩
    have HB1 := Lib.hid hb1
    have hz1 := hb1.size
    clear l0 l1 l2
    obtain ⟨l0, l1, l2, _, _⟩ := TB.out.keeps hb1
    clear hb1
    go_wp2_with fail
    refine (inFacet_any m pb cb ys hoy hly (s : Int) (by omega) b HBW.out _ (HY.out.keeps HB1.out)).mono ?_
    rintro e w2 ⟨rfl, hb2⟩
    go_wp2
    go_ret
    exact ⟨by rw [HF.out]; rfl, HB1.out.trans (hb2.mono hz1)⟩

set_option maxRecDepth 100000 in
set_option maxHeartbeats 4000000 in
theorem implUnion_any (n m : Int) (pa pb : Option Addr) (ca cb : Nat) (xs ys : List Int) (hca : xs.length ≤ ca) (hcb : ys.length ≤ cb) (hlx : xs.length ≤ 1099511627776) (hly : ys.length ≤ 1099511627776) (w : World) (hx : Ints w pa xs) (hy : Ints w pb ys) :
    Calls Try.prog 26 #[cx n (.slice pa xs.length ca), cx m (.slice pb ys.length cb)] w fun e w' => ∃ v, e = .returned (.tuple #[cx (oN (unionO n m xs ys)) v, .bool (unionO n m xs ys).isSome]) ∧ OwnInts w' w.heap.size v (oL (unionO n m xs ys)) ∧ Below w.heap.size w w' := by
  have hb0 : Below w.heap.size w (((w.alloc (.cells #[.int .i64 n, .slice pa xs.length ca] 26)).alloc (.cells #[.int .i64 m, .slice pb ys.length cb] 26)).alloc (.cells #[.int .i64 0, .slice none 0 0] 26)) := (((Below.refl _ _).alloc (Nat.le_refl _) _).alloc (by simp) _).alloc (by simp; omega) _
  have hta := ((Two.new w (.int .i64 n) (.slice pa xs.length ca) 26).alloc (.cells #[.int .i64 m, .slice pb ys.length cb] 26)).alloc (.cells #[.int .i64 0, .slice none 0 0] 26)
  have htb := (Two.new (w.alloc (.cells #[.int .i64 n, .slice pa xs.length ca] 26)) (.int .i64 m) (.slice pb ys.length cb) 26).alloc (.cells #[.int .i64 0, .slice none 0 0] 26)
  have htr := Two.new ((w.alloc (.cells #[.int .i64 n, .slice pa xs.length ca] 26)).alloc (.cells #[.int .i64 m, .slice pb ys.length cb] 26)) (.int .i64 0) (.slice none 0 0) 26
  simp only [World.size_alloc] at htb htr
  have hX := hx.keeps hb0
  have hY := hy.keeps hb0
  have hP : bothOk n m xs ys = true → Fam n (orQ xs ys) ∧ ∀ W : World, Below (((w.alloc (.cells #[.int .i64 n, .slice pa xs.length ca] 26)).alloc (.cells #[.int .i64 m, .slice pb ys.length cb] 26)).alloc (.cells #[.int .i64 0, .slice none 0 0] 26)).heap.size (((w.alloc (.cells #[.int .i64 n, .slice pa xs.length ca] 26)).alloc (.cells #[.int .i64 m, .slice pb ys.length cb] 26)).alloc (.cells #[.int .i64 0, .slice none 0 0] 26)) W → PredB 67 #[.pointer (some ⟨w.heap.size, 0, none⟩), .pointer (some ⟨w.heap.size + 1, 0, none⟩)] (orQ xs ys) W := by
    intro hok
    unfold bothOk at hok
    rw [Bool.and_eq_true, Bool.and_eq_true] at hok
    obtain ⟨⟨hcx, hcy⟩, hnm⟩ := hok
    have hnm : n = m := by simpa using hnm
    exact ⟨or_fam hcx (by rw [hnm]; exact hcy), fun W hW => union1_pred n m pa pb ca cb xs ys (isC_ok hcx) (isC_ok hcy) hlx hly w.heap.size (w.heap.size + 1) W (hta.keeps hW) (htb.keeps hW) (hX.keeps hW) (hY.keeps hW)⟩
  have eg : ∀ args w, (callFunc 67 args).run Try.prog w = .ok (.enter 67 args) w := enters_of Try.func67 (by kernel_rfl) rfl
  have hQ := partBoth_any n m pa pb ca cb xs ys hca hcb hlx hly 67 #[.pointer (some ⟨w.heap.size, 0, none⟩), .pointer (some ⟨w.heap.size + 1, 0, none⟩)] (orQ xs ys) (((w.alloc (.cells #[.int .i64 n, .slice pa xs.length ca] 26)).alloc (.cells #[.int .i64 m, .slice pb ys.length cb] 26)).alloc (.cells #[.int .i64 0, .slice none 0 0] 26)) hX hY eg hP
  unfold unionO
  generalize partO (bothOk n m xs ys) n (orQ xs ys) = o at hQ ⊢
  have HQ := Lib.hid hQ
  have TR := Lib.hid htr
  have HB0 := Lib.hid hb0
  obtain ⟨k0, k1, k2, k3, k4⟩ := hta
  obtain ⟨l0, l1, l2, l3, l4⟩ := htb
  clear hx hy hX hY hP eg hQ htr hb0
  go_enter Try.func26, Try.ntmps26
  go_wp2_with fail
  refine HQ.out.mono ?_
  rintro e w6 ⟨v, rfl, hO2, hb6⟩
  obtain ⟨a2, c2x, g2, rfl, hc2, hg2, hr2, _⟩ := OwnInts.ata hO2 hb6.size
  have hzb := TR.out.1
  have hz1 := HB0.out.size
  obtain ⟨r0, r1, r2, r3, r4⟩ := TR.out.keeps hb6
  have HO2 := Lib.hid hO2
  have HB6 : Hid (Below w.heap.size w w6) := HB0.out.trans (hb6.mono hz1)
  clear hO2 hr2 hb6
  go_wp2
  refine ret_cx2 (w.heap.size + 1 + 1) rfl rfl rfl (x := .int .i64 (oN o)) (y := .slice a2 (oL o).length c2x) (by go_simp) (by go_simp) rfl ?_
  exact ⟨_, rfl, (OwnInts.set (OwnInts.set HO2.out _ _ _ hzb) _ _ _ hzb).lower hz1, (HB6.out.setCell (by dsimp only; omega) _).setCell (by dsimp only; omega) _⟩

set_option maxRecDepth 100000 in
set_option maxHeartbeats 4000000 in
theorem implMeet_any (n m : Int) (pa pb : Option Addr) (ca cb : Nat) (xs ys : List Int) (hca : xs.length ≤ ca) (hcb : ys.length ≤ cb) (hlx : xs.length ≤ 1099511627776) (hly : ys.length ≤ 1099511627776) (w : World) (hx : Ints w pa xs) (hy : Ints w pb ys) :
    Calls Try.prog 28 #[cx n (.slice pa xs.length ca), cx m (.slice pb ys.length cb)] w fun e w' => ∃ v, e = .returned (.tuple #[cx (oN (meetO n m xs ys)) v, .bool (meetO n m xs ys).isSome]) ∧ OwnInts w' w.heap.size v (oL (meetO n m xs ys)) ∧ Below w.heap.size w w' := by
  have hb0 : Below w.heap.size w (((w.alloc (.cells #[.int .i64 n, .slice pa xs.length ca] 26)).alloc (.cells #[.int .i64 m, .slice pb ys.length cb] 26)).alloc (.cells #[.int .i64 0, .slice none 0 0] 26)) := (((Below.refl _ _).alloc (Nat.le_refl _) _).alloc (by simp) _).alloc (by simp; omega) _
  have hta := ((Two.new w (.int .i64 n) (.slice pa xs.length ca) 26).alloc (.cells #[.int .i64 m, .slice pb ys.length cb] 26)).alloc (.cells #[.int .i64 0, .slice none 0 0] 26)
  have htb := (Two.new (w.alloc (.cells #[.int .i64 n, .slice pa xs.length ca] 26)) (.int .i64 m) (.slice pb ys.length cb) 26).alloc (.cells #[.int .i64 0, .slice none 0 0] 26)
  have htr := Two.new ((w.alloc (.cells #[.int .i64 n, .slice pa xs.length ca] 26)).alloc (.cells #[.int .i64 m, .slice pb ys.length cb] 26)) (.int .i64 0) (.slice none 0 0) 26
  simp only [World.size_alloc] at htb htr
  have hX := hx.keeps hb0
  have hY := hy.keeps hb0
  have hP : bothOk n m xs ys = true → Fam n (andQ xs ys) ∧ ∀ W : World, Below (((w.alloc (.cells #[.int .i64 n, .slice pa xs.length ca] 26)).alloc (.cells #[.int .i64 m, .slice pb ys.length cb] 26)).alloc (.cells #[.int .i64 0, .slice none 0 0] 26)).heap.size (((w.alloc (.cells #[.int .i64 n, .slice pa xs.length ca] 26)).alloc (.cells #[.int .i64 m, .slice pb ys.length cb] 26)).alloc (.cells #[.int .i64 0, .slice none 0 0] 26)) W → PredB 68 #[.pointer (some ⟨w.heap.size, 0, none⟩), .pointer (some ⟨w.heap.size + 1, 0, none⟩)] (andQ xs ys) W := by
    intro hok
    unfold bothOk at hok
    rw [Bool.and_eq_true, Bool.and_eq_true] at hok
    obtain ⟨⟨hcx, hcy⟩, hnm⟩ := hok
    have hnm : n = m := by simpa using hnm
    exact ⟨and_fam ys hcx, fun W hW => meet1_pred n m pa pb ca cb xs ys (isC_ok hcx) (isC_ok hcy) hlx hly w.heap.size (w.heap.size + 1) W (hta.keeps hW) (htb.keeps hW) (hX.keeps hW) (hY.keeps hW)⟩
  have eg : ∀ args w, (callFunc 68 args).run Try.prog w = .ok (.enter 68 args) w := enters_of Try.func68 (by kernel_rfl) rfl
  have hQ := partBoth_any n m pa pb ca cb xs ys hca hcb hlx hly 68 #[.pointer (some ⟨w.heap.size, 0, none⟩), .pointer (some ⟨w.heap.size + 1, 0, none⟩)] (andQ xs ys) (((w.alloc (.cells #[.int .i64 n, .slice pa xs.length ca] 26)).alloc (.cells #[.int .i64 m, .slice pb ys.length cb] 26)).alloc (.cells #[.int .i64 0, .slice none 0 0] 26)) hX hY eg hP
  unfold meetO
  generalize partO (bothOk n m xs ys) n (andQ xs ys) = o at hQ ⊢
  have HQ := Lib.hid hQ
  have TR := Lib.hid htr
  have HB0 := Lib.hid hb0
  obtain ⟨k0, k1, k2, k3, k4⟩ := hta
  obtain ⟨l0, l1, l2, l3, l4⟩ := htb
  clear hx hy hX hY hP eg hQ htr hb0
  go_enter Try.func28, Try.ntmps28
  go_wp2_with fail
  refine HQ.out.mono ?_
  rintro e w6 ⟨v, rfl, hO2, hb6⟩
  obtain ⟨a2, c2x, g2, rfl, hc2, hg2, hr2, _⟩ := OwnInts.ata hO2 hb6.size
  have hzb := TR.out.1
  have hz1 := HB0.out.size
  obtain ⟨r0, r1, r2, r3, r4⟩ := TR.out.keeps hb6
  have HO2 := Lib.hid hO2
  have HB6 : Hid (Below w.heap.size w w6) := HB0.out.trans (hb6.mono hz1)
  clear hO2 hr2 hb6
  go_wp2
  refine ret_cx2 (w.heap.size + 1 + 1) rfl rfl rfl (x := .int .i64 (oN o)) (y := .slice a2 (oL o).length c2x) (by go_simp) (by go_simp) rfl ?_
  exact ⟨_, rfl, (OwnInts.set (OwnInts.set HO2.out _ _ _ hzb) _ _ _ hzb).lower hz1, (HB6.out.setCell (by dsimp only; omega) _).setCell (by dsimp only; omega) _⟩

end Go.Proofs.Ytpakjcagdnnedaa
