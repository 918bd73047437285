/-
  WALKS: impl.CoversOf.
-/
import Derived.Test.YtnpmhofeiflpeaaWDualI
namespace Go.Proofs.Ytnpmhofeiflpeaa
open Go.RowKit
open Sets Hom

/-- The least sets of all that meet the list have no point beyond n. -/
theorem minimal_meets {n : Int} {xs : List Int} (h : setsOf n xs = true) : minimal (ord (meets xs)) = minQ (coverQ n xs) := by
  have hh := (setsOf_iff n xs).1 h
  have hn := (inB_iff _ _ _).1 hh.1
  have h64 := pow_le64 n hn.1 hn.2
  have hm : minimal (ord (meets xs)) = minQ (meets xs) := minimal_of _ _ fun x => mem_ord _ x
  rw [hm]
  have low : ∀ s : Nat, s < 64 → setB n (s : Int) = decide (s < 2 ^ n.toNat) := fun s _ => setB_lt n s (by omega) hn.2
  have cut : ∀ s : Nat, meets xs s = true → meets xs (s % 2 ^ n.toNat) = true := fun s hs => by
    unfold meets at hs ⊢
    rw [List.all_eq_true] at hs ⊢
    intro f hf
    have h1 := hs f hf
    obtain ⟨t, rfl, ht⟩ := okZ_cast f (setB_ok (hh.2.2 f hf))
    have h2 := hh.2.2 _ hf
    rw [low t ht, decide_eq_true_iff] at h2
    rw [Int.toNat_natCast, Bool.not_eq_true', Bool.eq_false_iff] at h1 ⊢
    intro h3
    refine h1 ((apart_iff _ _).2 fun i hi => (apart_iff _ _).1 h3 i ⟨?_, hi.2⟩)
    rw [Nat.testBit_mod_two_pow, hi.1]
    have : i < n.toNat := by
      by_cases e : i < n.toNat
      · exact e
      · have := Nat.testBit_lt_two_pow (Nat.lt_of_lt_of_le h2 (Nat.pow_le_pow_right (by decide) (Nat.le_of_not_lt e)))
        rw [this] at hi; cases hi.2
    simp [this]
  have subm : ∀ s : Nat, sub (s % 2 ^ n.toNat) s = true := fun s => (sub_iff _ _).2 fun i hi => by
    rw [Nat.testBit_mod_two_pow] at hi
    simp at hi; exact hi.2
  refine rises_eq _ _ (minQ_rises _) (minQ_rises _) fun x => ?_
  rw [mem_minQ, mem_minQ]
  constructor
  · rintro ⟨s, rfl, hs, hq, hu⟩
    have hp : 0 < 2 ^ n.toNat := Nat.two_pow_pos _
    have hlt := Nat.mod_lt s hp
    have e := hu _ (by omega) (cut s hq) (subm s)
    refine ⟨s, rfl, hs, ?_, fun t ht h1 h2 => hu t ht ?_ h2⟩
    · unfold coverQ; rw [hq, low s hs]; simp; omega
    · unfold coverQ at h1; rw [Bool.and_eq_true] at h1; exact h1.2
  · rintro ⟨s, rfl, hs, hq, hu⟩
    unfold coverQ at hq
    rw [Bool.and_eq_true, low s hs, decide_eq_true_iff] at hq
    refine ⟨s, rfl, hs, hq.2, fun t ht h1 h2 => hu t ht ?_ h2⟩
    have := sub_le h2
    unfold coverQ; rw [h1, low t ht]; simp; omega

set_option maxRecDepth 100000 in
theorem meets1_asks (s : Nat) (hs : s < 64) (xs : List Int) (hok : allOk xs = true) (B : Nat) (w : World) (hB : B < w.heap.size) (hc : w.cell? ⟨B, 0, none⟩ = some (.int .i64 (s : Int))) :
    Asks 61 #[.pointer (some ⟨B, 0, none⟩)] (fun f => apart s f.toNat) xs w := by
  intro W j hj hb
  have hf := allOk_at xs hok j hj
  generalize xs.getD j 0 = f at *
  obtain ⟨t, rfl, ht⟩ := okZ_cast f hf
  have d1 : W.cell? ⟨B, 0, none⟩ = some (.int .i64 (s : Int)) := (hb.cell (p := ⟨B, 0, none⟩) hB).trans hc
  have ha : (bits BinOp.and IntKind.i64 (s : Int) (t : Int) == 0) = apart s t := by
    rw [and_natP s t hs ht]; unfold apart
    generalize s &&& t = u
    rw [Bool.eq_iff_iff]; simp
  show Calls Try.prog 61 #[.int .i64 (t : Int), .pointer (some ⟨B, 0, none⟩)] W fun e w' => e = .returned (.bool (apart s ((t : Int).toNat))) ∧ ∃ m, w' = W.drewN m
  rw [Int.toNat_natCast, ← ha]
  clear hc hb hok hj hs hf ha
  go_enter Try.func61, Try.ntmps61
  go_wp2
  go_ret
  exact ⟨rfl, 0, rfl⟩

theorem meets_not (xs : List Int) (s : Nat) : meets xs s = !(xs.any fun f => apart s f.toNat) := by
  unfold meets; rw [List.not_any_eq_all_not]

set_option maxRecDepth 100000 in
set_option maxHeartbeats 2000000 in
theorem meetsAll_any (s : Nat) (hs : s < 64) (a : Option Addr) (c : Nat) (xs : List Int) (hok : allOk xs = true) (hlen : xs.length ≤ 1099511627776) (w : World) (h : Ints w a xs) :
    Calls Try.prog 43 #[.int .i64 (s : Int), .slice a xs.length c] w fun e w' => e = .returned (.bool (meets xs s)) ∧ Below w.heap.size w w' := by
  rw [meets_not]
  obtain ⟨b, hb⟩ : ∃ b, (xs.any fun f => apart s f.toNat) = b := ⟨_, rfl⟩
  have hb0 : Below w.heap.size w (w.alloc (Obj.cells #[Value.int IntKind.i64 (s : Int)] 3)) := (Below.refl _ _).alloc (Nat.le_refl _) _
  have eg : ∀ args w, (callFunc 61 args).run Try.prog w = .ok (.enter 61 args) w := enters_of Try.func61 (by kernel_rfl) rfl
  have hc := contains_bel 61 #[.pointer (some ⟨w.heap.size, 0, none⟩)] _ b a c xs hb _ eg (meets1_asks s hs xs hok w.heap.size _ (by simp) (by simp)) hlen (h.keeps hb0)
  rw [hb]
  have HC := Lib.hid hc
  have HB0 := Lib.hid hb0
  clear hc eg h hb hok hb0
  go_enter Try.func43, Try.ntmps43
  go_wp2_with fail
  refine HC.out.mono ?_
  rintro e w1 ⟨rfl, hb1⟩
  go_wp2
  go_ret
  exact ⟨rfl, HB0.out.trans (hb1.mono (by simp))⟩

set_option maxRecDepth 100000 in
set_option maxHeartbeats 2000000 in
theorem covers1_pred (a : Option Addr) (c : Nat) (xs : List Int) (hok : allOk xs = true) (hlen : xs.length ≤ 1099511627776) (B : Nat) (w : World) (hB : B < w.heap.size) (hk : w.cell? ⟨B, 0, none⟩ = some (.slice a xs.length c)) (h : Ints w a xs) :
    PredB 42 #[.pointer (some ⟨B, 0, none⟩)] (meets xs) w := by
  intro W s hs hb
  have hc := meetsAll_any s hs a c xs hok hlen W (h.keeps hb)
  have k1 := (hb.cell (p := ⟨B, 0, none⟩) hB).trans hk
  show Calls Try.prog 42 #[.int .i64 (s : Int), .pointer (some ⟨B, 0, none⟩)] W _
  have HC := Lib.hid hc
  clear hc hb h hok hk
  go_enter Try.func42, Try.ntmps42
  go_wp2_with fail
  refine HC.out.mono ?_
  rintro e w1 ⟨rfl, hb1⟩
  go_wp2
  go_ret
  exact ⟨rfl, hb1⟩

set_option maxRecDepth 100000 in
set_option maxHeartbeats 4000000 in
theorem implCovers_any (n : Int) (a : Option Addr) (c : Nat) (xs : List Int) (hlen : xs.length ≤ 1099511627776) (w : World) (h : Ints w a xs) :
    Calls Try.prog 20 #[.int .i64 n, .slice a xs.length c] w fun e w' => ∃ v, e = .returned v ∧ OwnInts w' w.heap.size v (coversL n xs) ∧ Below w.heap.size w w' := by
  have hb0 : Below w.heap.size w (w.alloc (Obj.cells #[Value.slice a xs.length c] 24)) := (Below.refl _ _).alloc (Nat.le_refl _) _
  have hk : (w.alloc (Obj.cells #[Value.slice a xs.length c] 24)).cell? ⟨w.heap.size, 0, none⟩ = some (.slice a xs.length c) := by simp
  have HH := Lib.hid (h.keeps hb0)
  have HB0 := Lib.hid hb0
  clear h hb0
  cases hS : setsOf n xs with
  | false =>
    have HS := Lib.hid hS
    rw [covers_no hS]
    clear hS
    go_enter Try.func20, Try.ntmps20
    go_wp2_with fail
    refine (areSets_any n _ _ xs hlen false HS.out _ HH.out).mono ?_
    rintro e w1 ⟨rfl, hb1⟩
    go_wp2
    go_ret
    exact ⟨_, rfl, OwnInts.nil _ _, HB0.out.trans (hb1.mono HB0.out.size)⟩
  | true =>
    have HS := Lib.hid hS
    have HOK := Lib.hid (setsOf_ok hS)
    have HM := Lib.hid (minimal_meets hS)
    rw [covers_yes hS]
    clear hS
    have eg : ∀ args w, (callFunc 42 args).run Try.prog w = .ok (.enter 42 args) w := enters_of Try.func42 (by kernel_rfl) rfl
    have EG := Lib.hid eg
    clear eg
    go_enter Try.func20, Try.ntmps20
    go_wp2_with fail
    refine (areSets_any n _ _ xs hlen true HS.out _ HH.out).mono ?_
    rintro e w1 ⟨rfl, hb1⟩
    have HB1 : Hid (Below w.heap.size w w1) := HB0.out.trans (hb1.mono HB0.out.size)
    have hI1 := HH.out.keeps hb1
    have hk1 := (hb1.cell (p := ⟨w.heap.size, 0, none⟩) (by simp)).trans hk
    have hsz1 := hb1.size
    rw [World.size_alloc] at hsz1
    have HP := Lib.hid (covers1_pred a c xs HOK.out hlen w.heap.size w1 (by omega) hk1 hI1)
    clear hb1 hk hI1 HH
    go_wp2_with fail
    refine (setsWhere_bel _ _ _ _ EG.out HP.out).mono ?_
    rintro e w2 ⟨v, rfl, hO, hb2⟩
    obtain ⟨a2, c2, g2, rfl, hc2, hg2, hr2, _⟩ := OwnInts.ata hO hb2.size
    have HB2 : Hid (Below w.heap.size w w2) := HB1.out.trans (hb2.mono (by omega))
    have HR2 := Lib.hid hr2.ints
    have hl2 : (ord (meets xs)).length ≤ 1099511627776 := Nat.le_trans (ord_le _) (by decide)
    have hsz2 := HB2.out.size
    clear hO hb2 hr2 hk1
    go_wp2_with fail
    refine (implMinimal_any a2 c2 (ord (meets xs)) hl2 _ HR2.out).mono ?_
    rintro e w3 ⟨v, rfl, hO, hb3⟩
    rw [HM.out] at hO
    have HO := Lib.hid hO
    have HB3 : Hid (Below w.heap.size w w3) := HB2.out.trans (hb3.mono hsz2)
    clear hO hb3
    go_wp2
    go_ret
    exact ⟨v, rfl, HO.out.lower hsz2, HB3.out⟩

end Go.Proofs.Ytnpmhofeiflpeaa
