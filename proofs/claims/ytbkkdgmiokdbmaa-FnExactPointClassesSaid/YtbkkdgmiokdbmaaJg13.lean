/-
  TEXTS of one claim, put together: WMissS2, WNamS2.
-/
import Derived.Test.YtbkkdgmiokdbmaaJg12
import Derived.Test.YtbkkdgmiokdbmaaJg10
/-! WALKS: spec.l7From, spec.FromMissing. -/

namespace Go.Proofs.Ytbkkdgmiokdbmaa
open Go.RowKit
open Sets

theorem fromS_no {n : Int} {xs : List Int} (h : setsOf n xs = false) : fromO n xs = none := by unfold fromO; rw [h]; rfl
theorem fromS_yes {n : Int} {xs : List Int} (h : setsOf n xs = true) : fromO n xs = some (n, maxQ (avoidQ n xs)) := by unfold fromO; rw [h]; rfl
theorem ok_atS {xs : List Int} (h : allOk xs = true) (k : Nat) (hk : k < xs.length) : ∃ t : Nat, xs.getD k 0 = (t : Int) ∧ t < 64 := by
  refine ok_nat h ?_
  rw [List.getD, List.getElem?_eq_getElem hk]; exact List.getElem_mem hk
theorem abv_take (xs : List Int) (k : Nat) (hk : k < xs.length) (s : Nat) : abv (xs.take (k + 1)) s = (abv (xs.take k) s || sub (xs.getD k 0).toNat s) := by
  have e : xs.take (k + 1) = xs.take k ++ [xs.getD k 0] := by
    rw [List.take_add_one, List.getD, List.getElem?_eq_getElem hk]; rfl
  rw [e]
  unfold abv
  rw [List.any_append]; simp
theorem abv_takeT (xs : List Int) (k : Nat) (hk : k < xs.length) (t : Nat) (ht : xs.getD k 0 = (t : Int)) (s : Nat) (b c : Bool) (hb : abv (xs.take k) s = b) (hc : sub t s = c) : abv (xs.take (k + 1)) s = (b || c) := by
  rw [abv_take xs k hk, hb, ht]
  show (b || sub t s) = _
  rw [hc]
theorem shl_powS (n : Int) (h1 : 1 ≤ n) (h2 : n ≤ 6) : wrap64 (2 ^ n.toNat) = ((2 ^ n.toNat : Nat) : Int) := by
  rcases seven n (by omega) h2 with rfl | rfl | rfl | rfl | rfl | rfl | rfl <;> decide +kernel

end Go.Proofs.Ytbkkdgmiokdbmaa

/-! WALKS: spec's chapter 9: a set's new names; RenameSet; a complex's new names; RenameComplex. -/

namespace Go.Proofs.Ytbkkdgmiokdbmaa
open Go.RowKit
open Sets Nam

/-- a list of names, as a row of numbers. -/
structure Nms (n : Nat) (xs : List Int) : Prop where
  len : xs.length = n
  lo : 1 ≤ n
  hi : n ≤ 6
  names : Names n (toN xs)
  at_ : ∀ i, i < n → ∃ t : Nat, xs.getD i 0 = (t : Int) ∧ t < n ∧ pt (toN xs) i = t
theorem Nms.of {n : Int} {xs : List Int} (h : nmsB n xs = true) : Nms n.toNat xs := by
  obtain ⟨h1, h2, h3, h4, h5⟩ := nms_names h
  exact ⟨by omega, by omega, by omega, h4, fun i hi => h5 i (by omega)⟩

theorem Nms.tolen {n : Nat} {xs : List Int} (_h : Nms n xs) : (toN xs).length = n := by unfold toN; rw [List.length_map, _h.len]

theorem bit_hit {s k : Nat} (hs : s < 64) (hb : s.testBit k = true) : bits BinOp.and IntKind.i64 ((s : Int) / 2 ^ k) 1 = 1 := by
  rw [shr_and s k hs, bit_div, if_pos hb]; rfl
theorem bit_miss {s k : Nat} (hs : s < 64) (hb : s.testBit k = false) : bits BinOp.and IntKind.i64 ((s : Int) / 2 ^ k) 1 = 0 := by
  rw [shr_and s k hs, bit_div, if_neg (by rw [hb]; simp)]; rfl
theorem wrap_up {u t : Nat} (hu : u < 64) (ht : t < 6) : wrap64 ((u : Int) + wrap64 (2 ^ t)) = ((u + 2 ^ t : Nat) : Int) := by
  have : t = 0 ∨ t = 1 ∨ t = 2 ∨ t = 3 ∨ t = 4 ∨ t = 5 := by omega
  rcases this with rfl | rfl | rfl | rfl | rfl | rfl <;> (unfold wrap64; omega)

theorem pow_le_of {t : Nat} (h : t < 6) : (2 : Nat) ^ t < 64 := Nat.pow_lt_pow_right (n := 6) (by decide) (by omega)

set_option maxRecDepth 100000 in
set_option maxHeartbeats 400000 in
theorem l9Set_any (s : Nat) (a : Option Addr) (c : Nat) (xs : List Int) (n : Nat) (hN : Nms n xs) (hs : s < 64) (w : World) (h : Ints w a xs) :
    Calls Try.prog 32 #[.int .i64 (s : Int), .slice a n c] w fun e w' => e = .returned (.int .i64 ((ren (toN xs) s : Nat) : Int)) ∧ w = w' := by
  have HH := Lib.hid h
  have HN := Lib.hid hN
  have hn1 := hN.lo
  have hn2 := hN.hi
  clear h hN
  go_enter Try.func32, Try.ntmps32
  go_wp2
  go_loop [5, 6] (fun o i => ∃ k : Nat, k ≤ n ∧ o = .int .i64 ((renU (toN xs) s k : Nat) : Int) ∧ i = .int .i64 (k : Int)) (fun _ i => n - (intOf i).toNat)
  case atStart => exact ⟨0, Nat.zero_le _, rfl, rfl⟩
  case round =>
    obtain ⟨k, hk, rfl, rfl⟩ := hrel
    by_cases hlt : k < n
    · obtain ⟨b1, o1, rfl, g1⟩ := HH.out k (by rw [HN.out.len]; exact hlt)
      obtain ⟨t, ht, htn, hp⟩ := HN.out.at_ k hlt
      rw [ht] at g1
      have hu := renU_lt HN.out.hi HN.out.names s k hk
      have hpw := pow_le_of (show t < 6 by omega)
      have hpi : ((2 ^ t : Nat) : Int) = 2 ^ t := by rw [Int.natCast_pow]; rfl
      have HT := Lib.hid ht
      have HP := Lib.hid hp
      have HPW := Lib.hid hpw
      have HPI := Lib.hid hpi
      clear ht hp hpw hpi
      cases hb : s.testBit k with
      | true =>
        have HU : Hid (renU (toN xs) s (k + 1) = renU (toN xs) s k + 2 ^ t) := by
          have := renU_hit HN.out.hi HN.out.names s hlt hb
          rw [HP.out] at this; exact this
        have hbit := bit_hit (k := k) hs hb
        clear hb
        generalize renU (toN xs) s k = u at *
        go_wp2
        go_round
        case rel => exact ⟨k + 1, by omega, by rw [HU.out]; exact (congrArg (Value.int .i64) (wrap_up hu (by omega))), by go_num⟩
        case measure => simp [intOf]; omega
      | false =>
        have HU := Lib.hid (renU_miss (toN xs) s hb)
        have hbit := bit_miss (k := k) hs hb
        clear hb
        generalize renU (toN xs) s k = u at *
        go_wp2
        go_round
        case rel => exact ⟨k + 1, by omega, by rw [HU.out], by go_num⟩
        case measure => simp [intOf]; omega
    · have : k = n := by omega
      subst this
      have HR : Hid (renU (toN xs) s k = ren (toN xs) s) := by
        have : renU (toN xs) s k = ren (toN xs) s := by unfold ren; rw [HN.out.tolen]
        exact this
      go_wp2
      go_ret
      exact ⟨by rw [HR.out]; rfl, rfl⟩

theorem renSO_yes {s : Int} {xs : List Int} (h1 : nmsB xs.length xs = true) (h2 : setB xs.length s = true) : renSO s xs = some (ren (toN xs) s.toNat) := by unfold renSO; rw [if_pos ⟨h1, h2⟩]
theorem renSO_no1 {s : Int} {xs : List Int} (h1 : nmsB xs.length xs = false) : renSO s xs = none := by unfold renSO; rw [if_neg (by rw [h1]; simp)]
theorem renSO_no2 {s : Int} {xs : List Int} (h1 : setB xs.length s = false) : renSO s xs = none := by unfold renSO; rw [if_neg (by rw [h1]; simp)]

set_option maxRecDepth 100000 in
set_option maxHeartbeats 1000000 in
theorem specRenameSet_any (s : Int) (a : Option Addr) (c : Nat) (xs : List Int) (hcap : xs.length ≤ c) (hlen : xs.length ≤ 1099511627776) (w : World) (h : Ints w a xs) :
    Calls Try.prog 9 #[.int .i64 s, .slice a xs.length c] w fun e w' => e = .returned (.tuple #[.int .i64 (((renSO s xs).getD 0 : Nat) : Int), .bool (renSO s xs).isSome]) ∧ Below w.heap.size w w' := by
  have HH := Lib.hid h
  clear h
  cases h1 : nmsB xs.length xs with
  | false =>
    rw [renSO_no1 h1]
    have H1 := Lib.hid h1
    clear h1
    go_enter Try.func9, Try.ntmps9
    go_wp2_with fail
    refine (l9Names_any _ _ _ xs hcap hlen (by omega) false H1.out _ HH.out).mono ?_
    rintro e w1 ⟨rfl, hb1⟩
    have HB1 := Lib.hid hb1
    clear hb1
    go_wp2
    go_ret2
    exact ⟨rfl, HB1.out⟩
  | true =>
    have HN := Lib.hid (Nms.of h1)
    have H1 := Lib.hid h1
    cases h2 : setB xs.length s with
    | false =>
      rw [renSO_no2 h2]
      have H2 := Lib.hid h2
      clear h1 h2
      go_enter Try.func9, Try.ntmps9
      go_wp2_with fail
      refine (l9Names_any _ _ _ xs hcap hlen (by omega) true H1.out _ HH.out).mono ?_
      rintro e w1 ⟨rfl, hb1⟩
      have HB1 := Lib.hid hb1
      clear hb1
      go_wp2_with fail
      refine (specIsSet_b _ s false H2.out _).mono ?_
      rintro e w2 ⟨rfl, rfl⟩
      go_wp2
      go_ret2
      exact ⟨rfl, HB1.out⟩
    | true =>
      rw [renSO_yes h1 h2]
      have H2 := Lib.hid h2
      obtain ⟨t, rfl⟩ : ∃ t : Nat, s = (t : Int) := ⟨s.toNat, by have := ((setB_iff _ _).1 h2).2.2.1; omega⟩
      have ht : t < 64 := by
        have := (okZ_iff _).1 (setB_ok h2)
        omega
      clear h1 h2
      go_enter Try.func9, Try.ntmps9
      go_wp2_with fail
      refine (l9Names_any _ _ _ xs hcap hlen (by omega) true H1.out _ HH.out).mono ?_
      rintro e w1 ⟨rfl, hb1⟩
      have HB1 := Lib.hid hb1
      clear hb1
      go_wp2_with fail
      refine (specIsSet_b _ (t : Int) true H2.out _).mono ?_
      rintro e w2 ⟨rfl, rfl⟩
      go_wp2_with fail
      refine (l9Set_any t _ _ xs xs.length HN.out ht _ (HH.out.keeps HB1.out)).mono ?_
      rintro e w3 ⟨rfl, rfl⟩
      go_wp2
      go_ret2
      exact ⟨rfl, HB1.out⟩

end Go.Proofs.Ytbkkdgmiokdbmaa
