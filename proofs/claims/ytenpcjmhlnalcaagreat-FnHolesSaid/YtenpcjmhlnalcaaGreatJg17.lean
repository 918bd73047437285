/-
  TEXTS of one claim, put together: WFmt, WCxText, WRead, WParse.
-/
import Derived.Test.YtenpcjmhlnalcaaGreatJg16
import Derived.WalkSmall
import Derived.Test.YtenpcjmhlnalcaaGreatJg5
import Derived.Test.YtenpcjmhlnalcaaGreatJg1
import Derived.Lib.ItoaLen
import Derived.Deep.RegionHeld3
import Derived.Deep.DeepCutAuto
import Derived.Deep.QuietTactic
import Derived.BigQuiet
import Derived.Lib.IndexBytes
import Derived.Lib.Strings
import Derived.Defers
import Derived.Recover
import Derived.Lib.AtoiErrMem
/-! WALKS: impl.FormatInt returns the decimal numeral of every int, where the library's table holds what it is laid with; and the law on both. -/

namespace Go.Proofs.YtenpcjmhlnalcaaGreat
open Go.RowKit

theorem below_grow (w : World) (k : Nat) (os : Array Obj) : Below w.heap.size w (Sort.grow (w.drewN k) os) :=
  ⟨rfl, rfl, rfl, by simp [Sort.grow, World.drewN], fun i hi => by simp only [Sort.grow, World.drewN]; rw [Array.getElem?_append_left hi]⟩

/-- The library's table of powers of ten. -/
def Tab (w : World) : Prop := Lib.TabIs Tryz.prog w "internal/strconv.uint64pow10" .u64 Lib.pow10Tab

end Go.Proofs.YtenpcjmhlnalcaaGreat

/-! WALKS: ComplexText, spec's and impl's: the count of the points, a colon, the facets' texts. -/

namespace Go.Proofs.YtenpcjmhlnalcaaGreat
open Go.RowKit
open Sets

theorem setsText_size (xs : List Int) : (setsText xs).size ≤ 7 * xs.length := by
  have h1 : (setsText xs).size = (joined (txts xs xs.length) ⟨#[44]⟩ (txts xs xs.length).length).length := by unfold setsText; simp [ByteArray.size]
  rw [h1]
  have h2 := joined_length (txts xs xs.length) ⟨#[44]⟩ (txts xs xs.length).length (Nat.le_refl _)
  have h3 := bytesOf_le (txts xs xs.length) 6 (fun x hx => by
    unfold txts at hx
    obtain ⟨y, _, rfl⟩ := List.mem_map.1 hx
    exact txt_size y)
  have h4 := txts_length xs xs.length
  have h5 : (⟨#[44]⟩ : ByteArray).size = 1 := rfl
  rw [h5] at h2
  omega
/-- ComplexText. -/
def cxText (n : Int) (xs : List Int) : ByteArray := if isC n xs = true then (⟨(Lib.itoa n).toArray⟩ ++ ⟨#[58]⟩) ++ setsText xs else ⟨#[]⟩

end Go.Proofs.YtenpcjmhlnalcaaGreat

/-! WALKS: spec.l1Read, spec.ParseInt, spec.ParseNumber: they answer by 'readF'. -/

namespace Go.Proofs.YtenpcjmhlnalcaaGreat
open Go.RowKit
open Num (readF body neg num dval isDig allDig)

theorem neg_at (s : ByteArray) (h : 0 < s.size) : neg s.data.toList = ((s[0].toNat : Int) == 45) := by
  unfold neg
  have e : s.data.toList.head? = some s[0] := by
    rw [List.head?_eq_getElem?, Array.getElem?_toList]; exact Array.getElem?_eq_getElem h
  rw [e, Bool.eq_iff_iff]
  simp only [decide_eq_true_eq, beq_iff_eq, Option.some.injEq]
  constructor
  · intro h; rw [h]; rfl
  · intro h; exact UInt8.toNat_inj.1 (by have : (45 : UInt8).toNat = 45 := rfl; omega)
theorem neg_empty (s : ByteArray) (h : ¬ 0 < s.size) : neg s.data.toList = false := by
  have e : s.data.toList = [] := List.eq_nil_of_length_eq_zero (by rw [Array.length_toList]; show s.size = 0; omega)
  rw [e]; rfl
theorem neg_pos (s : ByteArray) (h : neg s.data.toList = true) : 1 ≤ s.size := by
  by_cases h1 : 0 < s.size
  · exact h1
  · rw [neg_empty s h1] at h; cases h

theorem tail_body (s : ByteArray) (h : neg s.data.toList = true) : (s.extract 1 s.size).data.toList = body s.data.toList := by
  unfold body
  rw [h, if_pos rfl, Lib.extract_to_end]

theorem size_list (t : ByteArray) : t.data.toList.length = t.size := Array.length_toList
theorem readF_short (m : Nat) (l : List UInt8) (tb : ByteArray) (h : tb.data.toList = body l) (h1 : tb.size < 1 ∨ m < tb.size) : readF m l = none := by
  unfold readF
  rw [← h, size_list, if_pos h1]
theorem readF_bad (m : Nat) (l : List UInt8) (tb : ByteArray) (k : Nat) (hk : k < tb.size) (h : tb.data.toList = body l) (h1 : isDig tb[k] = false) : readF m l = none := by
  unfold readF
  have hall : allDig (body l) = false := by
    rw [← h]
    unfold allDig
    rw [List.all_eq_false]
    refine ⟨tb[k], ?_, by rw [h1]; simp⟩
    have : tb.data.toList[k]? = some tb[k] := by rw [Array.getElem?_toList]; exact Array.getElem?_eq_getElem hk
    exact List.mem_of_getElem? this
  rw [if_pos hall, ite_self]
theorem readF_good (m : Nat) (l : List UInt8) (tb : ByteArray) (h : tb.data.toList = body l) (h0 : ¬ tb.size < 1) (h1 : ¬ m < tb.size) (h2 : allDig (body l) = true) : readF m l = if Lib.itoa (num l) = l then some (num l) else none := by
  unfold readF
  rw [← h, size_list, if_neg (by omega), h, h2]
  simp
theorem ne_of_test {l : List UInt8} {s : ByteArray} (h : (!l == s.toList) = true) : l ≠ s.data.toList := by
  rw [ByteArray.toList_eq] at h
  simpa using h
theorem eq_of_test {l : List UInt8} {s : ByteArray} (h : (!l == s.toList) = false) : l = s.data.toList := by
  rw [ByteArray.toList_eq] at h
  simpa using h
theorem read_end {o : Option Int} {l : List UInt8} {n v : Int} {x : Int} {b : Bool} (h : o = if Lib.itoa n = l then some n else none) (hv : n = v)
    (hc : (Lib.itoa v ≠ l ∧ x = 0 ∧ b = false) ∨ (Lib.itoa v = l ∧ x = v ∧ b = true)) : Ending.returned (.tuple #[.int .i64 x, .bool b]) = .returned (.tuple #[.int .i64 (o.getD 0), .bool o.isSome]) := by
  subst hv
  rcases hc with ⟨h1, rfl, rfl⟩ | ⟨h1, rfl, rfl⟩
  · rw [if_neg h1] at h; subst h; rfl
  · rw [if_pos h1] at h; subst h; rfl
theorem take_snoc (s : ByteArray) (k : Nat) (h : k < s.size) : s.data.toList.take (k + 1) = s.data.toList.take k ++ [s[k]] := by
  rw [List.take_succ_eq_append_getElem (by simpa using h)]; rfl
theorem dval_bound (tb : ByteArray) (k : Nat) (hk : k ≤ 12) (h : allDig (tb.data.toList.take k) = true) : dval 0 (tb.data.toList.take k) < 1000000000000 := by
  have h1 := Num.dval_lt _ 0 h
  have h2 : (tb.data.toList.take k).length ≤ 12 := Nat.le_trans (List.length_take_le _ _) hk
  have h3 : 10 ^ (tb.data.toList.take k).length ≤ 10 ^ 12 := Nat.pow_le_pow_right (by decide) h2
  have h4 : (10 : Nat) ^ 12 = 1000000000000 := by decide
  omega
theorem dval_next (tb : ByteArray) (k : Nat) (hk : k < tb.size) : dval 0 (tb.data.toList.take (k + 1)) = 10 * dval 0 (tb.data.toList.take k) + (tb[k].toNat - 48) := by
  rw [take_snoc tb k hk, Num.dval_append, Num.dval_cons, Num.dval_nil]
theorem all_next (tb : ByteArray) (k : Nat) (hk : k < tb.size) (h : allDig (tb.data.toList.take k) = true) (h1 : isDig tb[k] = true) : allDig (tb.data.toList.take (k + 1)) = true := by
  rw [take_snoc tb k hk]
  unfold allDig at h ⊢
  rw [List.all_append, h]
  simp [h1]

set_option maxRecDepth 100000 in
set_option maxHeartbeats 1000000 in
theorem read_any (s : ByteArray) (m : Nat) (hm : 1 ≤ m) (hm2 : m ≤ 12) (hs : s.size ≤ 281474976710656) (w : World) :
    Calls Tryz.prog 112 #[.string s, .int .i64 m] w fun e w' => e = .returned (.tuple #[.int .i64 ((readF m s.data.toList).getD 0), .bool (readF m s.data.toList).isSome]) ∧ Below w.heap.size w w' := by
  go_enter Tryz.func112, Tryz.ntmps112
  go_upto_region 1 with fail
  go_cut [6] (fun b wx => b = .bool (neg s.data.toList) ∧ wx = w)
  case first =>
    go_wp2_with fail
    · have h : 0 < s.size := by assumption
      go_meet
      exact ⟨by rw [neg_at s h], rfl⟩
    · have h : ¬ 0 < s.size := by assumption
      go_meet
      exact ⟨by rw [neg_empty s h], rfl⟩
  case rest =>
    obtain ⟨rfl, rfl⟩ := hcut
    go_upto_if 19 with fail
    go_cut [6, 7] (fun b t wx => b = .bool (neg s.data.toList) ∧ ∃ tb : ByteArray, t = .string tb ∧ tb.data.toList = body s.data.toList ∧ wx = wc)
    case first =>
      cases hn : neg s.data.toList
      · have hN : Hid (neg s.data.toList = false) := hn
        clear hn
        go_wp2_with fail
        go_meet
        exact ⟨by rw [hN.out], s, rfl, by unfold body; rw [hN.out]; rfl, rfl⟩
      · have h1 := neg_pos s hn
        have hN : Hid (neg s.data.toList = true) := hn
        clear hn
        go_wp2_with fail
        go_meet
        exact ⟨by rw [hN.out], _, rfl, tail_body s hN.out, rfl⟩
    case rest =>
      obtain ⟨rfl, tb, rfl, ht, rfl⟩ := hcut
      have HT : Hid (tb.data.toList = body s.data.toList) := ht
      clear ht
      by_cases hlo : tb.size < 1
      · go_wp2
        go_ret2
        exact ⟨by rw [readF_short m _ tb HT.out (Or.inl hlo)]; rfl, Below.refl _ _⟩
      · by_cases hhi : m < tb.size
        · go_wp2
          go_ret2
          exact ⟨by rw [readF_short m _ tb HT.out (Or.inr hhi)]; rfl, Below.refl _ _⟩
        · have hlo' : decide ((tb.size : Int) < 1) = false := by simp; omega
          go_wp2
          go_loop [8, 9] (fun n i => ∃ k : Nat, k ≤ tb.size ∧ i = .int .i64 k ∧ n = .int .i64 (dval 0 (tb.data.toList.take k) : Nat) ∧ allDig (tb.data.toList.take k) = true) (fun _ i => tb.size - (intOf i).toNat)
          case atStart => exact ⟨0, Nat.zero_le _, rfl, rfl, rfl⟩
          case round =>
            obtain ⟨k, hk, rfl, rfl, hall⟩ := hrel
            have hv := dval_bound tb k (by omega) hall
            by_cases hlt : k < tb.size
            · have hnx := Lib.hid (dval_next tb k hlt)
              have hax := fun h => all_next tb k hlt hall h
              have HA : Hid (isDig tb[k] = true → allDig (tb.data.toList.take (k + 1)) = true) := hax
              clear hax
              have HALL : Hid (allDig (tb.data.toList.take k) = true) := hall
              clear hall
              generalize dval 0 (tb.data.toList.take k) = v at *
              by_cases h1 : (tb[k].toNat : Int) < 48
              · go_wp2
                go_ret2
                exact ⟨by rw [readF_bad m _ tb k hlt HT.out (by unfold isDig; simp; omega)]; rfl, Below.refl _ _⟩
              · by_cases h2 : 57 < (tb[k].toNat : Int)
                · go_wp2
                  go_ret2
                  exact ⟨by rw [readF_bad m _ tb k hlt HT.out (by unfold isDig; simp; omega)]; rfl, Below.refl _ _⟩
                · go_wp2
                  go_round
                  case rel => exact ⟨k + 1, by omega, by go_num, by rw [hnx.out]; go_num, HA.out (by unfold isDig; simp; omega)⟩
                  case measure => simp [intOf]; omega
            · have hfull : tb.data.toList.take k = body s.data.toList := by
                rw [List.take_of_length_le (by rw [size_list]; omega)]; exact HT.out
              have hg := readF_good m s.data.toList tb HT.out hlo hhi (by rw [← hfull]; exact hall)
              have HG : Hid (readF m s.data.toList = if Lib.itoa (num s.data.toList) = s.data.toList then some (num s.data.toList) else none) := hg
              rw [hfull] at hv
              rw [hfull]
              clear hfull hg hall
              have HNUM : Hid (num s.data.toList = if neg s.data.toList = true then -((dval 0 (body s.data.toList) : Nat) : Int) else ((dval 0 (body s.data.toList) : Nat) : Int)) := rfl
              generalize dval 0 (body s.data.toList) = v at *
              cases hn : neg s.data.toList
              · have hnum : num s.data.toList = (v : Int) := by rw [HNUM.out, hn]; rfl
                have HV := Lib.hid hnum
                clear hnum
                have HN := Lib.hid hn
                clear hn
                go_wp2_with fail
                refine (format_any (v : Int) (by omega) (by omega) _).mono ?_
                rintro e w1 ⟨rfl, hb1⟩
                go_wp2_with fail
                · have hq : (!Lib.itoa (v : Int) == s.toList) = true := by assumption
                  go_ret2
                  exact ⟨read_end HG.out HV.out (Or.inl ⟨ne_of_test hq, rfl, rfl⟩), hb1⟩
                · have hq : (!Lib.itoa (v : Int) == s.toList) = false := by assumption
                  go_ret2
                  exact ⟨read_end HG.out HV.out (Or.inr ⟨eq_of_test hq, rfl, rfl⟩), hb1⟩
              · have hnum : num s.data.toList = -(v : Int) := by rw [HNUM.out, hn]; rfl
                have HV := Lib.hid hnum
                clear hnum
                have HN := Lib.hid hn
                clear hn
                go_wp2_with fail
                refine (format_any (-(v : Int)) (by omega) (by omega) _).mono ?_
                rintro e w1 ⟨rfl, hb1⟩
                go_wp2_with fail
                · have hq : (!Lib.itoa (-(v : Int)) == s.toList) = true := by assumption
                  go_ret2
                  exact ⟨read_end HG.out HV.out (Or.inl ⟨ne_of_test hq, rfl, rfl⟩), hb1⟩
                · have hq : (!Lib.itoa (-(v : Int)) == s.toList) = false := by assumption
                  go_ret2
                  exact ⟨read_end HG.out HV.out (Or.inr ⟨eq_of_test hq, rfl, rfl⟩), hb1⟩

/-- Two results of a reading: the number and whether there is one. -/
def two (o : Option Int) : Ending := .returned (.tuple #[.int .i64 (o.getD 0), .bool o.isSome])

set_option maxRecDepth 100000 in
theorem specInt_any (s : ByteArray) (hs : s.size ≤ 281474976710656) (w : World) :
    Calls Tryz.prog 104 #[.string s] w fun e w' => e = two (readF 12 s.data.toList) ∧ Below w.heap.size w w' := by
  unfold two
  go_enter Tryz.func104, Tryz.ntmps104
  go_wp2_with fail
  refine (read_any s 12 (by omega) (by omega) hs _).mono ?_
  rintro e w1 ⟨rfl, hb1⟩
  go_wp2
  go_ret2
  exact ⟨rfl, hb1⟩

theorem num_some (m : Nat) (hm : 1 ≤ m) (hm2 : m ≤ 12) (l : List UInt8) (n : Int) (h : readF m l = some n) : -1000000000000 < n ∧ n < 1000000000000 := by
  obtain ⟨k, rfl⟩ : ∃ k, m = k + 1 := ⟨m - 1, by omega⟩
  rw [Num.readF_iff] at h
  have h3 : 10 ^ (k + 1) ≤ 10 ^ 12 := Nat.pow_le_pow_right (by decide) (by omega)
  have h4 : (10 : Nat) ^ 12 = 1000000000000 := by decide
  omega

end Go.Proofs.YtenpcjmhlnalcaaGreat

/-! WALKS: impl.ParseInt and impl.ParseNumber answer by 'implF' and 'numberF': the reader panics where the text is no integer in range, and the deferred call recovers. -/

namespace Go.Proofs.YtenpcjmhlnalcaaGreat
open Go.RowKit
open Num (implF numberF)

def Panics (w : World) (e : Ending) (w' : World) : Prop := ∃ t x, e = .panicked [{ v := .iface t x, recovered := false }] ∧ Below w.heap.size w w'

/-- What the library's reader does with a text: a number, or an error. -/
def Fails (w : World) (e : Ending) (w' : World) : Prop := ∃ x t y, e = .returned (.tuple #[.int .i64 x, .iface t y]) ∧ Below w.heap.size w w'

end Go.Proofs.YtenpcjmhlnalcaaGreat
