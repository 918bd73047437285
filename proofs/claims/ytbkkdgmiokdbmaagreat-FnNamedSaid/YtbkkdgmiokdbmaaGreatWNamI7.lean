/-
  WALKS: the library's Clone and Compare at slices of numbers.
-/
import Derived.Test.YtbkkdgmiokdbmaaGreatJg18
import Derived.Test.YtbkkdgmiokdbmaaGreatJg20
import Derived.Laws.Cover3
namespace Go.Proofs.YtbkkdgmiokdbmaaGreat
open Go.RowKit
open Sets Nam

/-- What cmp.Compare answers. -/
def cmpZ (x y : Int) : Int := if x < y then -1 else if y < x then 1 else 0

set_option maxRecDepth 100000 in
set_option maxHeartbeats 1000000 in
theorem cmp_any (x y : Int) (w : World) : Calls Tryz.prog 76 #[.int .i64 x, .int .i64 y] w fun e w' => e = .returned (.int .i64 (cmpZ x y)) ∧ w = w' := by
  have hx : (x != x) = false := by simp
  have hy : (y != y) = false := by simp
  by_cases h1 : x < y
  · have HR : Hid (cmpZ x y = -1) := by
      have : cmpZ x y = -1 := by unfold cmpZ; rw [if_pos h1]
      exact this
    go_enter Tryz.func76, Tryz.ntmps76
    go_wp2
    go_ret
    exact ⟨by rw [HR.out]; rfl, rfl⟩
  · by_cases h2 : y < x
    · have HR : Hid (cmpZ x y = 1) := by
        have : cmpZ x y = 1 := by unfold cmpZ; rw [if_neg h1, if_pos h2]
        exact this
      go_enter Tryz.func76, Tryz.ntmps76
      go_wp2
      go_ret
      exact ⟨by rw [HR.out]; rfl, rfl⟩
    · have HR : Hid (cmpZ x y = 0) := by
        have : cmpZ x y = 0 := by unfold cmpZ; rw [if_neg h1, if_neg h2]
        exact this
      go_enter Tryz.func76, Tryz.ntmps76
      go_wp2
      go_ret
      exact ⟨by rw [HR.out]; rfl, rfl⟩

theorem cmpZ_eq (x : Int) : cmpZ x x = 0 := by unfold cmpZ; simp
theorem cmpZ_ne {x y : Int} (h : x ≠ y) : cmpZ x y ≠ 0 ∧ decide (cmpZ x y < 0) = decide (x < y) ∧ -1 ≤ cmpZ x y ∧ cmpZ x y ≤ 1 := by
  unfold cmpZ
  by_cases h1 : x < y
  · rw [if_pos h1]; simp [h1]
  · rw [if_neg h1, if_pos (by omega)]; simp [h1]

set_option maxRecDepth 100000 in
set_option maxHeartbeats 2000000 in
theorem compare_b (a1 : Option Addr) (c1 : Nat) (xs : List Int) (a2 : Option Addr) (c2 : Nat) (ys : List Int) (l : Nat) (hx : xs.length = l) (hy : ys.length = l) (hl : l ≤ 1099511627776) (b : Bool) (hb : lessL xs ys = b) (w : World) (h1 : Ints w a1 xs) (h2 : Ints w a2 ys) :
    Calls Tryz.prog 49 #[.slice a1 l c1, .slice a2 l c2] w fun e w' => (∃ r : Int, e = .returned (.int .i64 r) ∧ decide (r < 0) = b ∧ -1 ≤ r ∧ r ≤ 1) ∧ w = w' := by
  have HX := Lib.hid h1
  have HY := Lib.hid h2
  have HB := Lib.hid hb
  have HLX := Lib.hid hx
  have HLY := Lib.hid hy
  clear h1 h2 hb hx hy
  go_enter Tryz.func49, Tryz.ntmps49
  go_wp2
  go_loop [11] (fun i => ∃ k : Nat, k ≤ l ∧ i = .int .i64 (k : Int) ∧ (∀ j, j < k → xs.getD j 0 = ys.getD j 0)) (fun i => l - (intOf i).toNat)
  case atStart => exact ⟨0, Nat.zero_le _, rfl, fun j hj => absurd hj (Nat.not_lt_zero _)⟩
  case round =>
    obtain ⟨k, hk, rfl, hq⟩ := hrel
    have HQ := Lib.hid hq
    clear hq
    by_cases hlt : k < l
    · obtain ⟨b1, o1, rfl, g1⟩ := HX.out k (by rw [HLX.out]; exact hlt)
      obtain ⟨b2, o2, rfl, g2⟩ := HY.out k (by rw [HLY.out]; exact hlt)
      obtain ⟨x, hxe⟩ : ∃ x, xs.getD k 0 = x := ⟨_, rfl⟩
      obtain ⟨y, hye⟩ : ∃ y, ys.getD k 0 = y := ⟨_, rfl⟩
      rw [hxe] at g1
      rw [hye] at g2
      have HXE := Lib.hid hxe
      have HYE := Lib.hid hye
      clear hxe hye
      by_cases hxy : x = y
      · have HXY := Lib.hid hxy
        have HZ : Hid (cmpZ x y = 0) := by
          have : cmpZ x y = 0 := by rw [hxy]; exact cmpZ_eq y
          exact this
        clear hxy
        go_wp2_with fail
        refine (cmp_any x y _).mono ?_
        rintro e w2 ⟨rfl, rfl⟩
        rw [HZ.out]
        go_wp2
        go_round
        case rel =>
          refine ⟨k + 1, by omega, by go_num, fun j hj => ?_⟩
          by_cases e : j = k
          · subst e; rw [HXE.out, HYE.out, HXY.out]
          · exact HQ.out j (by omega)
        case measure => simp [intOf]; omega
      · have hz := cmpZ_ne hxy
        have HD : Hid (decide (cmpZ x y < 0) = b) := by
          have h := less_at xs ys k (by rw [HLX.out]; exact hlt) (by rw [HLY.out]; exact hlt) HQ.out (by rw [HXE.out, HYE.out]; exact hxy)
          rw [HB.out, HXE.out, HYE.out] at h
          exact hz.2.1.trans h.symm
        have hn : (cmpZ x y != 0) = true := by simp [hz.1]
        have HB1 := Lib.hid hz.2.2.1
        have HB2 := Lib.hid hz.2.2.2
        clear hz hxy
        go_wp2_with fail
        refine (cmp_any x y _).mono ?_
        rintro e w2 ⟨rfl, rfl⟩
        obtain ⟨r, hr⟩ : ∃ r, cmpZ x y = r := ⟨_, rfl⟩
        rw [hr] at hn HD HB1 HB2
        rw [hr]
        clear hr
        go_wp2
        go_ret
        exact ⟨⟨_, rfl, HD.out, HB1.out, HB2.out⟩, rfl⟩
    · have HR : Hid (b = false) := by
        have : b = false := by rw [← HB.out]; exact less_end xs ys k HQ.out (by rw [HLX.out]; exact hk) (by rw [HLY.out]; exact hk) (.inl (by rw [HLX.out]; exact hlt))
        exact this
      go_wp2
      go_ret
      exact ⟨⟨_, rfl, by rw [HR.out]; rfl, by omega, by omega⟩, rfl⟩

theorem eql_nil (a : Option Addr) (l c : Nat) (w : World) : (binOp .eql 24 (.slice a l c) (.slice none 0 0)).run Tryz.prog w = .ok (.bool a.isNone) w := by
  unfold binOp
  simp [run_equal_slice_nil w 24 3 a l c Tryz.underlying24, Result.andThen]

attribute [local go_sem ↓] eql_nil

set_option maxRecDepth 100000 in
set_option maxHeartbeats 2000000 in
theorem clone_any (a : Option Addr) (c : Nat) (xs : List Int) (hlen : xs.length ≤ 1099511627776) (w : World) (h : Ints w a xs) :
    Calls Tryz.prog 47 #[.slice a xs.length c] w fun e w' => ∃ v, e = .returned v ∧ OwnInts w' w.heap.size v xs ∧ Below w.heap.size w w' := by
  obtain ⟨i0, hi, hz0, hz1, hz2⟩ := info_parts info_int
  cases a with
  | none =>
    have hx : xs = [] := by
      cases xs with
      | nil => rfl
      | cons x t => obtain ⟨b, o, e, _⟩ := h 0 (by simp); cases e
    subst hx
    go_enter Tryz.func47, Tryz.ntmps47
    go_wp2
    go_ret
    exact ⟨_, rfl, OwnInts.nil _ _, Below.refl _ _⟩
  | some ad =>
    have hb1 : Below w.heap.size w (w.alloc (.cells #[] 3)) := (Below.refl _ _).alloc (Nat.le_refl _) _
    have HN1 := Lib.hid (h.keeps hb1)
    have HO0 := Lib.hid (OwnInts.lit w w.heap.size [] (Nat.le_refl _) (by simp))
    have HB1 := Lib.hid hb1
    clear hb1 h
    unfold OwnInts at HO0
    go_enter Tryz.func47, Tryz.ntmps47
    go_wp2_with (at_builtin; refine wpList_append_own_at _ rfl _ _ 24 rfl w.heap.size 3 i0 (.int .i64 0) 1 8 Tryz.underlying24 hi hz0 hz1 hz2 rfl (by decide) (.slice (some ⟨w.heap.size, 0, none⟩) 0 0) 0 [] rfl HO0.out ad xs.length c (xs.map (Value.int .i64)) rfl ?c0 (Ints.news HN1.out) (one_ints _) ?c3 ?c4 ?c5 ?_)
    case c0 => rw [List.length_map]; simp
    case c3 => unfold maxLen; omega
    case c4 => omega
    case c5 => simp
    intro v1 w3 hown1 hgrow1 _ _
    have hb3 : Below w.heap.size w w3 := HB1.out.grown hgrow1 (by simp) (fun g hg => by simp only [Value.ownBlock, Option.some.injEq] at hg; omega)
    have hO3 : OwnInts w3 w.heap.size v1 xs := by
      unfold OwnInts
      have h := hown1
      exact h
    have HO3 := Lib.hid hO3
    have HB3 := Lib.hid hb3
    clear hown1 hgrow1 hO3 hb3
    go_wp2
    go_ret
    exact ⟨_, rfl, HO3.out, HB3.out⟩

end Go.Proofs.YtbkkdgmiokdbmaaGreat
