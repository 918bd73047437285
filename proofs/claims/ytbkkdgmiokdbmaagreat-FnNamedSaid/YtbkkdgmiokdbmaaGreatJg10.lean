/-
  TEXTS of one claim, put together: WCx5, WCx6, WCx7.
-/
import Derived.Test.YtbkkdgmiokdbmaaGreatJg9
/-! WALKS: spec's faces; complexes made of sets, by impl and by spec. -/

namespace Go.Proofs.YtbkkdgmiokdbmaaGreat
open Go.RowKit
open Sets

theorem any_false {q : Int → Bool} {xs : List Int} (h : ∀ j, j < xs.length → q (xs.getD j 0) = false) : xs.any q = false := any_miss q xs h

set_option maxRecDepth 100000 in
set_option maxHeartbeats 2000000 in
theorem l3Has_any (n : Int) (a : Option Addr) (c : Nat) (xs : List Int) (hok : allOk xs = true) (hlen : xs.length ≤ 1099511627776) (s : Nat) (hs : s < 64) (b : Bool) (hb : inF xs s = b) (w : World) (h : Ints w a xs) :
    Calls Tryz.prog 81 #[cx n (.slice a xs.length c), .int .i64 (s : Int)] w fun e w' => e = .returned (.bool b) ∧ Below w.heap.size w w' := by
  have hb0 : Below w.heap.size w (w.alloc (Obj.cells #[Value.int IntKind.i64 n, Value.slice a xs.length c] 26)) := (Below.refl _ _).alloc (Nat.le_refl _) _
  have H := Lib.hid (h.keeps hb0)
  have HB0 := Lib.hid hb0
  have HOK := Lib.hid (allOk_at xs hok)
  have HB := Lib.hid hb
  clear h hb0 hok hb
  go_enter Tryz.func81, Tryz.ntmps81
  go_wp2
  go_loop [5] (fun i => ∃ k : Nat, k ≤ xs.length ∧ i = .int .i64 (k : Int) ∧ ∀ j, j < k → sub s (xs.getD j 0).toNat = false) (fun i => xs.length - (intOf i).toNat)
  case atStart => exact ⟨0, Nat.zero_le _, rfl, fun j hj => absurd hj (Nat.not_lt_zero _)⟩
  case round =>
    obtain ⟨k, hk, rfl, hq⟩ := hrel
    have HQ := Lib.hid hq
    clear hq
    by_cases hlt : k < xs.length
    · obtain ⟨b0, o, rfl, g⟩ := H.out k hlt
      obtain ⟨t, ht, ht64⟩ := okZ_cast _ (HOK.out k hlt)
      rw [ht] at g
      have HTT := Lib.hid ht
      have ha := and_sub3 t s ht64 hs
      clear ht
      cases hsub : sub s t with
      | true =>
        rw [hsub] at ha
        have HF : Hid (b = true) := by
          have : b = true := by rw [← HB.out]; exact any_hit (fun f => sub s f.toNat) xs k hlt (by rw [HTT.out]; exact hsub)
          exact this
        clear hsub
        go_wp2
        go_ret
        exact ⟨by rw [HF.out]; rfl, HB0.out⟩
      | false =>
        rw [hsub] at ha
        have HSUB := Lib.hid hsub
        clear hsub
        go_wp2
        go_round
        case rel =>
          refine ⟨k + 1, by omega, by go_num, fun j hj => ?_⟩
          by_cases e : j = k
          · subst e; rw [HTT.out]; exact HSUB.out
          · exact HQ.out j (by omega)
        case measure => simp [intOf]; omega
    · have E := Lib.hid (show k = xs.length by omega)
      have HF : Hid (b = false) := by
        have : b = false := by rw [← HB.out]; exact any_miss (fun f => sub s f.toNat) xs (fun j hj => HQ.out j (by rw [E.out]; exact hj))
        exact this
      go_wp2
      go_ret
      exact ⟨by rw [HF.out]; rfl, HB0.out⟩

/-- The numbers below k that meet p. -/
def firsts (p : Nat → Bool) (k : Nat) : List Int := ((List.range k).filter p).map Int.ofNat
theorem firsts_hit (p : Nat → Bool) (k : Nat) (h : p k = true) : firsts p (k + 1) = firsts p k ++ [(k : Int)] := by
  unfold firsts; rw [List.range_succ, List.filter_append, List.map_append]; simp [h]
theorem firsts_miss (p : Nat → Bool) (k : Nat) (h : p k = false) : firsts p (k + 1) = firsts p k := by
  unfold firsts; rw [List.range_succ, List.filter_append, List.map_append]; simp [h]
theorem firsts_length (p : Nat → Bool) (k : Nat) : (firsts p k).length ≤ k := by
  unfold firsts; rw [List.length_map]; exact Nat.le_trans (List.length_filter_le _ _) (by simp)
theorem mem_firsts (p : Nat → Bool) (k : Nat) (x : Int) : x ∈ firsts p k ↔ ∃ t : Nat, x = (t : Int) ∧ t < k ∧ p t = true := by
  unfold firsts
  rw [List.mem_map]
  constructor
  · rintro ⟨t, ht, rfl⟩
    rw [List.mem_filter, List.mem_range] at ht
    exact ⟨t, rfl, ht.1, ht.2⟩
  · rintro ⟨t, rfl, h1, h2⟩
    exact ⟨t, by rw [List.mem_filter, List.mem_range]; exact ⟨h1, h2⟩, rfl⟩
theorem firsts_ok (p : Nat → Bool) : allOk (firsts p 64) = true := by
  unfold allOk
  rw [List.all_eq_true]
  intro x hx
  obtain ⟨t, rfl, ht, _⟩ := (mem_firsts p 64 x).1 hx
  exact (okZ_nat t).2 ht
theorem firsts_ord (p : Nat → Bool) : ord (inZ (firsts p 64)) = ord p := by
  apply ord_congr
  intro t ht
  rw [Bool.eq_iff_iff, inZ_iff, mem_firsts]
  constructor
  · rintro ⟨u, hu, _, h⟩
    have : t = u := by omega
    rw [this]; exact h
  · intro h; exact ⟨t, rfl, ht, h⟩

set_option maxRecDepth 100000 in
set_option maxHeartbeats 4000000 in
theorem specFaces_any (n : Int) (a : Option Addr) (c : Nat) (xs : List Int) (hlen : xs.length ≤ 1099511627776) (w : World) (h : Ints w a xs) :
    Calls Tryz.prog 58 #[cx n (.slice a xs.length c)] w fun e w' => ∃ v, e = .returned v ∧ OwnInts w' w.heap.size v (faces n xs) ∧ Below w.heap.size w w' := by
  obtain ⟨i0, hi, hz0, hz1, hz2⟩ := info_parts info_int
  have hb0 : Below w.heap.size w (w.alloc (Obj.cells #[Value.int IntKind.i64 n, Value.slice a xs.length c] 26)) := (Below.refl _ _).alloc (Nat.le_refl _) _
  have htwo : Two (w.alloc (Obj.cells #[Value.int IntKind.i64 n, Value.slice a xs.length c] 26)) w.heap.size (.int .i64 n) (.slice a xs.length c) := Two.new _ _ _ _
  have H := Lib.hid (h.keeps hb0)
  have HB0 := Lib.hid hb0
  have HT := Lib.hid htwo
  clear h hb0 htwo
  cases hC : isC n xs with
  | false =>
    have HC := Lib.hid hC
    have HF : Hid (faces n xs = []) := by
      have : faces n xs = [] := by unfold faces; rw [if_neg (by rw [hC]; simp)]
      exact this
    clear hC
    have H2 := Lib.hid (H.out.keeps ((Below.refl _ _).alloc (Nat.le_refl _) (Obj.cells #[] 3)))
    have HO0 := Lib.hid (OwnInts.lit (w.alloc (Obj.cells #[Value.int IntKind.i64 n, Value.slice a xs.length c] 26)) w.heap.size [] (by simp) (by simp))
    go_enter Tryz.func58, Tryz.ntmps58
    go_wp2
    refine wp_loop_rounds 1 ?_
    rw [rounds_succ]
    go_wp2_with fail
    refine (specIsC_b n _ _ xs false HC.out hlen _ H2.out).mono ?_
    rintro e w1 ⟨rfl, hb1⟩
    have HB1 : Hid (Below w.heap.size w w1) := (HB0.out.alloc (by simp) _).trans (hb1.mono (by simp; omega))
    clear hb1
    go_wp2_with fail
    refine (l2Order_any _ _ [] (by simp) rfl _ (Ints.nil _ _)).mono ?_
    rintro e w2 ⟨v, rfl, hO, hb2⟩
    have HO := Lib.hid hO
    have hsz := HB1.out.size
    clear hO
    go_wp2
    go_ret
    refine ⟨v, rfl, ?_, HB1.out.trans (hb2.mono hsz)⟩
    have h2 := HO.out
    rw [show ord (inZ []) = [] from ord_false] at h2
    rw [HF.out]
    exact OwnInts.lower h2 hsz
  | true =>
    have HC := Lib.hid hC
    have HOK := Lib.hid (isC_ok hC)
    have HF : Hid (faces n xs = ord (inF xs)) := by
      have : faces n xs = ord (inF xs) := by unfold faces; rw [if_pos hC]
      exact this
    clear hC
    go_enter Tryz.func58, Tryz.ntmps58
    go_wp2
    have HO0 := Lib.hid (OwnInts.lit (w.alloc (Obj.cells #[Value.int IntKind.i64 n, Value.slice a xs.length c] 26)) (w.heap.size + 1) [] (by simp) (by simp))
    have hszW : (w.alloc (Obj.cells #[Value.int IntKind.i64 n, Value.slice a xs.length c] 26)).heap.size = w.heap.size + 1 := by simp
    generalize (w.alloc (Obj.cells #[Value.int IntKind.i64 n, Value.slice a xs.length c] 26)) = W at *
    have HSZ := Lib.hid hszW
    clear hszW
    go_loopw [3, 4] (fun v i wr => ∃ k : Nat, k ≤ 64 ∧ i = .int .i64 (k : Int) ∧ OwnInts wr W.heap.size v (firsts (inF xs) k) ∧ Below W.heap.size W wr) (fun _ i _ => 64 - (intOf i).toNat)
    case atStart => exact ⟨0, by omega, rfl, by have h := HO0.out; rw [HSZ.out] at h ⊢; exact h, (Below.refl _ _).alloc (Nat.le_refl _) _⟩
    case round =>
      obtain ⟨k, hk, rfl, hO, hB⟩ := hrel
      have HO := Lib.hid hO
      clear hO
      have hsz := hB.size
      have hl := firsts_length (inF xs) k
      obtain ⟨t0, t1, t2, _, _⟩ := HT.out.keeps hB
      by_cases hlt : k < 64
      · have HI := Lib.hid (H.out.keeps hB)
        cases hp : inF xs k with
        | true =>
          have HP := Lib.hid hp
          clear hp
          go_wp2_with fail
          refine (specIsC_b n _ _ xs true HC.out hlen _ HI.out).mono ?_
          rintro e w1 ⟨rfl, hb1⟩
          have HO1 := Lib.hid (OwnInts.keeps HO.out hb1)
          have hB1 : Below W.heap.size W w1 := hB.trans (hb1.mono hsz)
          have HI1 := Lib.hid (HI.out.keeps hb1)
          obtain ⟨s0, s1, s2, _, _⟩ := HT.out.keeps hB1
          have hsz1 := hB1.size
          clear hb1 HO
          go_wp2_with fail
          refine (l3Has_any n _ _ xs HOK.out hlen k hlt true HP.out _ HI1.out).mono ?_
          rintro e w2 ⟨rfl, hb2⟩
          have HO2 := Lib.hid (OwnInts.keeps HO1.out hb2)
          unfold OwnInts at HO2
          have hB2 : Below W.heap.size W w2 := hB1.trans (hb2.mono hsz1)
          have hsz2 := hB2.size
          clear hb2 HO1
          go_wp2_with (at_builtin; refine wpList_append_own _ rfl _ _ 24 rfl W.heap.size 3 i0 (.int .i64 0) 1 8 Tryz.underlying24 hi hz0 hz1 hz2 rfl (by decide) _ _ _ rfl (HO2.out.alloc _) ⟨w2.heap.size, 0, none⟩ 1 1 [.int .i64 (k : Int)] rfl rfl ?c1 ?c2 ?c3 ?c4 ?c5 ?_)
          case c1 => intro j u hj; exact Mem.cell_new w2 _ _ j u hj
          case c2 => intro u hu; simp at hu; subst hu; rfl
          case c3 => unfold maxLen; omega
          case c4 => omega
          case c5 => simp; omega
          intro v' w3 hown1 hgrow _
          have hB3 : Below W.heap.size W w3 := (hB2.alloc hsz2 _).grown hgrow (by simp; omega) (fun g hg => (HO2.out.lt g hg).1)
          have H1 := Lib.hid hown1
          clear hown1 hgrow
          go_wp2
          go_roundw
          case rel => exact ⟨k + 1, by omega, by go_num, by rw [firsts_hit _ k HP.out]; exact OwnInts.next H1.out, hB3⟩
          case measure => simp [intOf]; omega
        | false =>
          have HP := Lib.hid hp
          clear hp
          go_wp2_with fail
          refine (specIsC_b n _ _ xs true HC.out hlen _ HI.out).mono ?_
          rintro e w1 ⟨rfl, hb1⟩
          have HO1 := Lib.hid (OwnInts.keeps HO.out hb1)
          have hB1 : Below W.heap.size W w1 := hB.trans (hb1.mono hsz)
          have HI1 := Lib.hid (HI.out.keeps hb1)
          obtain ⟨s0, s1, s2, _, _⟩ := HT.out.keeps hB1
          have hsz1 := hB1.size
          clear hb1 HO
          go_wp2_with fail
          refine (l3Has_any n _ _ xs HOK.out hlen k hlt false HP.out _ HI1.out).mono ?_
          rintro e w2 ⟨rfl, hb2⟩
          have HO2 := Lib.hid (OwnInts.keeps HO1.out hb2)
          have hB2 : Below W.heap.size W w2 := hB1.trans (hb2.mono hsz1)
          clear hb2 HO1
          go_wp2
          go_roundw
          case rel => exact ⟨k + 1, by omega, by go_num, by rw [firsts_miss _ k HP.out]; exact HO2.out, hB2⟩
          case measure => simp [intOf]; omega
      · have E := Lib.hid (show k = 64 by omega)
        have hO := HO.out
        rw [E.out] at hO hl
        obtain ⟨a1, c1, g1, rfl, hg1, hr1⟩ := hO.at
        have R1 := Lib.hid hr1
        clear hO hr1 HO
        go_wp2_with fail
        refine (l2Order_any _ _ (firsts (inF xs) 64) (by omega) (firsts_ok _) _ R1.out.ints).mono ?_
        rintro e w1 ⟨v, rfl, hO, hb1⟩
        have HO := Lib.hid hO
        clear hO
        go_wp2
        go_ret
        have hz := HSZ.out
        refine ⟨v, rfl, ?_, HB0.out.trans ((hB.trans (hb1.mono hsz)).mono (by omega))⟩
        rw [HF.out, ← firsts_ord]
        exact HO.out.lower (by omega)

end Go.Proofs.YtbkkdgmiokdbmaaGreat

/-! WALKS: complexes made of sets, by impl and by spec; the full complex and its border. -/

namespace Go.Proofs.YtbkkdgmiokdbmaaGreat
open Go.RowKit
open Sets

/-- Out of what is owned: the slice, its room, its block. -/
theorem OwnInts.atc {w : World} {base : Nat} {v : Value} {xs : List Int} (h : OwnInts w base v xs) : ∃ a c g, v = .slice a xs.length c ∧ xs.length ≤ c ∧ base ≤ g ∧ IntsAt w g a xs := by
  unfold OwnInts at h
  rcases h.2 with ⟨hv, h0⟩ | ⟨g, cap, cur, hv, _, _, hcap, _⟩
  · exact ⟨none, 0, base, by rw [hv, h0], by omega, Nat.le_refl _, fun j hj => by omega⟩
  · subst hv
    obtain ⟨h1, h2⟩ := World.ownsRow.lt h g rfl
    refine ⟨some ⟨g, 0, none⟩, cap, g, rfl, hcap, h1, fun j hj => ⟨rfl, h2, ?_, World.ownsRow.frozenAt h j⟩⟩
    rw [World.ownsRow.cellAt h j (by omega), ints_cell xs j hj]

theorem OwnInts.set {w : World} {base : Nat} {v : Value} {xs : List Int} (h : OwnInts w base v xs) (b o : Nat) (z : Value) (hb : b < base) : OwnInts (w.setCell ⟨b, o, none⟩ z) base v xs := by
  unfold OwnInts at *
  refine ⟨h.1, ?_⟩
  rcases h.2 with h0 | ⟨g, cap, cur, hv, h1, hh, hr⟩
  · exact .inl h0
  · refine .inr ⟨g, cap, cur, hv, h1, ?_, hr⟩
    simp only [World.setCell, Array.getElem?_modify]
    rw [if_neg (by omega)]
    exact hh

/-- Are they at most 64 sets of n points? -/
def setsOf (n : Int) (xs : List Int) : Bool := inB 1 6 n && decide (xs.length ≤ 64) && xs.all (setB n)
/-- MakeComplex. -/
def made (n : Int) (xs : List Int) : Option (Int × List Int) := if setsOf n xs = true then some (n, maximal xs) else none
/-- The points and the facets of a complex that may not be there. -/
def oN (o : Option (Int × List Int)) : Int := (o.map (·.1)).getD 0
def oL (o : Option (Int × List Int)) : List Int := (o.map (·.2)).getD []
theorem made_yes {n : Int} {xs : List Int} (h : setsOf n xs = true) : made n xs = some (n, maximal xs) := by unfold made; rw [if_pos h]
theorem made_no {n : Int} {xs : List Int} (h : setsOf n xs = false) : made n xs = none := by unfold made; rw [if_neg (by rw [h]; simp)]
theorem setsOf_iff (n : Int) (xs : List Int) : setsOf n xs = true ↔ inB 1 6 n = true ∧ xs.length ≤ 64 ∧ ∀ x, x ∈ xs → setB n x = true := by
  unfold setsOf; rw [Bool.and_eq_true, Bool.and_eq_true, decide_eq_true_iff, List.all_eq_true, and_assoc]
theorem setsOf_ok {n : Int} {xs : List Int} (h : setsOf n xs = true) : allOk xs = true := by
  unfold allOk; rw [List.all_eq_true]; exact fun x hx => setB_ok (((setsOf_iff n xs).1 h).2.2 x hx)
theorem made_isC {n : Int} {xs : List Int} (h : setsOf n xs = true) : isC n (maximal xs) = true := by
  have h' := (setsOf_iff n xs).1 h
  have hn := (inB_iff _ _ _).1 h'.1
  exact isC_maximal n xs hn.1 hn.2 h'.2.2
theorem all_any_not (xs : List Int) (q : Int → Bool) : xs.all q = !(xs.any fun x => !q x) := by
  rw [List.not_any_eq_all_not]; simp

set_option maxRecDepth 100000 in
set_option maxHeartbeats 2000000 in
theorem l3Make_any (n : Int) (a : Option Addr) (c : Nat) (xs : List Int) (hok : allOk xs = true) (hlen : xs.length ≤ 1099511627776) (w : World) (h : Ints w a xs) :
    Calls Tryz.prog 94 #[.int .i64 n, .slice a xs.length c] w fun e w' =>
      ∃ v, e = .returned (cx n v) ∧ OwnInts w' w.heap.size v (maximal xs) ∧ Below w.heap.size w w' := by
  have hb0 : Below w.heap.size w (w.alloc (Obj.cells #[Value.int IntKind.i64 0, Value.slice none 0 0] 26)) := (Below.refl _ _).alloc (Nat.le_refl _) _
  have htwo : Two (w.alloc (Obj.cells #[Value.int IntKind.i64 0, Value.slice none 0 0] 26)) w.heap.size (.int .i64 0) (.slice none 0 0) := Two.new _ _ _ _
  have H := Lib.hid (h.keeps hb0)
  have HB0 := Lib.hid hb0
  have HT := Lib.hid htwo
  have HOK := Lib.hid hok
  clear h hb0 htwo hok
  go_enter Tryz.func94, Tryz.ntmps94
  go_wp2_with fail
  refine (l2Extreme_true _ _ xs hlen HOK.out _ H.out).mono ?_
  rintro e w2 ⟨v, rfl, hO, hb2⟩
  have hsz1 := HT.out.1
  have hsz2 := hb2.size
  have HB2 : Hid (Below w.heap.size w w2) := HB0.out.trans (hb2.mono (by omega))
  have hO' : OwnInts w2 (w.heap.size + 1) v (maximal xs) := by
    have h2 := hO
    simp only [World.size_alloc] at h2
    exact h2
  obtain ⟨a2, c2, g2, rfl, _⟩ := hO'.atc
  have HO := Lib.hid hO'
  obtain ⟨t0, t1, t2, t3, t4⟩ := HT.out.keeps hb2
  clear hb2 hO hO'
  go_wp2
  refine ret_cx w.heap.size rfl rfl (x := .int .i64 n) (y := .slice a2 (maximal xs).length c2) (by go_simp) (by go_simp) rfl ?_
  exact ⟨_, rfl, (OwnInts.set (OwnInts.set HO.out _ _ _ (by omega)) _ _ _ (by omega)).lower (by omega), (HB2.out.setCell (by simp) _).setCell (by simp) _⟩

end Go.Proofs.YtbkkdgmiokdbmaaGreat

/-! WALKS: the full complex and its border, by impl and by spec. -/

namespace Go.Proofs.YtbkkdgmiokdbmaaGreat
open Go.RowKit
open Sets

/-- FullComplex. -/
def full (n : Int) : Option (Int × List Int) := if inB 1 6 n = true then some (n, [2 ^ n.toNat - 1]) else none
/-- BorderComplex. -/
def border (n : Int) : Option (Int × List Int) := if inB 1 6 n = true then some (n, maximal (firsts (fun _ => true) (2 ^ n.toNat - 1))) else none
theorem full_no {n : Int} (h : inB 1 6 n = false) : full n = none := by unfold full; rw [if_neg (by rw [h]; simp)]
theorem border_no {n : Int} (h : inB 1 6 n = false) : border n = none := by unfold border; rw [if_neg (by rw [h]; simp)]
theorem six (n : Int) (h : inB 1 6 n = true) : n = 1 ∨ n = 2 ∨ n = 3 ∨ n = 4 ∨ n = 5 ∨ n = 6 := by
  have := (inB_iff _ _ _).1 h
  omega

theorem Ints.one (w : World) (x : Int) : Ints (w.alloc (Obj.cells #[Value.int IntKind.i64 x] 3)) (some ⟨w.heap.size, 0, none⟩) [x] := fun j hj => by
  obtain rfl : j = 0 := by simp at hj; omega
  exact ⟨_, _, rfl, by simp⟩

theorem full_1 : full 1 = some (1, [1]) := by decide +kernel
theorem made_full_1 : made 1 [1] = some (1, [1]) := by decide +kernel
theorem faces_full_1 : (faces 1 [1]).length = 2 := by decide +kernel
theorem made_border_1 : made 1 ((faces 1 [1]).take 1) = some (1, maximal (firsts (fun _ => true) 1)) := by decide +kernel
theorem border_1 : border 1 = some (1, maximal (firsts (fun _ => true) 1)) := by decide +kernel
theorem border_ok_1 : allOk (firsts (fun _ => true) 1) = true := by decide +kernel

set_option maxRecDepth 100000 in
set_option maxHeartbeats 2000000 in
theorem specBorder_1 (w : World) : Calls Tryz.prog 85 #[.int .i64 1] w fun e w' =>
      ∃ v, e = .returned (.tuple #[cx 1 v, .bool true]) ∧ OwnInts w' w.heap.size v (maximal (firsts (fun _ => true) 1)) ∧ Below w.heap.size w w' := by
  obtain ⟨i0, hi, hz0, hz1, hz2⟩ := info_parts info_int
  have htwo : Two (w.alloc (Obj.cells #[Value.int IntKind.i64 0, Value.slice none 0 0] 26)) w.heap.size (.int .i64 0) (.slice none 0 0) := Two.new _ _ _ _
  have hb0 : Below w.heap.size w (w.alloc (Obj.cells #[Value.int IntKind.i64 0, Value.slice none 0 0] 26)) := (Below.refl _ _).alloc (Nat.le_refl _) _
  have HT := Lib.hid htwo
  have HB0 := Lib.hid hb0
  clear htwo hb0
  go_enter Tryz.func85, Tryz.ntmps85
  go_wp2_with fail
  refine (in_b 1 1 6 true (by decide) _).mono ?_
  rintro e w' ⟨rfl, rfl⟩
  have HO0 := Lib.hid (OwnInts.lit (w.alloc (Obj.cells #[Value.int IntKind.i64 0, Value.slice none 0 0] 26)) (w.heap.size + 1) [] (by simp) (by simp))
  have hszW : (w.alloc (Obj.cells #[Value.int IntKind.i64 0, Value.slice none 0 0] 26)).heap.size = w.heap.size + 1 := by simp
  go_wp2
  generalize (w.alloc (Obj.cells #[Value.int IntKind.i64 0, Value.slice none 0 0] 26)) = W at *
  have HSZ := Lib.hid hszW
  clear hszW
  go_loopw [4, 5] (fun v i wr => ∃ k : Nat, k ≤ 1 ∧ i = .int .i64 (k : Int) ∧ OwnInts wr W.heap.size v (firsts (fun _ => true) k) ∧ Below W.heap.size W wr) (fun _ i _ => 1 - (intOf i).toNat)
  case atStart => exact ⟨0, by omega, rfl, by have h := HO0.out; rw [HSZ.out] at h ⊢; exact h, (Below.refl _ _).alloc (Nat.le_refl _) _⟩
  case round =>
    obtain ⟨k, hk, rfl, hO, hB⟩ := hrel
    have hsz := hB.size
    have hl := firsts_length (fun _ => true) k
    by_cases hlt : k < 1
    · unfold OwnInts at hO
      have HO := Lib.hid hO
      clear hO
      go_wp2_with (at_builtin; refine wpList_append_own _ rfl _ _ 24 rfl W.heap.size 3 i0 (.int .i64 0) 1 8 Tryz.underlying24 hi hz0 hz1 hz2 rfl (by decide) _ _ _ rfl (HO.out.alloc _) ⟨wr.heap.size, 0, none⟩ 1 1 [.int .i64 (k : Int)] rfl rfl ?c1 ?c2 ?c3 ?c4 ?c5 ?_)
      case c1 => intro j u hj; exact Mem.cell_new wr _ _ j u hj
      case c2 => intro u hu; simp at hu; subst hu; rfl
      case c3 => unfold maxLen; omega
      case c4 => omega
      case c5 => simp; omega
      intro v' w1 hown1 hgrow _
      have hB1 : Below W.heap.size W w1 := (hB.alloc hsz _).grown hgrow (by simp; omega) (fun g hg => (HO.out.lt g hg).1)
      have H1 := Lib.hid hown1
      clear hown1 hgrow
      go_wp2
      go_roundw
      case rel => exact ⟨k + 1, by omega, by go_num, by rw [firsts_hit _ k rfl]; exact OwnInts.next H1.out, hB1⟩
      case measure => simp [intOf]; omega
    · have E := Lib.hid (show k = 1 by omega)
      rw [E.out] at hO hl
      obtain ⟨a1, c1, g1, rfl, hg1, hr1⟩ := hO.at
      have R1 := Lib.hid hr1
      have HT1 := Lib.hid (HT.out.keeps hB)
      have hsz1 := HT1.out.1
      have HB1 : Hid (Below w.heap.size w wr) := HB0.out.trans (hB.mono (by have := HSZ.out; omega))
      clear hO hr1 hB
      go_wp2_with fail
      refine (l3Make_any 1 _ _ (firsts (fun _ => true) 1) border_ok_1 (by omega) _ R1.out.ints).mono ?_
      rintro e w4 ⟨v, rfl, hO, hb4⟩
      obtain ⟨a4, c4, g4, rfl, _⟩ := hO.atc
      have HO := Lib.hid hO
      obtain ⟨t0, t1, t2, t3, t4⟩ := HT1.out.keeps hb4
      have HB4 : Hid (Below w.heap.size w w4) := HB1.out.trans (hb4.mono (by omega))
      clear hb4 hO
      go_wp2
      refine ret_cx2 w.heap.size rfl rfl rfl (x := .int .i64 1) (y := .slice a4 (maximal (firsts (fun _ => true) 1)).length c4) (by go_simp) (by go_simp) rfl ?_
      exact ⟨_, rfl, (OwnInts.set (OwnInts.set HO.out _ _ _ (by omega)) _ _ _ (by omega)).lower (by omega), (HB4.out.setCell (by simp) _).setCell (by simp) _⟩

theorem full_2 : full 2 = some (2, [3]) := by decide +kernel
theorem made_full_2 : made 2 [3] = some (2, [3]) := by decide +kernel
theorem faces_full_2 : (faces 2 [3]).length = 4 := by decide +kernel
theorem made_border_2 : made 2 ((faces 2 [3]).take 3) = some (2, maximal (firsts (fun _ => true) 3)) := by decide +kernel
theorem border_2 : border 2 = some (2, maximal (firsts (fun _ => true) 3)) := by decide +kernel
theorem border_ok_2 : allOk (firsts (fun _ => true) 3) = true := by decide +kernel

set_option maxRecDepth 100000 in
set_option maxHeartbeats 2000000 in
theorem specBorder_2 (w : World) : Calls Tryz.prog 85 #[.int .i64 2] w fun e w' =>
      ∃ v, e = .returned (.tuple #[cx 2 v, .bool true]) ∧ OwnInts w' w.heap.size v (maximal (firsts (fun _ => true) 3)) ∧ Below w.heap.size w w' := by
  obtain ⟨i0, hi, hz0, hz1, hz2⟩ := info_parts info_int
  have htwo : Two (w.alloc (Obj.cells #[Value.int IntKind.i64 0, Value.slice none 0 0] 26)) w.heap.size (.int .i64 0) (.slice none 0 0) := Two.new _ _ _ _
  have hb0 : Below w.heap.size w (w.alloc (Obj.cells #[Value.int IntKind.i64 0, Value.slice none 0 0] 26)) := (Below.refl _ _).alloc (Nat.le_refl _) _
  have HT := Lib.hid htwo
  have HB0 := Lib.hid hb0
  clear htwo hb0
  go_enter Tryz.func85, Tryz.ntmps85
  go_wp2_with fail
  refine (in_b 2 1 6 true (by decide) _).mono ?_
  rintro e w' ⟨rfl, rfl⟩
  have HO0 := Lib.hid (OwnInts.lit (w.alloc (Obj.cells #[Value.int IntKind.i64 0, Value.slice none 0 0] 26)) (w.heap.size + 1) [] (by simp) (by simp))
  have hszW : (w.alloc (Obj.cells #[Value.int IntKind.i64 0, Value.slice none 0 0] 26)).heap.size = w.heap.size + 1 := by simp
  go_wp2
  generalize (w.alloc (Obj.cells #[Value.int IntKind.i64 0, Value.slice none 0 0] 26)) = W at *
  have HSZ := Lib.hid hszW
  clear hszW
  go_loopw [4, 5] (fun v i wr => ∃ k : Nat, k ≤ 3 ∧ i = .int .i64 (k : Int) ∧ OwnInts wr W.heap.size v (firsts (fun _ => true) k) ∧ Below W.heap.size W wr) (fun _ i _ => 3 - (intOf i).toNat)
  case atStart => exact ⟨0, by omega, rfl, by have h := HO0.out; rw [HSZ.out] at h ⊢; exact h, (Below.refl _ _).alloc (Nat.le_refl _) _⟩
  case round =>
    obtain ⟨k, hk, rfl, hO, hB⟩ := hrel
    have hsz := hB.size
    have hl := firsts_length (fun _ => true) k
    by_cases hlt : k < 3
    · unfold OwnInts at hO
      have HO := Lib.hid hO
      clear hO
      go_wp2_with (at_builtin; refine wpList_append_own _ rfl _ _ 24 rfl W.heap.size 3 i0 (.int .i64 0) 1 8 Tryz.underlying24 hi hz0 hz1 hz2 rfl (by decide) _ _ _ rfl (HO.out.alloc _) ⟨wr.heap.size, 0, none⟩ 1 1 [.int .i64 (k : Int)] rfl rfl ?c1 ?c2 ?c3 ?c4 ?c5 ?_)
      case c1 => intro j u hj; exact Mem.cell_new wr _ _ j u hj
      case c2 => intro u hu; simp at hu; subst hu; rfl
      case c3 => unfold maxLen; omega
      case c4 => omega
      case c5 => simp; omega
      intro v' w1 hown1 hgrow _
      have hB1 : Below W.heap.size W w1 := (hB.alloc hsz _).grown hgrow (by simp; omega) (fun g hg => (HO.out.lt g hg).1)
      have H1 := Lib.hid hown1
      clear hown1 hgrow
      go_wp2
      go_roundw
      case rel => exact ⟨k + 1, by omega, by go_num, by rw [firsts_hit _ k rfl]; exact OwnInts.next H1.out, hB1⟩
      case measure => simp [intOf]; omega
    · have E := Lib.hid (show k = 3 by omega)
      rw [E.out] at hO hl
      obtain ⟨a1, c1, g1, rfl, hg1, hr1⟩ := hO.at
      have R1 := Lib.hid hr1
      have HT1 := Lib.hid (HT.out.keeps hB)
      have hsz1 := HT1.out.1
      have HB1 : Hid (Below w.heap.size w wr) := HB0.out.trans (hB.mono (by have := HSZ.out; omega))
      clear hO hr1 hB
      go_wp2_with fail
      refine (l3Make_any 2 _ _ (firsts (fun _ => true) 3) border_ok_2 (by omega) _ R1.out.ints).mono ?_
      rintro e w4 ⟨v, rfl, hO, hb4⟩
      obtain ⟨a4, c4, g4, rfl, _⟩ := hO.atc
      have HO := Lib.hid hO
      obtain ⟨t0, t1, t2, t3, t4⟩ := HT1.out.keeps hb4
      have HB4 : Hid (Below w.heap.size w w4) := HB1.out.trans (hb4.mono (by omega))
      clear hb4 hO
      go_wp2
      refine ret_cx2 w.heap.size rfl rfl rfl (x := .int .i64 2) (y := .slice a4 (maximal (firsts (fun _ => true) 3)).length c4) (by go_simp) (by go_simp) rfl ?_
      exact ⟨_, rfl, (OwnInts.set (OwnInts.set HO.out _ _ _ (by omega)) _ _ _ (by omega)).lower (by omega), (HB4.out.setCell (by simp) _).setCell (by simp) _⟩

theorem full_3 : full 3 = some (3, [7]) := by decide +kernel
theorem made_full_3 : made 3 [7] = some (3, [7]) := by decide +kernel
theorem faces_full_3 : (faces 3 [7]).length = 8 := by decide +kernel
theorem made_border_3 : made 3 ((faces 3 [7]).take 7) = some (3, maximal (firsts (fun _ => true) 7)) := by decide +kernel
theorem border_3 : border 3 = some (3, maximal (firsts (fun _ => true) 7)) := by decide +kernel
theorem border_ok_3 : allOk (firsts (fun _ => true) 7) = true := by decide +kernel

set_option maxRecDepth 100000 in
set_option maxHeartbeats 2000000 in
theorem specBorder_3 (w : World) : Calls Tryz.prog 85 #[.int .i64 3] w fun e w' =>
      ∃ v, e = .returned (.tuple #[cx 3 v, .bool true]) ∧ OwnInts w' w.heap.size v (maximal (firsts (fun _ => true) 7)) ∧ Below w.heap.size w w' := by
  obtain ⟨i0, hi, hz0, hz1, hz2⟩ := info_parts info_int
  have htwo : Two (w.alloc (Obj.cells #[Value.int IntKind.i64 0, Value.slice none 0 0] 26)) w.heap.size (.int .i64 0) (.slice none 0 0) := Two.new _ _ _ _
  have hb0 : Below w.heap.size w (w.alloc (Obj.cells #[Value.int IntKind.i64 0, Value.slice none 0 0] 26)) := (Below.refl _ _).alloc (Nat.le_refl _) _
  have HT := Lib.hid htwo
  have HB0 := Lib.hid hb0
  clear htwo hb0
  go_enter Tryz.func85, Tryz.ntmps85
  go_wp2_with fail
  refine (in_b 3 1 6 true (by decide) _).mono ?_
  rintro e w' ⟨rfl, rfl⟩
  have HO0 := Lib.hid (OwnInts.lit (w.alloc (Obj.cells #[Value.int IntKind.i64 0, Value.slice none 0 0] 26)) (w.heap.size + 1) [] (by simp) (by simp))
  have hszW : (w.alloc (Obj.cells #[Value.int IntKind.i64 0, Value.slice none 0 0] 26)).heap.size = w.heap.size + 1 := by simp
  go_wp2
  generalize (w.alloc (Obj.cells #[Value.int IntKind.i64 0, Value.slice none 0 0] 26)) = W at *
  have HSZ := Lib.hid hszW
  clear hszW
  go_loopw [4, 5] (fun v i wr => ∃ k : Nat, k ≤ 7 ∧ i = .int .i64 (k : Int) ∧ OwnInts wr W.heap.size v (firsts (fun _ => true) k) ∧ Below W.heap.size W wr) (fun _ i _ => 7 - (intOf i).toNat)
  case atStart => exact ⟨0, by omega, rfl, by have h := HO0.out; rw [HSZ.out] at h ⊢; exact h, (Below.refl _ _).alloc (Nat.le_refl _) _⟩
  case round =>
    obtain ⟨k, hk, rfl, hO, hB⟩ := hrel
    have hsz := hB.size
    have hl := firsts_length (fun _ => true) k
    by_cases hlt : k < 7
    · unfold OwnInts at hO
      have HO := Lib.hid hO
      clear hO
      go_wp2_with (at_builtin; refine wpList_append_own _ rfl _ _ 24 rfl W.heap.size 3 i0 (.int .i64 0) 1 8 Tryz.underlying24 hi hz0 hz1 hz2 rfl (by decide) _ _ _ rfl (HO.out.alloc _) ⟨wr.heap.size, 0, none⟩ 1 1 [.int .i64 (k : Int)] rfl rfl ?c1 ?c2 ?c3 ?c4 ?c5 ?_)
      case c1 => intro j u hj; exact Mem.cell_new wr _ _ j u hj
      case c2 => intro u hu; simp at hu; subst hu; rfl
      case c3 => unfold maxLen; omega
      case c4 => omega
      case c5 => simp; omega
      intro v' w1 hown1 hgrow _
      have hB1 : Below W.heap.size W w1 := (hB.alloc hsz _).grown hgrow (by simp; omega) (fun g hg => (HO.out.lt g hg).1)
      have H1 := Lib.hid hown1
      clear hown1 hgrow
      go_wp2
      go_roundw
      case rel => exact ⟨k + 1, by omega, by go_num, by rw [firsts_hit _ k rfl]; exact OwnInts.next H1.out, hB1⟩
      case measure => simp [intOf]; omega
    · have E := Lib.hid (show k = 7 by omega)
      rw [E.out] at hO hl
      obtain ⟨a1, c1, g1, rfl, hg1, hr1⟩ := hO.at
      have R1 := Lib.hid hr1
      have HT1 := Lib.hid (HT.out.keeps hB)
      have hsz1 := HT1.out.1
      have HB1 : Hid (Below w.heap.size w wr) := HB0.out.trans (hB.mono (by have := HSZ.out; omega))
      clear hO hr1 hB
      go_wp2_with fail
      refine (l3Make_any 3 _ _ (firsts (fun _ => true) 7) border_ok_3 (by omega) _ R1.out.ints).mono ?_
      rintro e w4 ⟨v, rfl, hO, hb4⟩
      obtain ⟨a4, c4, g4, rfl, _⟩ := hO.atc
      have HO := Lib.hid hO
      obtain ⟨t0, t1, t2, t3, t4⟩ := HT1.out.keeps hb4
      have HB4 : Hid (Below w.heap.size w w4) := HB1.out.trans (hb4.mono (by omega))
      clear hb4 hO
      go_wp2
      refine ret_cx2 w.heap.size rfl rfl rfl (x := .int .i64 3) (y := .slice a4 (maximal (firsts (fun _ => true) 7)).length c4) (by go_simp) (by go_simp) rfl ?_
      exact ⟨_, rfl, (OwnInts.set (OwnInts.set HO.out _ _ _ (by omega)) _ _ _ (by omega)).lower (by omega), (HB4.out.setCell (by simp) _).setCell (by simp) _⟩

theorem full_4 : full 4 = some (4, [15]) := by decide +kernel
theorem made_full_4 : made 4 [15] = some (4, [15]) := by decide +kernel
theorem faces_full_4 : (faces 4 [15]).length = 16 := by decide +kernel
theorem made_border_4 : made 4 ((faces 4 [15]).take 15) = some (4, maximal (firsts (fun _ => true) 15)) := by decide +kernel
theorem border_4 : border 4 = some (4, maximal (firsts (fun _ => true) 15)) := by decide +kernel
theorem border_ok_4 : allOk (firsts (fun _ => true) 15) = true := by decide +kernel

set_option maxRecDepth 100000 in
set_option maxHeartbeats 2000000 in
theorem specBorder_4 (w : World) : Calls Tryz.prog 85 #[.int .i64 4] w fun e w' =>
      ∃ v, e = .returned (.tuple #[cx 4 v, .bool true]) ∧ OwnInts w' w.heap.size v (maximal (firsts (fun _ => true) 15)) ∧ Below w.heap.size w w' := by
  obtain ⟨i0, hi, hz0, hz1, hz2⟩ := info_parts info_int
  have htwo : Two (w.alloc (Obj.cells #[Value.int IntKind.i64 0, Value.slice none 0 0] 26)) w.heap.size (.int .i64 0) (.slice none 0 0) := Two.new _ _ _ _
  have hb0 : Below w.heap.size w (w.alloc (Obj.cells #[Value.int IntKind.i64 0, Value.slice none 0 0] 26)) := (Below.refl _ _).alloc (Nat.le_refl _) _
  have HT := Lib.hid htwo
  have HB0 := Lib.hid hb0
  clear htwo hb0
  go_enter Tryz.func85, Tryz.ntmps85
  go_wp2_with fail
  refine (in_b 4 1 6 true (by decide) _).mono ?_
  rintro e w' ⟨rfl, rfl⟩
  have HO0 := Lib.hid (OwnInts.lit (w.alloc (Obj.cells #[Value.int IntKind.i64 0, Value.slice none 0 0] 26)) (w.heap.size + 1) [] (by simp) (by simp))
  have hszW : (w.alloc (Obj.cells #[Value.int IntKind.i64 0, Value.slice none 0 0] 26)).heap.size = w.heap.size + 1 := by simp
  go_wp2
  generalize (w.alloc (Obj.cells #[Value.int IntKind.i64 0, Value.slice none 0 0] 26)) = W at *
  have HSZ := Lib.hid hszW
  clear hszW
  go_loopw [4, 5] (fun v i wr => ∃ k : Nat, k ≤ 15 ∧ i = .int .i64 (k : Int) ∧ OwnInts wr W.heap.size v (firsts (fun _ => true) k) ∧ Below W.heap.size W wr) (fun _ i _ => 15 - (intOf i).toNat)
  case atStart => exact ⟨0, by omega, rfl, by have h := HO0.out; rw [HSZ.out] at h ⊢; exact h, (Below.refl _ _).alloc (Nat.le_refl _) _⟩
  case round =>
    obtain ⟨k, hk, rfl, hO, hB⟩ := hrel
    have hsz := hB.size
    have hl := firsts_length (fun _ => true) k
    by_cases hlt : k < 15
    · unfold OwnInts at hO
      have HO := Lib.hid hO
      clear hO
      go_wp2_with (at_builtin; refine wpList_append_own _ rfl _ _ 24 rfl W.heap.size 3 i0 (.int .i64 0) 1 8 Tryz.underlying24 hi hz0 hz1 hz2 rfl (by decide) _ _ _ rfl (HO.out.alloc _) ⟨wr.heap.size, 0, none⟩ 1 1 [.int .i64 (k : Int)] rfl rfl ?c1 ?c2 ?c3 ?c4 ?c5 ?_)
      case c1 => intro j u hj; exact Mem.cell_new wr _ _ j u hj
      case c2 => intro u hu; simp at hu; subst hu; rfl
      case c3 => unfold maxLen; omega
      case c4 => omega
      case c5 => simp; omega
      intro v' w1 hown1 hgrow _
      have hB1 : Below W.heap.size W w1 := (hB.alloc hsz _).grown hgrow (by simp; omega) (fun g hg => (HO.out.lt g hg).1)
      have H1 := Lib.hid hown1
      clear hown1 hgrow
      go_wp2
      go_roundw
      case rel => exact ⟨k + 1, by omega, by go_num, by rw [firsts_hit _ k rfl]; exact OwnInts.next H1.out, hB1⟩
      case measure => simp [intOf]; omega
    · have E := Lib.hid (show k = 15 by omega)
      rw [E.out] at hO hl
      obtain ⟨a1, c1, g1, rfl, hg1, hr1⟩ := hO.at
      have R1 := Lib.hid hr1
      have HT1 := Lib.hid (HT.out.keeps hB)
      have hsz1 := HT1.out.1
      have HB1 : Hid (Below w.heap.size w wr) := HB0.out.trans (hB.mono (by have := HSZ.out; omega))
      clear hO hr1 hB
      go_wp2_with fail
      refine (l3Make_any 4 _ _ (firsts (fun _ => true) 15) border_ok_4 (by omega) _ R1.out.ints).mono ?_
      rintro e w4 ⟨v, rfl, hO, hb4⟩
      obtain ⟨a4, c4, g4, rfl, _⟩ := hO.atc
      have HO := Lib.hid hO
      obtain ⟨t0, t1, t2, t3, t4⟩ := HT1.out.keeps hb4
      have HB4 : Hid (Below w.heap.size w w4) := HB1.out.trans (hb4.mono (by omega))
      clear hb4 hO
      go_wp2
      refine ret_cx2 w.heap.size rfl rfl rfl (x := .int .i64 4) (y := .slice a4 (maximal (firsts (fun _ => true) 15)).length c4) (by go_simp) (by go_simp) rfl ?_
      exact ⟨_, rfl, (OwnInts.set (OwnInts.set HO.out _ _ _ (by omega)) _ _ _ (by omega)).lower (by omega), (HB4.out.setCell (by simp) _).setCell (by simp) _⟩

theorem full_5 : full 5 = some (5, [31]) := by decide +kernel
theorem made_full_5 : made 5 [31] = some (5, [31]) := by decide +kernel
theorem faces_full_5 : (faces 5 [31]).length = 32 := by decide +kernel
theorem made_border_5 : made 5 ((faces 5 [31]).take 31) = some (5, maximal (firsts (fun _ => true) 31)) := by decide +kernel
theorem border_5 : border 5 = some (5, maximal (firsts (fun _ => true) 31)) := by decide +kernel
theorem border_ok_5 : allOk (firsts (fun _ => true) 31) = true := by decide +kernel

set_option maxRecDepth 100000 in
set_option maxHeartbeats 2000000 in
theorem specBorder_5 (w : World) : Calls Tryz.prog 85 #[.int .i64 5] w fun e w' =>
      ∃ v, e = .returned (.tuple #[cx 5 v, .bool true]) ∧ OwnInts w' w.heap.size v (maximal (firsts (fun _ => true) 31)) ∧ Below w.heap.size w w' := by
  obtain ⟨i0, hi, hz0, hz1, hz2⟩ := info_parts info_int
  have htwo : Two (w.alloc (Obj.cells #[Value.int IntKind.i64 0, Value.slice none 0 0] 26)) w.heap.size (.int .i64 0) (.slice none 0 0) := Two.new _ _ _ _
  have hb0 : Below w.heap.size w (w.alloc (Obj.cells #[Value.int IntKind.i64 0, Value.slice none 0 0] 26)) := (Below.refl _ _).alloc (Nat.le_refl _) _
  have HT := Lib.hid htwo
  have HB0 := Lib.hid hb0
  clear htwo hb0
  go_enter Tryz.func85, Tryz.ntmps85
  go_wp2_with fail
  refine (in_b 5 1 6 true (by decide) _).mono ?_
  rintro e w' ⟨rfl, rfl⟩
  have HO0 := Lib.hid (OwnInts.lit (w.alloc (Obj.cells #[Value.int IntKind.i64 0, Value.slice none 0 0] 26)) (w.heap.size + 1) [] (by simp) (by simp))
  have hszW : (w.alloc (Obj.cells #[Value.int IntKind.i64 0, Value.slice none 0 0] 26)).heap.size = w.heap.size + 1 := by simp
  go_wp2
  generalize (w.alloc (Obj.cells #[Value.int IntKind.i64 0, Value.slice none 0 0] 26)) = W at *
  have HSZ := Lib.hid hszW
  clear hszW
  go_loopw [4, 5] (fun v i wr => ∃ k : Nat, k ≤ 31 ∧ i = .int .i64 (k : Int) ∧ OwnInts wr W.heap.size v (firsts (fun _ => true) k) ∧ Below W.heap.size W wr) (fun _ i _ => 31 - (intOf i).toNat)
  case atStart => exact ⟨0, by omega, rfl, by have h := HO0.out; rw [HSZ.out] at h ⊢; exact h, (Below.refl _ _).alloc (Nat.le_refl _) _⟩
  case round =>
    obtain ⟨k, hk, rfl, hO, hB⟩ := hrel
    have hsz := hB.size
    have hl := firsts_length (fun _ => true) k
    by_cases hlt : k < 31
    · unfold OwnInts at hO
      have HO := Lib.hid hO
      clear hO
      go_wp2_with (at_builtin; refine wpList_append_own _ rfl _ _ 24 rfl W.heap.size 3 i0 (.int .i64 0) 1 8 Tryz.underlying24 hi hz0 hz1 hz2 rfl (by decide) _ _ _ rfl (HO.out.alloc _) ⟨wr.heap.size, 0, none⟩ 1 1 [.int .i64 (k : Int)] rfl rfl ?c1 ?c2 ?c3 ?c4 ?c5 ?_)
      case c1 => intro j u hj; exact Mem.cell_new wr _ _ j u hj
      case c2 => intro u hu; simp at hu; subst hu; rfl
      case c3 => unfold maxLen; omega
      case c4 => omega
      case c5 => simp; omega
      intro v' w1 hown1 hgrow _
      have hB1 : Below W.heap.size W w1 := (hB.alloc hsz _).grown hgrow (by simp; omega) (fun g hg => (HO.out.lt g hg).1)
      have H1 := Lib.hid hown1
      clear hown1 hgrow
      go_wp2
      go_roundw
      case rel => exact ⟨k + 1, by omega, by go_num, by rw [firsts_hit _ k rfl]; exact OwnInts.next H1.out, hB1⟩
      case measure => simp [intOf]; omega
    · have E := Lib.hid (show k = 31 by omega)
      rw [E.out] at hO hl
      obtain ⟨a1, c1, g1, rfl, hg1, hr1⟩ := hO.at
      have R1 := Lib.hid hr1
      have HT1 := Lib.hid (HT.out.keeps hB)
      have hsz1 := HT1.out.1
      have HB1 : Hid (Below w.heap.size w wr) := HB0.out.trans (hB.mono (by have := HSZ.out; omega))
      clear hO hr1 hB
      go_wp2_with fail
      refine (l3Make_any 5 _ _ (firsts (fun _ => true) 31) border_ok_5 (by omega) _ R1.out.ints).mono ?_
      rintro e w4 ⟨v, rfl, hO, hb4⟩
      obtain ⟨a4, c4, g4, rfl, _⟩ := hO.atc
      have HO := Lib.hid hO
      obtain ⟨t0, t1, t2, t3, t4⟩ := HT1.out.keeps hb4
      have HB4 : Hid (Below w.heap.size w w4) := HB1.out.trans (hb4.mono (by omega))
      clear hb4 hO
      go_wp2
      refine ret_cx2 w.heap.size rfl rfl rfl (x := .int .i64 5) (y := .slice a4 (maximal (firsts (fun _ => true) 31)).length c4) (by go_simp) (by go_simp) rfl ?_
      exact ⟨_, rfl, (OwnInts.set (OwnInts.set HO.out _ _ _ (by omega)) _ _ _ (by omega)).lower (by omega), (HB4.out.setCell (by simp) _).setCell (by simp) _⟩

theorem full_6 : full 6 = some (6, [63]) := by decide +kernel
theorem made_full_6 : made 6 [63] = some (6, [63]) := by decide +kernel
theorem faces_full_6 : (faces 6 [63]).length = 64 := by decide +kernel
theorem made_border_6 : made 6 ((faces 6 [63]).take 63) = some (6, maximal (firsts (fun _ => true) 63)) := by decide +kernel
theorem border_6 : border 6 = some (6, maximal (firsts (fun _ => true) 63)) := by decide +kernel
theorem border_ok_6 : allOk (firsts (fun _ => true) 63) = true := by decide +kernel

set_option maxRecDepth 100000 in
set_option maxHeartbeats 2000000 in
theorem specBorder_6 (w : World) : Calls Tryz.prog 85 #[.int .i64 6] w fun e w' =>
      ∃ v, e = .returned (.tuple #[cx 6 v, .bool true]) ∧ OwnInts w' w.heap.size v (maximal (firsts (fun _ => true) 63)) ∧ Below w.heap.size w w' := by
  obtain ⟨i0, hi, hz0, hz1, hz2⟩ := info_parts info_int
  have htwo : Two (w.alloc (Obj.cells #[Value.int IntKind.i64 0, Value.slice none 0 0] 26)) w.heap.size (.int .i64 0) (.slice none 0 0) := Two.new _ _ _ _
  have hb0 : Below w.heap.size w (w.alloc (Obj.cells #[Value.int IntKind.i64 0, Value.slice none 0 0] 26)) := (Below.refl _ _).alloc (Nat.le_refl _) _
  have HT := Lib.hid htwo
  have HB0 := Lib.hid hb0
  clear htwo hb0
  go_enter Tryz.func85, Tryz.ntmps85
  go_wp2_with fail
  refine (in_b 6 1 6 true (by decide) _).mono ?_
  rintro e w' ⟨rfl, rfl⟩
  have HO0 := Lib.hid (OwnInts.lit (w.alloc (Obj.cells #[Value.int IntKind.i64 0, Value.slice none 0 0] 26)) (w.heap.size + 1) [] (by simp) (by simp))
  have hszW : (w.alloc (Obj.cells #[Value.int IntKind.i64 0, Value.slice none 0 0] 26)).heap.size = w.heap.size + 1 := by simp
  go_wp2
  generalize (w.alloc (Obj.cells #[Value.int IntKind.i64 0, Value.slice none 0 0] 26)) = W at *
  have HSZ := Lib.hid hszW
  clear hszW
  go_loopw [4, 5] (fun v i wr => ∃ k : Nat, k ≤ 63 ∧ i = .int .i64 (k : Int) ∧ OwnInts wr W.heap.size v (firsts (fun _ => true) k) ∧ Below W.heap.size W wr) (fun _ i _ => 63 - (intOf i).toNat)
  case atStart => exact ⟨0, by omega, rfl, by have h := HO0.out; rw [HSZ.out] at h ⊢; exact h, (Below.refl _ _).alloc (Nat.le_refl _) _⟩
  case round =>
    obtain ⟨k, hk, rfl, hO, hB⟩ := hrel
    have hsz := hB.size
    have hl := firsts_length (fun _ => true) k
    by_cases hlt : k < 63
    · unfold OwnInts at hO
      have HO := Lib.hid hO
      clear hO
      go_wp2_with (at_builtin; refine wpList_append_own _ rfl _ _ 24 rfl W.heap.size 3 i0 (.int .i64 0) 1 8 Tryz.underlying24 hi hz0 hz1 hz2 rfl (by decide) _ _ _ rfl (HO.out.alloc _) ⟨wr.heap.size, 0, none⟩ 1 1 [.int .i64 (k : Int)] rfl rfl ?c1 ?c2 ?c3 ?c4 ?c5 ?_)
      case c1 => intro j u hj; exact Mem.cell_new wr _ _ j u hj
      case c2 => intro u hu; simp at hu; subst hu; rfl
      case c3 => unfold maxLen; omega
      case c4 => omega
      case c5 => simp; omega
      intro v' w1 hown1 hgrow _
      have hB1 : Below W.heap.size W w1 := (hB.alloc hsz _).grown hgrow (by simp; omega) (fun g hg => (HO.out.lt g hg).1)
      have H1 := Lib.hid hown1
      clear hown1 hgrow
      go_wp2
      go_roundw
      case rel => exact ⟨k + 1, by omega, by go_num, by rw [firsts_hit _ k rfl]; exact OwnInts.next H1.out, hB1⟩
      case measure => simp [intOf]; omega
    · have E := Lib.hid (show k = 63 by omega)
      rw [E.out] at hO hl
      obtain ⟨a1, c1, g1, rfl, hg1, hr1⟩ := hO.at
      have R1 := Lib.hid hr1
      have HT1 := Lib.hid (HT.out.keeps hB)
      have hsz1 := HT1.out.1
      have HB1 : Hid (Below w.heap.size w wr) := HB0.out.trans (hB.mono (by have := HSZ.out; omega))
      clear hO hr1 hB
      go_wp2_with fail
      refine (l3Make_any 6 _ _ (firsts (fun _ => true) 63) border_ok_6 (by omega) _ R1.out.ints).mono ?_
      rintro e w4 ⟨v, rfl, hO, hb4⟩
      obtain ⟨a4, c4, g4, rfl, _⟩ := hO.atc
      have HO := Lib.hid hO
      obtain ⟨t0, t1, t2, t3, t4⟩ := HT1.out.keeps hb4
      have HB4 : Hid (Below w.heap.size w w4) := HB1.out.trans (hb4.mono (by omega))
      clear hb4 hO
      go_wp2
      refine ret_cx2 w.heap.size rfl rfl rfl (x := .int .i64 6) (y := .slice a4 (maximal (firsts (fun _ => true) 63)).length c4) (by go_simp) (by go_simp) rfl ?_
      exact ⟨_, rfl, (OwnInts.set (OwnInts.set HO.out _ _ _ (by omega)) _ _ _ (by omega)).lower (by omega), (HB4.out.setCell (by simp) _).setCell (by simp) _⟩

set_option maxRecDepth 100000 in
set_option maxHeartbeats 2000000 in
theorem specBorder_any (n : Int) (w : World) : Calls Tryz.prog 85 #[.int .i64 n] w fun e w' =>
      ∃ v, e = .returned (.tuple #[cx (oN (border n)) v, .bool (border n).isSome]) ∧ OwnInts w' w.heap.size v (oL (border n)) ∧ Below w.heap.size w w' := by
  cases hn : inB 1 6 n with
  | true =>
    rcases six n hn with rfl | rfl | rfl | rfl | rfl | rfl
    · rw [border_1]; exact specBorder_1 w
    · rw [border_2]; exact specBorder_2 w
    · rw [border_3]; exact specBorder_3 w
    · rw [border_4]; exact specBorder_4 w
    · rw [border_5]; exact specBorder_5 w
    · rw [border_6]; exact specBorder_6 w
  | false =>
    have HN := Lib.hid hn
    rw [border_no hn]
    have htwo : Two (w.alloc (Obj.cells #[Value.int IntKind.i64 0, Value.slice none 0 0] 26)) w.heap.size (.int .i64 0) (.slice none 0 0) := Two.new _ _ _ _
    have hb0 : Below w.heap.size w (w.alloc (Obj.cells #[Value.int IntKind.i64 0, Value.slice none 0 0] 26)) := (Below.refl _ _).alloc (Nat.le_refl _) _
    have HT := Lib.hid htwo
    have HB0 := Lib.hid hb0
    clear hn htwo hb0
    go_enter Tryz.func85, Tryz.ntmps85
    go_wp2_with fail
    refine (in_b n 1 6 false HN.out _).mono ?_
    rintro e w1 ⟨rfl, rfl⟩
    obtain ⟨t0, t1, t2, t3, t4⟩ := HT.out
    go_wp2
    refine ret_cx2 w.heap.size rfl rfl rfl (x := .int .i64 0) (y := .slice none 0 0) (by go_simp) (by go_simp) rfl ?_
    exact ⟨_, rfl, OwnInts.nil _ _, by first | exact (HB0.out.setCell (by simp) _).setCell (by simp) _ | exact HB0.out⟩

end Go.Proofs.YtbkkdgmiokdbmaaGreat
