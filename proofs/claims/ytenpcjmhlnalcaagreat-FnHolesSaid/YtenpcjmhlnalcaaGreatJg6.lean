/-
  TEXTS of one claim, put together: WWhereB, WContains, WBest, WSpecBest.
-/
import Derived.Test.YtenpcjmhlnalcaaGreatJg4
import Derived.Test.YtenpcjmhlnalcaaGreatJg0
import Derived.Shelf.Abstract
import Derived.Deep.QuietTactic
import Derived.Test.YtenpcjmhlnalcaaGreatJg5
/-! WALKS: impl.setsWhere at a predicate that may make memory of its own. -/

namespace Go.Proofs.YtenpcjmhlnalcaaGreat
open Go.RowKit
open Sets

/-- What is asked of the predicate: at every set, in every later world, it answers p and keeps all that was there. -/
def PredB (g : Nat) (lb : Array Value) (p : Nat → Bool) (w : World) : Prop :=
  ∀ (W : World) (s : Nat), s < 64 → Below w.heap.size w W → Calls Tryz.prog g (#[.int .i64 (s : Int)] ++ lb) W fun e w' => e = .returned (.bool (p s)) ∧ Below W.heap.size W w'
theorem PredB.at {g : Nat} {lb : Array Value} {p : Nat → Bool} {w : World} (h : PredB g lb p w) (W : World) (s : Nat) (b : Bool) (hb : p s = b) (hs : s < 64) (hB : Below w.heap.size w W) :
    Calls Tryz.prog g (#[.int .i64 (s : Int)] ++ lb) W fun e w' => e = .returned (.bool b) ∧ Below W.heap.size W w' := by
  subst hb; exact h W s hs hB

set_option maxRecDepth 100000 in
set_option maxHeartbeats 4000000 in
theorem setsWhere_bel (g : Nat) (lb : Array Value) (p : Nat → Bool) (w : World) (eg : ∀ args w, (callFunc g args).run Tryz.prog w = .ok (.enter g args) w) (hp : PredB g lb p w) :
    Calls Tryz.prog 71 #[.func (.func g) #[] lb] w fun e w' => ∃ v, e = .returned v ∧ OwnInts w' w.heap.size v (ord p) ∧ Below w.heap.size w w' := by
  obtain ⟨i0, hi, hz0, hz1, hz2⟩ := info_parts info_int
  have HPR := Lib.hid hp
  clear hp
  go_enter Tryz.func71, Tryz.ntmps71
  go_wp2
  go_loopw [3, 6] (fun v i wr => ∃ k : Nat, k ≤ 7 ∧ i = .int .i64 (k : Int) ∧ OwnInts wr w.heap.size v (upto p k 0) ∧ Below w.heap.size w wr) (fun _ i _ => 7 - (intOf i).toNat)
  case atStart => exact ⟨0, by omega, rfl, OwnInts.nil _ _, Below.refl _ _⟩
  case round =>
    obtain ⟨k, hk, rfl, hO, hB⟩ := hrel
    have HO := Lib.hid hO
    clear hO
    obtain ⟨wo, rfl⟩ : ∃ wo : World, wo = wr := ⟨_, rfl⟩
    by_cases hlt : k < 7
    · have hlt7 : decide ((k : Int) < 7) = true := by simp; omega
      go_wp2
      go_loopw [3, 9] (fun v i wr => ∃ n : Nat, n ≤ 64 ∧ i = .int .i64 (n : Int) ∧ OwnInts wr w.heap.size v (upto p k n) ∧ Below w.heap.size w wr) (fun _ i _ => 64 - (intOf i).toNat)
      case atStart => exact ⟨0, by omega, rfl, HO.out, hB⟩
      case round =>
        clear hB HO
        obtain ⟨n, hn, rfl, hO, hB⟩ := hrel
        have HO := Lib.hid hO
        clear hO
        have hsz := hB.size
        have hl := upto_length p k n
        by_cases hln : n < 64
        · have hpn := pc_le n
          by_cases hq : pc n = k
          · have hq' : ((pc n : Int) == (k : Int)) = true := by rw [hq]; simp
            have HQ := Lib.hid hq
            clear hq
            cases hp : p n with
            | true =>
              have HP := Lib.hid hp
              clear hp
              go_wp2_with fail
              refine (implSizeOf_nat n hln _).mono ?_
              rintro e w' ⟨rfl, rfl⟩
              go_wp2_with fail
              go_at_fn g
              refine (HPR.out.at _ n true HP.out hln hB).mono ?_
              rintro e w2 ⟨rfl, hb2⟩
              have hB2 : Below w.heap.size w w2 := hB.trans (hb2.mono hsz)
              have HO2 := Lib.hid (OwnInts.keeps HO.out hb2)
              unfold OwnInts at HO2
              have hsz2 := hB2.size
              clear hb2 HO
              go_wp2_with (at_builtin; refine wpList_append_own _ rfl _ _ 24 rfl w.heap.size 3 i0 (.int .i64 0) 1 8 Tryz.underlying24 hi hz0 hz1 hz2 rfl (by decide) _ _ _ rfl (HO2.out.alloc _) ⟨w2.heap.size, 0, none⟩ 1 1 [.int .i64 (n : Int)] rfl rfl ?c1 ?c2 ?c3 ?c4 ?c5 ?_)
              case c1 => intro j u hj; exact Mem.cell_new w2 _ _ j u hj
              case c2 => intro u hu; simp at hu; subst hu; rfl
              case c3 => unfold maxLen; omega
              case c4 => omega
              case c5 => simp; omega
              intro v' w1 hown1 hgrow _
              have hB1 : Below w.heap.size w w1 := (hB2.alloc hsz2 _).grown hgrow (by simp; omega) (fun g hg => (HO2.out.lt g hg).1)
              have H1 := Lib.hid hown1
              clear hown1 hgrow
              go_wp2
              go_roundw
              case rel => exact ⟨n + 1, by omega, by go_num, by rw [upto_hit p k n HQ.out HP.out]; exact OwnInts.next H1.out, hB1⟩
              case measure => simp [intOf]; omega
            | false =>
              have HP := Lib.hid hp
              clear hp
              go_wp2_with fail
              refine (implSizeOf_nat n hln _).mono ?_
              rintro e w' ⟨rfl, rfl⟩
              go_wp2_with fail
              go_at_fn g
              refine (HPR.out.at _ n false HP.out hln hB).mono ?_
              rintro e w2 ⟨rfl, hb2⟩
              have hB2 : Below w.heap.size w w2 := hB.trans (hb2.mono hsz)
              have HO2 := Lib.hid (OwnInts.keeps HO.out hb2)
              clear hb2 HO
              go_wp2
              go_roundw
              case rel => exact ⟨n + 1, by omega, by go_num, by rw [upto_miss p k n (fun h => by rw [HP.out] at h; simp at h)]; exact HO2.out, hB2⟩
              case measure => simp [intOf]; omega
          · have hq' : ((pc n : Int) == (k : Int)) = false := by simp; omega
            have HQ := Lib.hid hq
            clear hq
            go_wp2_with fail
            refine (implSizeOf_nat n hln _).mono ?_
            rintro e w' ⟨rfl, rfl⟩
            go_wp2
            go_roundw
            case rel => exact ⟨n + 1, by omega, by go_num, by rw [upto_miss p k n (fun h => HQ.out h.1)]; exact HO.out, hB⟩
            case measure => simp [intOf]; omega
        · have E := Lib.hid (show n = 64 by omega)
          go_wp2
          go_roundw
          case rel =>
            have h2 := HO.out
            rw [E.out, upto_line] at h2
            exact ⟨k + 1, by omega, by go_num, h2, hB⟩
          case measure => simp [intOf]; omega
    · have E := Lib.hid (show k = 7 by omega)
      go_wp2
      go_ret
      have h2 := HO.out
      rw [E.out, upto_end] at h2
      exact ⟨_, rfl, h2, hB⟩

end Go.Proofs.YtenpcjmhlnalcaaGreat

/-! WALKS: slices.IndexFunc and slices.ContainsFunc at slices of numbers, at a predicate that is asked of the slice's own numbers alone. -/

namespace Go.Proofs.YtenpcjmhlnalcaaGreat
open Go.RowKit

/-- What is asked of the predicate: at every number of the list, in every later world, it answers q; it may draw. -/
def Asks (g : Nat) (lb : Array Value) (q : Int → Bool) (zs : List Int) (w : World) : Prop :=
  ∀ (W : World) (j : Nat), j < zs.length → Below w.heap.size w W → Calls Tryz.prog g (#[.int .i64 (zs.getD j 0)] ++ lb) W fun e w' => e = .returned (.bool (q (zs.getD j 0))) ∧ ∃ m, w' = W.drewN m
theorem Asks.at {g : Nat} {lb : Array Value} {q : Int → Bool} {zs : List Int} {w : World} (h : Asks g lb q zs w) (W : World) (j : Nat) (x : Int) (b : Bool) (hx : zs.getD j 0 = x) (hb : q x = b) (hj : j < zs.length) (hB : Below w.heap.size w W) :
    Calls Tryz.prog g (#[.int .i64 x] ++ lb) W fun e w' => e = .returned (.bool b) ∧ ∃ m, w' = W.drewN m := by
  subst hx; subst hb; exact h W j hj hB

theorem any_miss (q : Int → Bool) (zs : List Int) (h : ∀ j, j < zs.length → q (zs.getD j 0) = false) : zs.any q = false := by
  rw [List.any_eq_false]
  intro x hx
  obtain ⟨j, hj, rfl⟩ := List.mem_iff_getElem.1 hx
  have := h j hj
  rw [List.getD, List.getElem?_eq_getElem hj] at this
  simpa using this
theorem any_hit (q : Int → Bool) (zs : List Int) (j : Nat) (hj : j < zs.length) (h : q (zs.getD j 0) = true) : zs.any q = true := by
  rw [List.any_eq_true]
  rw [List.getD, List.getElem?_eq_getElem hj] at h
  exact ⟨_, List.getElem_mem hj, h⟩

set_option maxRecDepth 100000 in
set_option maxHeartbeats 2000000 in
theorem indexFunc_any (g : Nat) (lb : Array Value) (q : Int → Bool) (a : Option Addr) (c : Nat) (zs : List Int) (w : World) (eg : ∀ args w, (callFunc g args).run Tryz.prog w = .ok (.enter g args) w)
    (hp : Asks g lb q zs w) (hlen : zs.length ≤ 1099511627776) (h : Ints w a zs) :
    Calls Tryz.prog 108 #[.slice a zs.length c, .func (.func g) #[] lb] w fun e w' => ∃ k : Int, e = .returned (.int .i64 k) ∧ -1 ≤ k ∧ k ≤ 1099511627776 ∧ decide (0 ≤ k) = zs.any q ∧ ∃ m, w' = w.drewN m := by
  have HP := Lib.hid hp
  have H := Lib.hid h
  clear hp h
  go_enter Tryz.func108, Tryz.ntmps108
  go_wp2
  go_loopw [8] (fun i wr => ∃ k n : Nat, k ≤ zs.length ∧ i = .int .i64 (k : Int) ∧ (∀ j, j < k → q (zs.getD j 0) = false) ∧ wr = w.drewN n) (fun i _ => zs.length - (intOf i).toNat)
  case atStart => exact ⟨0, 0, Nat.zero_le _, rfl, fun j hj => absurd hj (Nat.not_lt_zero _), rfl⟩
  case round =>
    obtain ⟨k, n, hk, rfl, hq, rfl⟩ := hrel
    have HQ := Lib.hid hq
    clear hq
    have hB : Below w.heap.size w (w.drewN n) := Mem.below_drewN w n
    by_cases hlt : k < zs.length
    · obtain ⟨b, o, rfl, hc⟩ := H.out k hlt
      obtain ⟨x, hx⟩ : ∃ x, zs.getD k 0 = x := ⟨_, rfl⟩
      rw [hx] at hc
      have HX := Lib.hid hx
      clear hx
      cases hqx : q x with
      | true =>
        have HQX := Lib.hid hqx
        clear hqx
        go_wp2_with (go_at_fn g; refine (HP.out.at _ k x true HX.out HQX.out hlt hB).mono ?_; rintro e w' ⟨rfl, m, rfl⟩)
        go_ret
        refine ⟨(k : Int), rfl, by omega, by omega, ?_, _, rfl⟩
        rw [any_hit q zs k hlt (by rw [HX.out]; exact HQX.out)]
        simp
      | false =>
        have HQX := Lib.hid hqx
        clear hqx
        go_wp2_with (go_at_fn g; refine (HP.out.at _ k x false HX.out HQX.out hlt hB).mono ?_; rintro e w' ⟨rfl, m, rfl⟩)
        go_roundw
        case rel =>
          refine ⟨k + 1, _, by omega, by go_num, fun j hj => ?_, rfl⟩
          by_cases e : j = k
          · subst e; rw [HX.out]; exact HQX.out
          · exact HQ.out j (by omega)
        case measure => simp [intOf]; omega
    · have E := Lib.hid (show k = zs.length by omega)
      have hany : zs.any q = false := any_miss q zs (fun j hj => HQ.out j (by rw [E.out]; exact hj))
      have HA := Lib.hid hany
      clear hany
      go_wp2
      go_ret
      exact ⟨-1, rfl, by omega, by omega, by rw [HA.out]; rfl, _, rfl⟩

set_option maxRecDepth 100000 in
set_option maxHeartbeats 2000000 in
theorem containsFunc_any (g : Nat) (lb : Array Value) (q : Int → Bool) (b : Bool) (a : Option Addr) (c : Nat) (zs : List Int) (hb : zs.any q = b) (w : World) (eg : ∀ args w, (callFunc g args).run Tryz.prog w = .ok (.enter g args) w)
    (hp : Asks g lb q zs w) (hlen : zs.length ≤ 1099511627776) (h : Ints w a zs) :
    Calls Tryz.prog 94 #[.slice a zs.length c, .func (.func g) #[] lb] w fun e w' => e = .returned (.bool b) ∧ ∃ m, w' = w.drewN m := by
  have hc := indexFunc_any g lb q a c zs w eg hp hlen h
  rw [hb] at hc
  have HC := Lib.hid hc
  clear hc hp h hb eg
  go_enter Tryz.func94, Tryz.ntmps94
  go_wp2_with fail
  refine HC.out.mono ?_
  rintro e w' ⟨k, rfl, h1, h2, hk, m, rfl⟩
  have HK := Lib.hid hk
  clear hk
  go_wp2
  go_ret
  exact ⟨by rw [← HK.out]; rfl, _, rfl⟩

end Go.Proofs.YtenpcjmhlnalcaaGreat

/-! WALKS: impl.MaximalSets and impl.MinimalSets. -/

namespace Go.Proofs.YtenpcjmhlnalcaaGreat
open Go.RowKit
open Sets

/-- What is asked of the comparison: at two sets it answers r and leaves all as it was. -/
def Beat (g : Nat) (lb : Array Value) (r : Nat → Nat → Bool) : Prop :=
  ∀ (W : World) (s t : Nat), s < 64 → t < 64 → Calls Tryz.prog g (#[.int .i64 (s : Int), .int .i64 (t : Int)] ++ lb) W fun e w' => e = .returned (.bool (r s t)) ∧ W = w'
/-- y is another one and beats x. -/
def beatsQ (r : Nat → Nat → Bool) (x y : Int) : Bool := y != x && r x.toNat y.toNat
theorem unbeaten_any (r : Nat → Nat → Bool) (all : List Int) (x : Int) : unbeaten r all x = !(all.any (beatsQ r x)) := by
  unfold unbeaten beatsQ
  rw [List.not_any_eq_all_not]
/-- All of the list are sets. -/
def Sets64 (L : List Int) : Prop := ∀ j, j < L.length → ∃ s : Nat, L.getD j 0 = (s : Int) ∧ s < 64
theorem order_sets (xs : List Int) : Sets64 (order xs) := fun j hj => by
  have hm : (order xs).getD j 0 ∈ order xs := by rw [List.getD, List.getElem?_eq_getElem hj]; exact List.getElem_mem hj
  obtain ⟨s, h1, h2, _⟩ := order_mem xs _ hm
  exact ⟨s, h1, h2⟩

theorem contains_bel (g : Nat) (lb : Array Value) (q : Int → Bool) (b : Bool) (a : Option Addr) (c : Nat) (zs : List Int) (hb : zs.any q = b) (w : World) (eg : ∀ args w, (callFunc g args).run Tryz.prog w = .ok (.enter g args) w)
    (hp : Asks g lb q zs w) (hlen : zs.length ≤ 1099511627776) (h : Ints w a zs) :
    Calls Tryz.prog 94 #[.slice a zs.length c, .func (.func g) #[] lb] w fun e w' => e = .returned (.bool b) ∧ Below w.heap.size w w' :=
  (containsFunc_any g lb q b a c zs hb w eg hp hlen h).mono fun e w' ⟨he, m, hw⟩ => ⟨he, by subst hw; exact Mem.below_drewN w m⟩

theorem isSubset_beat : Beat 90 #[] sub := fun W s t hs ht => isSubset_any s t hs ht W

end Go.Proofs.YtenpcjmhlnalcaaGreat

/-! WALKS: spec.MaximalSets and spec.MinimalSets. -/

namespace Go.Proofs.YtenpcjmhlnalcaaGreat
open Go.RowKit
open Sets

theorem any_next (r : Nat → Nat → Bool) (L : List Int) (n s : Nat) (h : n < L.length) : (L.take (n + 1)).any (beatsQ r (s : Int)) = ((L.take n).any (beatsQ r (s : Int)) || beatsQ r (s : Int) (L.getD n 0)) := by
  rw [List.take_succ_eq_append_getElem h, List.any_append, List.getD, List.getElem?_eq_getElem h]
  simp
theorem and_sub3 : ∀ a b : Nat, a < 64 → b < 64 → (bits BinOp.and IntKind.i64 (a : Int) (b : Int) == (b : Int)) = sub b a := by
  refine fin64b ?_
  decide +kernel

set_option maxRecDepth 100000 in
set_option maxHeartbeats 4000000 in
theorem l2Extreme_true (a : Option Addr) (c : Nat) (xs : List Int) (hlen : xs.length ≤ 1099511627776) (hall : allOk xs = true) (w : World) (h : Ints w a xs) :
    Calls Tryz.prog 102 #[.slice a xs.length c, .bool true] w fun e w' => ∃ v, e = .returned v ∧ OwnInts w' w.heap.size v (best sub (order xs)) ∧ Below w.heap.size w w' := by
  obtain ⟨i0, hi, hz0, hz1, hz2⟩ := info_parts info_int
  have hord : order xs = ord (inZ xs) := by unfold order; rw [if_pos hall]
  have hL := order_sets xs
  have hLn := order_length xs
  have HL := Lib.hid hL
  have HORD := Lib.hid hord
  have H := Lib.hid h
  have HALL := Lib.hid hall
  clear h hall hL hord
  go_enter Tryz.func102, Tryz.ntmps102
  go_wp2_with fail
  refine (l2Order_any _ _ xs hlen HALL.out _ H.out).mono ?_
  rintro e w1 ⟨v, rfl, hO, hb1⟩
  rw [← HORD.out] at hO
  generalize hLe : order xs = L at *
  have HLE := Lib.hid hLe
  clear hLe HORD
  obtain ⟨a1, c1, g1, rfl, hg1, hr1⟩ := hO.at
  have hsz1 := hb1.size
  have R1 := Lib.hid hr1
  have B1 := Lib.hid hb1
  clear hO hr1 hb1 hg1
  go_wp2
  go_loopw [6, 7] (fun v i wr => ∃ k : Nat, k ≤ L.length ∧ i = .int .i64 (k : Int) ∧ OwnInts wr w1.heap.size v (kept sub L k) ∧ Below w1.heap.size w1 wr) (fun _ i _ => L.length - (intOf i).toNat)
  case atStart => exact ⟨0, Nat.zero_le _, rfl, OwnInts.lit w1 _ [] (Nat.le_refl _) (by simp), (Below.refl _ _).alloc (Nat.le_refl _) _⟩
  case round =>
    obtain ⟨k, hk, rfl, hO, hB⟩ := hrel
    unfold OwnInts at hO
    have HO := Lib.hid hO
    clear hO
    have hsz := hB.size
    have hl := kept_length sub L k
    obtain ⟨wo, rfl⟩ : ∃ wo : World, wo = wr := ⟨_, rfl⟩
    by_cases hlt : k < L.length
    · obtain ⟨s, hs, hs64⟩ := HL.out k hlt
      have HS := Lib.hid hs
      have R2 := Lib.hid (R1.out.keeps hB)
      obtain ⟨ea, hlt1, hc1, _⟩ := R2.out k hlt
      rw [hs] at hc1
      have EA := Lib.hid ea
      obtain rfl := ea
      have hltk : decide (k < L.length) = true := by simpa using hlt
      clear hs
      go_wp2
      go_loop [8, 9] (fun f i => ∃ n : Nat, n ≤ L.length ∧ i = .int .i64 (n : Int) ∧ f = .bool (!((L.take n).any (beatsQ sub (s : Int))))) (fun _ i => L.length - (intOf i).toNat)
      case atStart => exact ⟨0, Nat.zero_le _, rfl, by simp⟩
      case round =>
        obtain ⟨n, hn, rfl, rfl⟩ := hrel
        by_cases hln : n < L.length
        · obtain ⟨t, ht, ht64⟩ := HL.out n hln
          have HT := Lib.hid ht
          obtain ⟨_, _, hc2, _⟩ := R2.out n hln
          rw [ht] at hc2
          have hnx := any_next sub L n s hln
          rw [ht] at hnx
          have HNX := Lib.hid hnx
          generalize (L.take n).any (beatsQ sub (s : Int)) = f at *
          clear ht hnx
          by_cases e : s = t
          · have hq : ((s : Int) != (t : Int)) = false := by simp; omega
            have hb : beatsQ sub (s : Int) (t : Int) = false := by unfold beatsQ; rw [e]; simp
            have HBQ := Lib.hid hb
            clear e hb
            go_wp2
            go_round
            case rel => exact ⟨n + 1, by omega, by go_num, by rw [HNX.out, HBQ.out, Bool.or_false]⟩
            case measure => simp [intOf]; omega
          · have hq : ((s : Int) != (t : Int)) = true := by simp; omega
            have hb : beatsQ sub (s : Int) (t : Int) = sub s t := by unfold beatsQ; rw [show ((t : Int) != (s : Int)) = true by simp; omega]; rfl
            have HBQ := Lib.hid hb
            clear e hb
            have ha := and_sub2 s t hs64 ht64
            cases hsub : sub s t with
            | true =>
              rw [hsub] at ha
              have HSUB := Lib.hid hsub
              clear hsub
              go_wp2
              go_round
              case rel => exact ⟨n + 1, by omega, by go_num, by rw [HNX.out, HBQ.out, HSUB.out, Bool.or_true]; rfl⟩
              case measure => simp [intOf]; omega
            | false =>
              rw [hsub] at ha
              have HSUB := Lib.hid hsub
              clear hsub
              go_wp2
              go_round
              case rel => exact ⟨n + 1, by omega, by go_num, by rw [HNX.out, HBQ.out, HSUB.out, Bool.or_false]⟩
              case measure => simp [intOf]; omega
        · have E := Lib.hid (show n = L.length by omega)
          have hu := unbeaten_any sub L (s : Int)
          have hf : (!((L.take n).any (beatsQ sub (s : Int)))) = unbeaten sub L (L.getD k 0) := by rw [HS.out, hu, E.out, List.take_length]
          have HF := Lib.hid hf
          clear hu hf
          generalize (L.take n).any (beatsQ sub (s : Int)) = f at *
          cases hfv : f with
          | true =>
            have HU : Hid (unbeaten sub L (L.getD k 0) = false) := by
              have : unbeaten sub L (L.getD k 0) = false := by rw [← HF.out, hfv]; rfl
              exact this
            clear hfv
            go_wp2
            go_roundw
            case rel => exact ⟨k + 1, by omega, by go_num, by rw [kept_miss sub L k hlt HU.out]; exact HO.out, hB⟩
            case measure => simp [intOf]; omega
          | false =>
            have HU : Hid (unbeaten sub L (L.getD k 0) = true) := by
              have : unbeaten sub L (L.getD k 0) = true := by rw [← HF.out, hfv]; rfl
              exact this
            clear hfv
            go_wp2_with (at_builtin; refine wpList_append_own _ rfl _ _ 24 rfl w1.heap.size 3 i0 (.int .i64 0) 1 8 Tryz.underlying24 hi hz0 hz1 hz2 rfl (by decide) _ _ _ rfl (HO.out.alloc _) ⟨wo.heap.size, 0, none⟩ 1 1 [.int .i64 (s : Int)] rfl rfl ?c1 ?c2 ?c3 ?c4 ?c5 ?_)
            try (case c1 => intro j u hj; exact Mem.cell_new wo _ _ j u hj)
            case c2 => first | rfl | (intro u hu; simp at hu; subst hu; rfl)
            case c3 => unfold maxLen; omega
            case c4 => omega
            case c5 => first | omega | (simp; omega)
            intro v' w3 hown1 hgrow _
            have hB3 : Below w1.heap.size w1 w3 := (hB.alloc hsz _).grown hgrow (by simp; omega) (fun g hg => (HO.out.lt g hg).1)
            have H1 := Lib.hid hown1
            clear hown1 hgrow
            go_wp2
            go_roundw
            case rel => exact ⟨k + 1, by omega, by go_num, by rw [kept_hit sub L k hlt HU.out, HS.out]; exact OwnInts.next H1.out, hB3⟩
            case measure => simp [intOf]; omega
    · have E := Lib.hid (show k = L.length by omega)
      go_wp2
      go_ret
      refine ⟨_, rfl, ?_, B1.out.trans (hB.mono (by omega))⟩
      have h2 := HO.out
      rw [E.out, kept_end] at h2
      rw [HLE.out]
      exact OwnInts.lower (base := w1.heap.size) h2 (by omega)

set_option maxRecDepth 100000 in
set_option maxHeartbeats 4000000 in
theorem l2Extreme_false (a : Option Addr) (c : Nat) (xs : List Int) (hlen : xs.length ≤ 1099511627776) (hall : allOk xs = true) (w : World) (h : Ints w a xs) :
    Calls Tryz.prog 102 #[.slice a xs.length c, .bool false] w fun e w' => ∃ v, e = .returned v ∧ OwnInts w' w.heap.size v (best (fun s o => sub o s) (order xs)) ∧ Below w.heap.size w w' := by
  obtain ⟨i0, hi, hz0, hz1, hz2⟩ := info_parts info_int
  have hord : order xs = ord (inZ xs) := by unfold order; rw [if_pos hall]
  have hL := order_sets xs
  have hLn := order_length xs
  have HL := Lib.hid hL
  have HORD := Lib.hid hord
  have H := Lib.hid h
  have HALL := Lib.hid hall
  clear h hall hL hord
  go_enter Tryz.func102, Tryz.ntmps102
  go_wp2_with fail
  refine (l2Order_any _ _ xs hlen HALL.out _ H.out).mono ?_
  rintro e w1 ⟨v, rfl, hO, hb1⟩
  rw [← HORD.out] at hO
  generalize hLe : order xs = L at *
  have HLE := Lib.hid hLe
  clear hLe HORD
  obtain ⟨a1, c1, g1, rfl, hg1, hr1⟩ := hO.at
  have hsz1 := hb1.size
  have R1 := Lib.hid hr1
  have B1 := Lib.hid hb1
  clear hO hr1 hb1 hg1
  go_wp2
  go_loopw [6, 7] (fun v i wr => ∃ k : Nat, k ≤ L.length ∧ i = .int .i64 (k : Int) ∧ OwnInts wr w1.heap.size v (kept (fun s o => sub o s) L k) ∧ Below w1.heap.size w1 wr) (fun _ i _ => L.length - (intOf i).toNat)
  case atStart => exact ⟨0, Nat.zero_le _, rfl, OwnInts.lit w1 _ [] (Nat.le_refl _) (by simp), (Below.refl _ _).alloc (Nat.le_refl _) _⟩
  case round =>
    obtain ⟨k, hk, rfl, hO, hB⟩ := hrel
    unfold OwnInts at hO
    have HO := Lib.hid hO
    clear hO
    have hsz := hB.size
    have hl := kept_length (fun s o => sub o s) L k
    obtain ⟨wo, rfl⟩ : ∃ wo : World, wo = wr := ⟨_, rfl⟩
    by_cases hlt : k < L.length
    · obtain ⟨s, hs, hs64⟩ := HL.out k hlt
      have HS := Lib.hid hs
      have R2 := Lib.hid (R1.out.keeps hB)
      obtain ⟨ea, hlt1, hc1, _⟩ := R2.out k hlt
      rw [hs] at hc1
      have EA := Lib.hid ea
      obtain rfl := ea
      have hltk : decide (k < L.length) = true := by simpa using hlt
      clear hs
      go_wp2
      go_loop [8, 9] (fun f i => ∃ n : Nat, n ≤ L.length ∧ i = .int .i64 (n : Int) ∧ f = .bool (!((L.take n).any (beatsQ (fun s o => sub o s) (s : Int))))) (fun _ i => L.length - (intOf i).toNat)
      case atStart => exact ⟨0, Nat.zero_le _, rfl, by simp⟩
      case round =>
        obtain ⟨n, hn, rfl, rfl⟩ := hrel
        by_cases hln : n < L.length
        · obtain ⟨t, ht, ht64⟩ := HL.out n hln
          have HT := Lib.hid ht
          obtain ⟨_, _, hc2, _⟩ := R2.out n hln
          rw [ht] at hc2
          have hnx := any_next (fun s o => sub o s) L n s hln
          rw [ht] at hnx
          have HNX := Lib.hid hnx
          generalize (L.take n).any (beatsQ (fun s o => sub o s) (s : Int)) = f at *
          clear ht hnx
          by_cases e : s = t
          · have hq : ((s : Int) != (t : Int)) = false := by simp; omega
            have hb : beatsQ (fun s o => sub o s) (s : Int) (t : Int) = false := by unfold beatsQ; rw [e]; simp
            have HBQ := Lib.hid hb
            clear e hb
            go_wp2
            go_round
            case rel => exact ⟨n + 1, by omega, by go_num, by rw [HNX.out, HBQ.out, Bool.or_false]⟩
            case measure => simp [intOf]; omega
          · have hq : ((s : Int) != (t : Int)) = true := by simp; omega
            have hb : beatsQ (fun s o => sub o s) (s : Int) (t : Int) = sub t s := by unfold beatsQ; rw [show ((t : Int) != (s : Int)) = true by simp; omega]; rfl
            have HBQ := Lib.hid hb
            clear e hb
            have ha := and_sub3 s t hs64 ht64
            cases hsub : sub t s with
            | true =>
              rw [hsub] at ha
              have HSUB := Lib.hid hsub
              clear hsub
              go_wp2
              go_round
              case rel => exact ⟨n + 1, by omega, by go_num, by rw [HNX.out, HBQ.out, HSUB.out, Bool.or_true]; rfl⟩
              case measure => simp [intOf]; omega
            | false =>
              rw [hsub] at ha
              have HSUB := Lib.hid hsub
              clear hsub
              go_wp2
              go_round
              case rel => exact ⟨n + 1, by omega, by go_num, by rw [HNX.out, HBQ.out, HSUB.out, Bool.or_false]⟩
              case measure => simp [intOf]; omega
        · have E := Lib.hid (show n = L.length by omega)
          have hu := unbeaten_any (fun s o => sub o s) L (s : Int)
          have hf : (!((L.take n).any (beatsQ (fun s o => sub o s) (s : Int)))) = unbeaten (fun s o => sub o s) L (L.getD k 0) := by rw [HS.out, hu, E.out, List.take_length]
          have HF := Lib.hid hf
          clear hu hf
          generalize (L.take n).any (beatsQ (fun s o => sub o s) (s : Int)) = f at *
          cases hfv : f with
          | true =>
            have HU : Hid (unbeaten (fun s o => sub o s) L (L.getD k 0) = false) := by
              have : unbeaten (fun s o => sub o s) L (L.getD k 0) = false := by rw [← HF.out, hfv]; rfl
              exact this
            clear hfv
            go_wp2
            go_roundw
            case rel => exact ⟨k + 1, by omega, by go_num, by rw [kept_miss (fun s o => sub o s) L k hlt HU.out]; exact HO.out, hB⟩
            case measure => simp [intOf]; omega
          | false =>
            have HU : Hid (unbeaten (fun s o => sub o s) L (L.getD k 0) = true) := by
              have : unbeaten (fun s o => sub o s) L (L.getD k 0) = true := by rw [← HF.out, hfv]; rfl
              exact this
            clear hfv
            go_wp2_with (at_builtin; refine wpList_append_own _ rfl _ _ 24 rfl w1.heap.size 3 i0 (.int .i64 0) 1 8 Tryz.underlying24 hi hz0 hz1 hz2 rfl (by decide) _ _ _ rfl (HO.out.alloc _) ⟨wo.heap.size, 0, none⟩ 1 1 [.int .i64 (s : Int)] rfl rfl ?c1 ?c2 ?c3 ?c4 ?c5 ?_)
            try (case c1 => intro j u hj; exact Mem.cell_new wo _ _ j u hj)
            case c2 => first | rfl | (intro u hu; simp at hu; subst hu; rfl)
            case c3 => unfold maxLen; omega
            case c4 => omega
            case c5 => first | omega | (simp; omega)
            intro v' w3 hown1 hgrow _
            have hB3 : Below w1.heap.size w1 w3 := (hB.alloc hsz _).grown hgrow (by simp; omega) (fun g hg => (HO.out.lt g hg).1)
            have H1 := Lib.hid hown1
            clear hown1 hgrow
            go_wp2
            go_roundw
            case rel => exact ⟨k + 1, by omega, by go_num, by rw [kept_hit (fun s o => sub o s) L k hlt HU.out, HS.out]; exact OwnInts.next H1.out, hB3⟩
            case measure => simp [intOf]; omega
    · have E := Lib.hid (show k = L.length by omega)
      go_wp2
      go_ret
      refine ⟨_, rfl, ?_, B1.out.trans (hB.mono (by omega))⟩
      have h2 := HO.out
      rw [E.out, kept_end] at h2
      rw [HLE.out]
      exact OwnInts.lower (base := w1.heap.size) h2 (by omega)

end Go.Proofs.YtenpcjmhlnalcaaGreat
