/-
  WALKS: slices.IndexFunc and slices.ContainsFunc at slices of numbers, at a predicate that is asked of the slice's own numbers alone.
-/
import Derived.Test.YtmonaiojejbhkaaInts
import Derived.Shelf.Abstract
import Derived.Deep.QuietTactic
namespace Go.Proofs.Ytmonaiojejbhkaa
open Go.RowKit

/-- What is asked of the predicate: at every number of the list, in every later world, it answers q; it may draw. -/
def Asks (g : Nat) (lb : Array Value) (q : Int → Bool) (zs : List Int) (w : World) : Prop :=
  ∀ (W : World) (j : Nat), j < zs.length → Below w.heap.size w W → Calls Try.prog g (#[.int .i64 (zs.getD j 0)] ++ lb) W fun e w' => e = .returned (.bool (q (zs.getD j 0))) ∧ ∃ m, w' = W.drewN m
theorem Asks.at {g : Nat} {lb : Array Value} {q : Int → Bool} {zs : List Int} {w : World} (h : Asks g lb q zs w) (W : World) (j : Nat) (x : Int) (b : Bool) (hx : zs.getD j 0 = x) (hb : q x = b) (hj : j < zs.length) (hB : Below w.heap.size w W) :
    Calls Try.prog g (#[.int .i64 x] ++ lb) W fun e w' => e = .returned (.bool b) ∧ ∃ m, w' = W.drewN m := by
  subst hx; subst hb; exact h W j hj hB

theorem any_miss (q : Int → Bool) (zs : List Int) (h : ∀ j, j < zs.length → q (zs.getD j 0) = false) : zs.any q = false := by
  rw [List.any_eq_false]
  intro x hx
  obtain ⟨j, hj, rfl⟩ := List.mem_iff_getElem.1 hx
  have := h j hj
  rw [List.getD, List.getElem?_eq_getElem hj] at this
  simpa using this
theorem any_hit (q : Int → Bool) (zs : List Int) (j : Nat) (hj : j < zs.length) (h : q (zs.getD j 0) = true) : zs.any q = true := by
  rw [List.any_eq_true]
  rw [List.getD, List.getElem?_eq_getElem hj] at h
  exact ⟨_, List.getElem_mem hj, h⟩

set_option maxRecDepth 100000 in
set_option maxHeartbeats 2000000 in
theorem indexFunc_any (g : Nat) (lb : Array Value) (q : Int → Bool) (a : Option Addr) (c : Nat) (zs : List Int) (w : World) (eg : ∀ args w, (callFunc g args).run Try.prog w = .ok (.enter g args) w)
    (hp : Asks g lb q zs w) (hlen : zs.length ≤ 1099511627776) (h : Ints w a zs) :
    Calls Try.prog 74 #[.slice a zs.length c, .func (.func g) #[] lb] w fun e w' => ∃ k : Int, e = .returned (.int .i64 k) ∧ -1 ≤ k ∧ k ≤ 1099511627776 ∧ decide (0 ≤ k) = zs.any q ∧ ∃ m, w' = w.drewN m := by
  have HP := Lib.hid hp
  have H := Lib.hid h
  clear hp h
  go_enter Try.func74, Try.ntmps74
  go_wp2
  go_loopw [8] (fun i wr => ∃ k n : Nat, k ≤ zs.length ∧ i = .int .i64 (k : Int) ∧ (∀ j, j < k → q (zs.getD j 0) = false) ∧ wr = w.drewN n) (fun i _ => zs.length - (intOf i).toNat)
  case atStart => exact ⟨0, 0, Nat.zero_le _, rfl, fun j hj => absurd hj (Nat.not_lt_zero _), rfl⟩
  case round =>
    obtain ⟨k, n, hk, rfl, hq, rfl⟩ := hrel
    have HQ := Lib.hid hq
    clear hq
    have hB : Below w.heap.size w (w.drewN n) := Mem.below_drewN w n
    by_cases hlt : k < zs.length
    · obtain ⟨b, o, rfl, hc⟩ := H.out k hlt
      obtain ⟨x, hx⟩ : ∃ x, zs.getD k 0 = x := ⟨_, rfl⟩
      rw [hx] at hc
      have HX := Lib.hid hx
      clear hx
      cases hqx : q x with
      | true =>
        have HQX := Lib.hid hqx
        clear hqx
        go_wp2_with (go_at_fn g; refine (HP.out.at _ k x true HX.out HQX.out hlt hB).mono ?_; rintro e w' ⟨rfl, m, rfl⟩)
        go_ret
        refine ⟨(k : Int), rfl, by omega, by omega, ?_, _, rfl⟩
        rw [any_hit q zs k hlt (by rw [HX.out]; exact HQX.out)]
        simp
      | false =>
        have HQX := Lib.hid hqx
        clear hqx
        go_wp2_with (go_at_fn g; refine (HP.out.at _ k x false HX.out HQX.out hlt hB).mono ?_; rintro e w' ⟨rfl, m, rfl⟩)
        go_roundw
        case rel =>
          refine ⟨k + 1, _, by omega, by go_num, fun j hj => ?_, rfl⟩
          by_cases e : j = k
          · subst e; rw [HX.out]; exact HQX.out
          · exact HQ.out j (by omega)
        case measure => simp [intOf]; omega
    · have E := Lib.hid (show k = zs.length by omega)
      have hany : zs.any q = false := any_miss q zs (fun j hj => HQ.out j (by rw [E.out]; exact hj))
      have HA := Lib.hid hany
      clear hany
      go_wp2
      go_ret
      exact ⟨-1, rfl, by omega, by omega, by rw [HA.out]; rfl, _, rfl⟩

set_option maxRecDepth 100000 in
set_option maxHeartbeats 2000000 in
theorem containsFunc_any (g : Nat) (lb : Array Value) (q : Int → Bool) (b : Bool) (a : Option Addr) (c : Nat) (zs : List Int) (hb : zs.any q = b) (w : World) (eg : ∀ args w, (callFunc g args).run Try.prog w = .ok (.enter g args) w)
    (hp : Asks g lb q zs w) (hlen : zs.length ≤ 1099511627776) (h : Ints w a zs) :
    Calls Try.prog 53 #[.slice a zs.length c, .func (.func g) #[] lb] w fun e w' => e = .returned (.bool b) ∧ ∃ m, w' = w.drewN m := by
  have hc := indexFunc_any g lb q a c zs w eg hp hlen h
  rw [hb] at hc
  have HC := Lib.hid hc
  clear hc hp h hb eg
  go_enter Try.func53, Try.ntmps53
  go_wp2_with fail
  refine HC.out.mono ?_
  rintro e w' ⟨k, rfl, h1, h2, hk, m, rfl⟩
  have HK := Lib.hid hk
  clear hk
  go_wp2
  go_ret
  exact ⟨by rw [← HK.out]; rfl, _, rfl⟩

end Go.Proofs.Ytmonaiojejbhkaa
