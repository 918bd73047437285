/-
  WALKS: spec's faces; complexes made of sets, by impl and by spec.
-/
import Derived.Test.YtfnpkglijknnoaaWCx4
namespace Go.Proofs.Ytfnpkglijknnoaa
open Go.RowKit
open Sets

theorem any_false {q : Int → Bool} {xs : List Int} (h : ∀ j, j < xs.length → q (xs.getD j 0) = false) : xs.any q = false := any_miss q xs h

set_option maxRecDepth 100000 in
set_option maxHeartbeats 2000000 in
theorem l3Has_any (n : Int) (a : Option Addr) (c : Nat) (xs : List Int) (hok : allOk xs = true) (hlen : xs.length ≤ 1099511627776) (s : Nat) (hs : s < 64) (b : Bool) (hb : inF xs s = b) (w : World) (h : Ints w a xs) :
    Calls Try.prog 59 #[cx n (.slice a xs.length c), .int .i64 (s : Int)] w fun e w' => e = .returned (.bool b) ∧ Below w.heap.size w w' := by
  have hb0 : Below w.heap.size w (w.alloc (Obj.cells #[Value.int IntKind.i64 n, Value.slice a xs.length c] 26)) := (Below.refl _ _).alloc (Nat.le_refl _) _
  have H := Lib.hid (h.keeps hb0)
  have HB0 := Lib.hid hb0
  have HOK := Lib.hid (allOk_at xs hok)
  have HB := Lib.hid hb
  clear h hb0 hok hb
  go_enter Try.func59, Try.ntmps59
  go_wp2
  go_loop [5] (fun i => ∃ k : Nat, k ≤ xs.length ∧ i = .int .i64 (k : Int) ∧ ∀ j, j < k → sub s (xs.getD j 0).toNat = false) (fun i => xs.length - (intOf i).toNat)
  case atStart => exact ⟨0, Nat.zero_le _, rfl, fun j hj => absurd hj (Nat.not_lt_zero _)⟩
  case round =>
    obtain ⟨k, hk, rfl, hq⟩ := hrel
    have HQ := Lib.hid hq
    clear hq
    by_cases hlt : k < xs.length
    · obtain ⟨b0, o, rfl, g⟩ := H.out k hlt
      obtain ⟨t, ht, ht64⟩ := okZ_cast _ (HOK.out k hlt)
      rw [ht] at g
      have HTT := Lib.hid ht
      have ha := and_sub3 t s ht64 hs
      clear ht
      cases hsub : sub s t with
      | true =>
        rw [hsub] at ha
        have HF : Hid (b = true) := by
          have : b = true := by rw [← HB.out]; exact any_hit (fun f => sub s f.toNat) xs k hlt (by rw [HTT.out]; exact hsub)
          exact this
        clear hsub
        go_wp2
        go_ret
        exact ⟨by rw [HF.out]; rfl, HB0.out⟩
      | false =>
        rw [hsub] at ha
        have HSUB := Lib.hid hsub
        clear hsub
        go_wp2
        go_round
        case rel =>
          refine ⟨k + 1, by omega, by go_num, fun j hj => ?_⟩
          by_cases e : j = k
          · subst e; rw [HTT.out]; exact HSUB.out
          · exact HQ.out j (by omega)
        case measure => simp [intOf]; omega
    · have E := Lib.hid (show k = xs.length by omega)
      have HF : Hid (b = false) := by
        have : b = false := by rw [← HB.out]; exact any_miss (fun f => sub s f.toNat) xs (fun j hj => HQ.out j (by rw [E.out]; exact hj))
        exact this
      go_wp2
      go_ret
      exact ⟨by rw [HF.out]; rfl, HB0.out⟩

/-- The numbers below k that meet p. -/
def firsts (p : Nat → Bool) (k : Nat) : List Int := ((List.range k).filter p).map Int.ofNat
theorem firsts_hit (p : Nat → Bool) (k : Nat) (h : p k = true) : firsts p (k + 1) = firsts p k ++ [(k : Int)] := by
  unfold firsts; rw [List.range_succ, List.filter_append, List.map_append]; simp [h]
theorem firsts_miss (p : Nat → Bool) (k : Nat) (h : p k = false) : firsts p (k + 1) = firsts p k := by
  unfold firsts; rw [List.range_succ, List.filter_append, List.map_append]; simp [h]
theorem firsts_length (p : Nat → Bool) (k : Nat) : (firsts p k).length ≤ k := by
  unfold firsts; rw [List.length_map]; exact Nat.le_trans (List.length_filter_le _ _) (by simp)
theorem mem_firsts (p : Nat → Bool) (k : Nat) (x : Int) : x ∈ firsts p k ↔ ∃ t : Nat, x = (t : Int) ∧ t < k ∧ p t = true := by
  unfold firsts
  rw [List.mem_map]
  constructor
  · rintro ⟨t, ht, rfl⟩
    rw [List.mem_filter, List.mem_range] at ht
    exact ⟨t, rfl, ht.1, ht.2⟩
  · rintro ⟨t, rfl, h1, h2⟩
    exact ⟨t, by rw [List.mem_filter, List.mem_range]; exact ⟨h1, h2⟩, rfl⟩
theorem firsts_ok (p : Nat → Bool) : allOk (firsts p 64) = true := by
  unfold allOk
  rw [List.all_eq_true]
  intro x hx
  obtain ⟨t, rfl, ht, _⟩ := (mem_firsts p 64 x).1 hx
  exact (okZ_nat t).2 ht
theorem firsts_ord (p : Nat → Bool) : ord (inZ (firsts p 64)) = ord p := by
  apply ord_congr
  intro t ht
  rw [Bool.eq_iff_iff, inZ_iff, mem_firsts]
  constructor
  · rintro ⟨u, hu, _, h⟩
    have : t = u := by omega
    rw [this]; exact h
  · intro h; exact ⟨t, rfl, ht, h⟩

end Go.Proofs.Ytfnpkglijknnoaa
