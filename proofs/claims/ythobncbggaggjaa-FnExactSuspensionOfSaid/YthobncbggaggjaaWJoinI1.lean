/-
  WALKS of chapter 6 by impl: sets moved up, unions of sets, a point, two points, the points of all facets.
-/
import Derived.Test.YthobncbggaggjaaWJoinS4
import Derived.IntWalk
namespace Go.Proofs.Ythobncbggaggjaa
open Go.RowKit
open Sets Lin Hom Join

/-- Sets moved up by nn points. -/
def movL (nn : Nat) (xs : List Int) : List Int := xs.map fun y => 2 ^ nn * y
theorem movL_length (nn : Nat) (xs : List Int) : (movL nn xs).length = xs.length := List.length_map ..
theorem movL_next (nn : Nat) (xs : List Int) (k : Nat) (h : k < xs.length) : movL nn (xs.take (k + 1)) = movL nn (xs.take k) ++ [2 ^ nn * xs.getD k 0] := by
  unfold movL
  rw [List.take_add_one, List.map_append]
  simp [List.getD, List.getElem?_eq_getElem h]
theorem shl_int (t nn : Nat) (h : 2 ^ nn * t < 64) : wrap64 ((t : Int) * 2 ^ nn) = 2 ^ nn * (t : Int) := by
  have e : (t : Int) * 2 ^ nn = ((2 ^ nn * t : Nat) : Int) := by push_cast; rw [Int.mul_comm]
  rw [e, show (2 : Int) ^ nn * (t : Int) = ((2 ^ nn * t : Nat) : Int) by push_cast; rfl]
  exact IntWalk.wrap64_in _ (by omega)

set_option maxRecDepth 100000 in
set_option maxHeartbeats 4000000 in
theorem movedUp_any (a : Option Addr) (c : Nat) (xs : List Int) (nn : Nat) (hn : nn ≤ 6) (hx : ∀ k, k < xs.length → ∃ f : Nat, xs.getD k 0 = (f : Int) ∧ 2 ^ nn * f < 64) (hlen : xs.length ≤ 1099511627776) (w : World) (h : Ints w a xs) :
    Calls Try.prog 46 #[.slice a xs.length c, .int .i64 (nn : Int)] w fun e w' => ∃ v, e = .returned v ∧ OwnInts w' w.heap.size v (movL nn xs) ∧ Below w.heap.size w w' := by
  obtain ⟨i0, hi, hz0, hz1, hz2⟩ := info_parts info_int
  have HH := Lib.hid h
  have HX := Lib.hid hx
  clear h hx
  go_enter Try.func46, Try.ntmps46
  go_wp2
  go_loopw [5, 10] (fun v i wr => ∃ k : Nat, k ≤ xs.length ∧ i = .int .i64 (k : Int) ∧ OwnInts wr w.heap.size v (movL nn (xs.take k)) ∧ Below w.heap.size w wr) (fun _ i _ => xs.length - (intOf i).toNat)
  case atStart => exact ⟨0, Nat.zero_le _, rfl, OwnInts.nil _ _, Below.refl _ _⟩
  case round =>
    obtain ⟨k, hk, rfl, hO, hB⟩ := hrel
    have HO := Lib.hid hO
    unfold OwnInts at HO
    have HB := Lib.hid hB
    have hsz := hB.size
    have hl : Hid ((movL nn (xs.take k)).length = k) := by
      show _ = _
      rw [movL_length, List.length_take, Nat.min_eq_left hk]
    obtain ⟨wo, rfl⟩ : ∃ wo : World, wo = wr := ⟨_, rfl⟩
    clear hO
    by_cases hlt : k < xs.length
    · obtain ⟨f, hf, hf64⟩ := HX.out k hlt
      obtain ⟨b0, o0, hae, g0⟩ := (HH.out.keeps hB) k hlt
      rw [hf] at g0
      have HN := Lib.hid ((movL_next nn xs k hlt).trans (by rw [hf] : _ = movL nn (xs.take k) ++ [2 ^ nn * (f : Int)]))
      have HS := shl_int f nn hf64
      subst hae
      clear hB hf
      go_wp2_with (at_builtin; refine wpList_append_own_at _ rfl _ _ 24 rfl w.heap.size 3 i0 (.int .i64 0) 1 8 Try.underlying24 hi hz0 hz1 hz2 rfl (by decide) _ _ _ rfl (HO.out.alloc _) ⟨wo.heap.size, 0, none⟩ 1 1 [.int .i64 (2 ^ nn * (f : Int))] rfl rfl ?c1 ?c2 ?c3 ?c4 ?c5 ?_)
      case c1 => exact World.news_of_block (cs := #[.int .i64 (2 ^ nn * (f : Int))]) (t := 3) (fr := (0, 0)) (heap_alloc_new wo _)
      case c2 => simp [Value.oneCell']
      case c3 => rw [hl.out]; unfold maxLen; omega
      case c4 => rw [hl.out]; omega
      case c5 => rw [World.size_alloc]; omega
      intro v' w3 hown1 hgrow _ hob
      have hB3 := (HB.out.alloc hsz (.cells #[.int .i64 (2 ^ nn * (f : Int))] 3)).grown hgrow (by simp; omega) (fun g hg => (HO.out.lt g hg).1)
      have hO5 : OwnInts w3 w.heap.size v' (movL nn (xs.take (k + 1))) := by
        rw [HN.out]
        exact OwnInts.next hown1
      have HO5 := Lib.hid hO5
      have HB5 := Lib.hid hB3
      clear hown1 hgrow hob hO5 hB3
      go_wp2
      go_roundw
      case rel => exact ⟨k + 1, by omega, by go_num, HO5.out, HB5.out⟩
      case measure => simp [intOf]; omega
    · have E := Lib.hid (show k = xs.length by omega)
      go_wp2
      go_ret
      exact ⟨_, rfl, by have h2 := HO.out; rw [E.out, List.take_length] at h2; exact h2, HB.out⟩

end Go.Proofs.Ythobncbggaggjaa
