/-
  WALKS of chapter 6 by impl: all unions of two lists of sets; a point, two points.
-/
import Derived.Test.YthobncbggaggjaaWJoinI1
namespace Go.Proofs.Ythobncbggaggjaa
open Go.RowKit
open Sets Lin Hom Join

def uni (xs ys : List Int) : List Int := xs.flatMap fun x => ys.map fun y => ((x.toNat ||| y.toNat : Nat) : Int)
def uniL (xs ys : List Int) (i k : Nat) : List Int := uni (xs.take i) ys ++ (ys.take k).map fun y => (((xs.getD i 0).toNat ||| y.toNat : Nat) : Int)
theorem uniL_zero (xs ys : List Int) : uniL xs ys 0 0 = [] := rfl
theorem uniL_next (xs ys : List Int) (i k : Nat) (h : k < ys.length) : uniL xs ys i (k + 1) = uniL xs ys i k ++ [(((xs.getD i 0).toNat ||| (ys.getD k 0).toNat : Nat) : Int)] := by
  unfold uniL
  rw [List.take_add_one, List.map_append, ← List.append_assoc]
  simp [List.getD, List.getElem?_eq_getElem h]
theorem uniL_line (xs ys : List Int) (i : Nat) (h : i < xs.length) : uniL xs ys i ys.length = uniL xs ys (i + 1) 0 := by
  unfold uniL uni
  rw [List.take_length, List.take_zero, List.map_nil, List.append_nil, List.take_add_one, List.flatMap_append]
  simp [List.getD, List.getElem?_eq_getElem h]
theorem uniL_end (xs ys : List Int) : uniL xs ys xs.length 0 = uni xs ys := by
  unfold uniL; rw [List.take_length, List.take_zero, List.map_nil, List.append_nil]
theorem uni_length (xs ys : List Int) : (uni xs ys).length = xs.length * ys.length := by
  unfold uni
  induction xs with
  | nil => simp
  | cons x l ih => rw [List.flatMap_cons, List.length_append, ih, List.length_map, List.length_cons, Nat.succ_mul, Nat.add_comm]
theorem uniL_le (xs ys : List Int) (i k : Nat) (hx : xs.length ≤ 262144) (hy : ys.length ≤ 64) (hi : i ≤ xs.length) : (uniL xs ys i k).length ≤ 33554432 := by
  unfold uniL
  rw [List.length_append, uni_length, List.length_map, List.length_take, List.length_take]
  have : min i xs.length * ys.length ≤ 262144 * 64 := Nat.mul_le_mul (by omega) hy
  omega
theorem or_natJ : ∀ a b : Nat, a < 64 → b < 64 → bits BinOp.or IntKind.i64 (a : Int) (b : Int) = ((a ||| b : Nat) : Int) := by
  refine fin64b ?_
  decide +kernel

set_option maxRecDepth 100000 in
set_option maxHeartbeats 4000000 in
theorem unionsOf_any (a b : Option Addr) (c d : Nat) (xs ys : List Int) (hx : ∀ k, k < xs.length → ∃ f : Nat, xs.getD k 0 = (f : Int) ∧ f < 64) (hy : ∀ k, k < ys.length → ∃ f : Nat, ys.getD k 0 = (f : Int) ∧ f < 64) (hlx : xs.length ≤ 262144) (hly : ys.length ≤ 64) (w : World) (h : Ints w a xs) (h2 : Ints w b ys) :
    Calls Try.prog 70 #[.slice a xs.length c, .slice b ys.length d] w fun e w' => ∃ v, e = .returned v ∧ OwnInts w' w.heap.size v (uni xs ys) ∧ Below w.heap.size w w' := by
  obtain ⟨i0, hi, hz0, hz1, hz2⟩ := info_parts info_int
  have HX2 := Lib.hid h
  have HY2 := Lib.hid h2
  have HX := Lib.hid hx
  have HY := Lib.hid hy
  clear h h2 hx hy
  go_enter Try.func70, Try.ntmps70
  go_wp2
  go_loopw [5, 12] (fun v i wr => ∃ i1 : Nat, i1 ≤ xs.length ∧ i = .int .i64 (i1 : Int) ∧ OwnInts wr w.heap.size v (uniL xs ys i1 0) ∧ Below w.heap.size w wr) (fun _ i _ => xs.length - (intOf i).toNat)
  case atStart => exact ⟨0, Nat.zero_le _, rfl, OwnInts.nil _ _, Below.refl _ _⟩
  case round =>
    obtain ⟨i1, hi1, rfl, hO, hB⟩ := hrel
    have HO := Lib.hid hO
    have HBO := Lib.hid hB
    have hszo := hB.size
    obtain ⟨wo, rfl⟩ : ∃ wo : World, wo = wr := ⟨_, rfl⟩
    clear hO
    by_cases hlt : i1 < xs.length
    · obtain ⟨f, hf, hf64⟩ := HX.out i1 hlt
      obtain ⟨b0, o0, hae, g0⟩ := (HX2.out.keeps hB) i1 hlt
      rw [hf] at g0
      have HF := Lib.hid hf
      have hlti : decide ((i1 : Int) < (xs.length : Int)) = true := by simpa using hlt
      have HAE := Lib.hid hae
      subst hae
      clear hf hB
      go_wp2
      go_loopw [5, 18] (fun v i wr => ∃ k : Nat, k ≤ ys.length ∧ i = .int .i64 (k : Int) ∧ OwnInts wr w.heap.size v (uniL xs ys i1 k) ∧ Below w.heap.size w wr) (fun _ i _ => ys.length - (intOf i).toNat)
      case atStart => exact ⟨0, Nat.zero_le _, rfl, HO.out, HBO.out⟩
      case round =>
        clear HO g0
        obtain ⟨k, hk, rfl, hO, hB⟩ := hrel
        have HO := Lib.hid hO
        unfold OwnInts at HO
        have HB := Lib.hid hB
        have hsz := hB.size
        have hl := uniL_le xs ys i1 k hlx hly hi1
        obtain ⟨wq, rfl⟩ : ∃ wq : World, wq = wr := ⟨_, rfl⟩
        clear hO
        by_cases hlk : k < ys.length
        · obtain ⟨t, ht, ht64⟩ := HY.out k hlk
          obtain ⟨b1, o1, hbe, g1⟩ := (HY2.out.keeps hB) k hlk
          rw [ht] at g1
          have HN := Lib.hid ((uniL_next xs ys i1 k hlk).trans (by rw [HF.out, ht]; rfl : _ = uniL xs ys i1 k ++ [((f ||| t : Nat) : Int)]))
          have hor := or_natJ f t hf64 ht64
          subst hbe
          clear hB ht
          go_wp2_with (at_builtin; refine wpList_append_own_at _ rfl _ _ 24 rfl w.heap.size 3 i0 (.int .i64 0) 1 8 Try.underlying24 hi hz0 hz1 hz2 rfl (by decide) _ _ _ rfl (HO.out.alloc _) ⟨wq.heap.size, 0, none⟩ 1 1 [.int .i64 ((f ||| t : Nat) : Int)] rfl rfl ?c1 ?c2 ?c3 ?c4 ?c5 ?_)
          case c1 => exact World.news_of_block (cs := #[.int .i64 ((f ||| t : Nat) : Int)]) (t := 3) (fr := (0, 0)) (heap_alloc_new wq _)
          case c2 => simp [Value.oneCell']
          case c3 => unfold maxLen; omega
          case c4 => omega
          case c5 => rw [World.size_alloc]; omega
          intro v' w3 hown1 hgrow _ hob
          have hB3 := (HB.out.alloc hsz (.cells #[.int .i64 ((f ||| t : Nat) : Int)] 3)).grown hgrow (by simp; omega) (fun g hg => (HO.out.lt g hg).1)
          have hO5 : OwnInts w3 w.heap.size v' (uniL xs ys i1 (k + 1)) := by
            rw [HN.out]
            exact OwnInts.next hown1
          have HO5 := Lib.hid hO5
          have HB5 := Lib.hid hB3
          clear hown1 hgrow hob hO5 hB3
          go_wp2
          go_roundw
          case rel => exact ⟨k + 1, by omega, by go_num, HO5.out, HB5.out⟩
          case measure => simp [intOf]; omega
        · have E := Lib.hid (show k = ys.length by omega)
          have HL := Lib.hid (uniL_line xs ys i1 hlt)
          clear hB
          go_wp2
          go_roundw
          case rel =>
            have h2 : OwnInts wq w.heap.size u5 (uniL xs ys i1 k) := HO.out
            rw [E.out] at h2
            exact ⟨i1 + 1, by omega, by go_num, by rw [← HL.out]; exact h2, HB.out⟩
          case measure => simp [intOf]; omega
    · have E := Lib.hid (show i1 = xs.length by omega)
      go_wp2
      go_ret
      exact ⟨_, rfl, by have h2 := HO.out; rw [E.out, uniL_end] at h2; exact h2, HBO.out⟩

set_option maxRecDepth 100000 in
theorem onePoint_any (w : World) :
    Calls Try.prog 49 #[] w fun e w' => ∃ v, e = .returned (cx 1 v) ∧ OwnInts w' w.heap.size v [1] ∧ Below w.heap.size w w' := by
  have htr := (Two.new w (.int .i64 1) (.slice (some ⟨w.heap.size + 1, 0, none⟩) 1 1) 26).alloc (.cells #[.int .i64 1] 3)
  have hO := OwnInts.lit (w.alloc (.cells #[.int .i64 1, .slice (some ⟨w.heap.size + 1, 0, none⟩) 1 1] 26)) w.heap.size [1] (by simp) (by decide)
  have hB : Below w.heap.size w ((w.alloc (.cells #[.int .i64 1, .slice (some ⟨w.heap.size + 1, 0, none⟩) 1 1] 26)).alloc (.cells #[.int .i64 1] 3)) := ((Below.refl _ _).alloc (Nat.le_refl _) _).alloc (by simp) _
  rw [World.size_alloc] at hO
  obtain ⟨r0, r1, r2, r3, r4⟩ := htr
  have HO := Lib.hid hO
  have HB := Lib.hid hB
  have R1 := Lib.hid r1
  have R2 := Lib.hid r2
  clear hO hB r0 r1 r2 r3 r4
  go_enter Try.func49, Try.ntmps49
  go_wp2
  exact ret_cx w.heap.size rfl rfl R1.out R2.out rfl ⟨_, rfl, HO.out, HB.out⟩

set_option maxRecDepth 100000 in
theorem twoPoints_any (w : World) :
    Calls Try.prog 50 #[] w fun e w' => ∃ v, e = .returned (cx 2 v) ∧ OwnInts w' w.heap.size v [1, 2] ∧ Below w.heap.size w w' := by
  have htr := (Two.new w (.int .i64 2) (.slice (some ⟨w.heap.size + 1, 0, none⟩) 2 2) 26).alloc (.cells #[.int .i64 1, .int .i64 2] 3)
  have hO := OwnInts.lit (w.alloc (.cells #[.int .i64 2, .slice (some ⟨w.heap.size + 1, 0, none⟩) 2 2] 26)) w.heap.size [1, 2] (by simp) (by decide)
  have hB : Below w.heap.size w ((w.alloc (.cells #[.int .i64 2, .slice (some ⟨w.heap.size + 1, 0, none⟩) 2 2] 26)).alloc (.cells #[.int .i64 1, .int .i64 2] 3)) := ((Below.refl _ _).alloc (Nat.le_refl _) _).alloc (by simp) _
  rw [World.size_alloc] at hO
  obtain ⟨r0, r1, r2, r3, r4⟩ := htr
  have HO := Lib.hid hO
  have HB := Lib.hid hB
  have R1 := Lib.hid r1
  have R2 := Lib.hid r2
  clear hO hB r0 r1 r2 r3 r4
  go_enter Try.func50, Try.ntmps50
  go_wp2
  exact ret_cx w.heap.size rfl rfl R1.out R2.out rfl ⟨_, rfl, HO.out, HB.out⟩

end Go.Proofs.Ythobncbggaggjaa
