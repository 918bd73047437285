/-
  TEXTS of one claim, put together: WJoinI1, WJoinI2, WJoinI3, WJoinI4.
-/
import Derived.Test.YthobncbggaggjaaJg13
import Derived.IntWalk
/-! WALKS of chapter 6 by impl: sets moved up, unions of sets, a point, two points, the points of all facets. -/

namespace Go.Proofs.Ythobncbggaggjaa
open Go.RowKit
open Sets Lin Hom Join

/-- Sets moved up by nn points. -/
def movL (nn : Nat) (xs : List Int) : List Int := xs.map fun y => 2 ^ nn * y
theorem movL_length (nn : Nat) (xs : List Int) : (movL nn xs).length = xs.length := List.length_map ..
theorem movL_next (nn : Nat) (xs : List Int) (k : Nat) (h : k < xs.length) : movL nn (xs.take (k + 1)) = movL nn (xs.take k) ++ [2 ^ nn * xs.getD k 0] := by
  unfold movL
  rw [List.take_add_one, List.map_append]
  simp [List.getD, List.getElem?_eq_getElem h]
theorem shl_int (t nn : Nat) (h : 2 ^ nn * t < 64) : wrap64 ((t : Int) * 2 ^ nn) = 2 ^ nn * (t : Int) := by
  have e : (t : Int) * 2 ^ nn = ((2 ^ nn * t : Nat) : Int) := by push_cast; rw [Int.mul_comm]
  rw [e, show (2 : Int) ^ nn * (t : Int) = ((2 ^ nn * t : Nat) : Int) by push_cast; rfl]
  exact IntWalk.wrap64_in _ (by omega)

set_option maxRecDepth 100000 in
set_option maxHeartbeats 4000000 in
theorem movedUp_any (a : Option Addr) (c : Nat) (xs : List Int) (nn : Nat) (hn : nn ≤ 6) (hx : ∀ k, k < xs.length → ∃ f : Nat, xs.getD k 0 = (f : Int) ∧ 2 ^ nn * f < 64) (hlen : xs.length ≤ 1099511627776) (w : World) (h : Ints w a xs) :
    Calls Try.prog 46 #[.slice a xs.length c, .int .i64 (nn : Int)] w fun e w' => ∃ v, e = .returned v ∧ OwnInts w' w.heap.size v (movL nn xs) ∧ Below w.heap.size w w' := by
  obtain ⟨i0, hi, hz0, hz1, hz2⟩ := info_parts info_int
  have HH := Lib.hid h
  have HX := Lib.hid hx
  clear h hx
  go_enter Try.func46, Try.ntmps46
  go_wp2
  go_loopw [5, 10] (fun v i wr => ∃ k : Nat, k ≤ xs.length ∧ i = .int .i64 (k : Int) ∧ OwnInts wr w.heap.size v (movL nn (xs.take k)) ∧ Below w.heap.size w wr) (fun _ i _ => xs.length - (intOf i).toNat)
  case atStart => exact ⟨0, Nat.zero_le _, rfl, OwnInts.nil _ _, Below.refl _ _⟩
  case round =>
    obtain ⟨k, hk, rfl, hO, hB⟩ := hrel
    have HO := Lib.hid hO
    unfold OwnInts at HO
    have HB := Lib.hid hB
    have hsz := hB.size
    have hl : Hid ((movL nn (xs.take k)).length = k) := by
      show _ = _
      rw [movL_length, List.length_take, Nat.min_eq_left hk]
    obtain ⟨wo, rfl⟩ : ∃ wo : World, wo = wr := ⟨_, rfl⟩
    clear hO
    by_cases hlt : k < xs.length
    · obtain ⟨f, hf, hf64⟩ := HX.out k hlt
      obtain ⟨b0, o0, hae, g0⟩ := (HH.out.keeps hB) k hlt
      rw [hf] at g0
      have HN := Lib.hid ((movL_next nn xs k hlt).trans (by rw [hf] : _ = movL nn (xs.take k) ++ [2 ^ nn * (f : Int)]))
      have HS := shl_int f nn hf64
      subst hae
      clear hB hf
      go_wp2_with (at_builtin; refine wpList_append_own_at _ rfl _ _ 24 rfl w.heap.size 3 i0 (.int .i64 0) 1 8 Try.underlying24 hi hz0 hz1 hz2 rfl (by decide) _ _ _ rfl (HO.out.alloc _) ⟨wo.heap.size, 0, none⟩ 1 1 [.int .i64 (2 ^ nn * (f : Int))] rfl rfl ?c1 ?c2 ?c3 ?c4 ?c5 ?_)
      case c1 => exact World.news_of_block (cs := #[.int .i64 (2 ^ nn * (f : Int))]) (t := 3) (fr := (0, 0)) (heap_alloc_new wo _)
      case c2 => simp [Value.oneCell']
      case c3 => rw [hl.out]; unfold maxLen; omega
      case c4 => rw [hl.out]; omega
      case c5 => rw [World.size_alloc]; omega
      intro v' w3 hown1 hgrow _ hob
      have hB3 := (HB.out.alloc hsz (.cells #[.int .i64 (2 ^ nn * (f : Int))] 3)).grown hgrow (by simp; omega) (fun g hg => (HO.out.lt g hg).1)
      have hO5 : OwnInts w3 w.heap.size v' (movL nn (xs.take (k + 1))) := by
        rw [HN.out]
        exact OwnInts.next hown1
      have HO5 := Lib.hid hO5
      have HB5 := Lib.hid hB3
      clear hown1 hgrow hob hO5 hB3
      go_wp2
      go_roundw
      case rel => exact ⟨k + 1, by omega, by go_num, HO5.out, HB5.out⟩
      case measure => simp [intOf]; omega
    · have E := Lib.hid (show k = xs.length by omega)
      go_wp2
      go_ret
      exact ⟨_, rfl, by have h2 := HO.out; rw [E.out, List.take_length] at h2; exact h2, HB.out⟩

end Go.Proofs.Ythobncbggaggjaa

/-! WALKS of chapter 6 by impl: all unions of two lists of sets; a point, two points. -/

namespace Go.Proofs.Ythobncbggaggjaa
open Go.RowKit
open Sets Lin Hom Join

def uni (xs ys : List Int) : List Int := xs.flatMap fun x => ys.map fun y => ((x.toNat ||| y.toNat : Nat) : Int)
def uniL (xs ys : List Int) (i k : Nat) : List Int := uni (xs.take i) ys ++ (ys.take k).map fun y => (((xs.getD i 0).toNat ||| y.toNat : Nat) : Int)
theorem uniL_zero (xs ys : List Int) : uniL xs ys 0 0 = [] := rfl
theorem uniL_next (xs ys : List Int) (i k : Nat) (h : k < ys.length) : uniL xs ys i (k + 1) = uniL xs ys i k ++ [(((xs.getD i 0).toNat ||| (ys.getD k 0).toNat : Nat) : Int)] := by
  unfold uniL
  rw [List.take_add_one, List.map_append, ← List.append_assoc]
  simp [List.getD, List.getElem?_eq_getElem h]
theorem uniL_line (xs ys : List Int) (i : Nat) (h : i < xs.length) : uniL xs ys i ys.length = uniL xs ys (i + 1) 0 := by
  unfold uniL uni
  rw [List.take_length, List.take_zero, List.map_nil, List.append_nil, List.take_add_one, List.flatMap_append]
  simp [List.getD, List.getElem?_eq_getElem h]
theorem uniL_end (xs ys : List Int) : uniL xs ys xs.length 0 = uni xs ys := by
  unfold uniL; rw [List.take_length, List.take_zero, List.map_nil, List.append_nil]
theorem uni_length (xs ys : List Int) : (uni xs ys).length = xs.length * ys.length := by
  unfold uni
  induction xs with
  | nil => simp
  | cons x l ih => rw [List.flatMap_cons, List.length_append, ih, List.length_map, List.length_cons, Nat.succ_mul, Nat.add_comm]
theorem uniL_le (xs ys : List Int) (i k : Nat) (hx : xs.length ≤ 262144) (hy : ys.length ≤ 64) (hi : i ≤ xs.length) : (uniL xs ys i k).length ≤ 33554432 := by
  unfold uniL
  rw [List.length_append, uni_length, List.length_map, List.length_take, List.length_take]
  have : min i xs.length * ys.length ≤ 262144 * 64 := Nat.mul_le_mul (by omega) hy
  omega
theorem or_natJ : ∀ a b : Nat, a < 64 → b < 64 → bits BinOp.or IntKind.i64 (a : Int) (b : Int) = ((a ||| b : Nat) : Int) := by
  refine fin64b ?_
  decide +kernel

set_option maxRecDepth 100000 in
set_option maxHeartbeats 4000000 in
theorem unionsOf_any (a b : Option Addr) (c d : Nat) (xs ys : List Int) (hx : ∀ k, k < xs.length → ∃ f : Nat, xs.getD k 0 = (f : Int) ∧ f < 64) (hy : ∀ k, k < ys.length → ∃ f : Nat, ys.getD k 0 = (f : Int) ∧ f < 64) (hlx : xs.length ≤ 262144) (hly : ys.length ≤ 64) (w : World) (h : Ints w a xs) (h2 : Ints w b ys) :
    Calls Try.prog 70 #[.slice a xs.length c, .slice b ys.length d] w fun e w' => ∃ v, e = .returned v ∧ OwnInts w' w.heap.size v (uni xs ys) ∧ Below w.heap.size w w' := by
  obtain ⟨i0, hi, hz0, hz1, hz2⟩ := info_parts info_int
  have HX2 := Lib.hid h
  have HY2 := Lib.hid h2
  have HX := Lib.hid hx
  have HY := Lib.hid hy
  clear h h2 hx hy
  go_enter Try.func70, Try.ntmps70
  go_wp2
  go_loopw [5, 12] (fun v i wr => ∃ i1 : Nat, i1 ≤ xs.length ∧ i = .int .i64 (i1 : Int) ∧ OwnInts wr w.heap.size v (uniL xs ys i1 0) ∧ Below w.heap.size w wr) (fun _ i _ => xs.length - (intOf i).toNat)
  case atStart => exact ⟨0, Nat.zero_le _, rfl, OwnInts.nil _ _, Below.refl _ _⟩
  case round =>
    obtain ⟨i1, hi1, rfl, hO, hB⟩ := hrel
    have HO := Lib.hid hO
    have HBO := Lib.hid hB
    have hszo := hB.size
    obtain ⟨wo, rfl⟩ : ∃ wo : World, wo = wr := ⟨_, rfl⟩
    clear hO
    by_cases hlt : i1 < xs.length
    · obtain ⟨f, hf, hf64⟩ := HX.out i1 hlt
      obtain ⟨b0, o0, hae, g0⟩ := (HX2.out.keeps hB) i1 hlt
      rw [hf] at g0
      have HF := Lib.hid hf
      have hlti : decide ((i1 : Int) < (xs.length : Int)) = true := by simpa using hlt
      have HAE := Lib.hid hae
      subst hae
      clear hf hB
      go_wp2
      go_loopw [5, 18] (fun v i wr => ∃ k : Nat, k ≤ ys.length ∧ i = .int .i64 (k : Int) ∧ OwnInts wr w.heap.size v (uniL xs ys i1 k) ∧ Below w.heap.size w wr) (fun _ i _ => ys.length - (intOf i).toNat)
      case atStart => exact ⟨0, Nat.zero_le _, rfl, HO.out, HBO.out⟩
      case round =>
        clear HO g0
        obtain ⟨k, hk, rfl, hO, hB⟩ := hrel
        have HO := Lib.hid hO
        unfold OwnInts at HO
        have HB := Lib.hid hB
        have hsz := hB.size
        have hl := uniL_le xs ys i1 k hlx hly hi1
        obtain ⟨wq, rfl⟩ : ∃ wq : World, wq = wr := ⟨_, rfl⟩
        clear hO
        by_cases hlk : k < ys.length
        · obtain ⟨t, ht, ht64⟩ := HY.out k hlk
          obtain ⟨b1, o1, hbe, g1⟩ := (HY2.out.keeps hB) k hlk
          rw [ht] at g1
          have HN := Lib.hid ((uniL_next xs ys i1 k hlk).trans (by rw [HF.out, ht]; rfl : _ = uniL xs ys i1 k ++ [((f ||| t : Nat) : Int)]))
          have hor := or_natJ f t hf64 ht64
          subst hbe
          clear hB ht
          go_wp2_with (at_builtin; refine wpList_append_own_at _ rfl _ _ 24 rfl w.heap.size 3 i0 (.int .i64 0) 1 8 Try.underlying24 hi hz0 hz1 hz2 rfl (by decide) _ _ _ rfl (HO.out.alloc _) ⟨wq.heap.size, 0, none⟩ 1 1 [.int .i64 ((f ||| t : Nat) : Int)] rfl rfl ?c1 ?c2 ?c3 ?c4 ?c5 ?_)
          case c1 => exact World.news_of_block (cs := #[.int .i64 ((f ||| t : Nat) : Int)]) (t := 3) (fr := (0, 0)) (heap_alloc_new wq _)
          case c2 => simp [Value.oneCell']
          case c3 => unfold maxLen; omega
          case c4 => omega
          case c5 => rw [World.size_alloc]; omega
          intro v' w3 hown1 hgrow _ hob
          have hB3 := (HB.out.alloc hsz (.cells #[.int .i64 ((f ||| t : Nat) : Int)] 3)).grown hgrow (by simp; omega) (fun g hg => (HO.out.lt g hg).1)
          have hO5 : OwnInts w3 w.heap.size v' (uniL xs ys i1 (k + 1)) := by
            rw [HN.out]
            exact OwnInts.next hown1
          have HO5 := Lib.hid hO5
          have HB5 := Lib.hid hB3
          clear hown1 hgrow hob hO5 hB3
          go_wp2
          go_roundw
          case rel => exact ⟨k + 1, by omega, by go_num, HO5.out, HB5.out⟩
          case measure => simp [intOf]; omega
        · have E := Lib.hid (show k = ys.length by omega)
          have HL := Lib.hid (uniL_line xs ys i1 hlt)
          clear hB
          go_wp2
          go_roundw
          case rel =>
            have h2 : OwnInts wq w.heap.size u5 (uniL xs ys i1 k) := HO.out
            rw [E.out] at h2
            exact ⟨i1 + 1, by omega, by go_num, by rw [← HL.out]; exact h2, HB.out⟩
          case measure => simp [intOf]; omega
    · have E := Lib.hid (show i1 = xs.length by omega)
      go_wp2
      go_ret
      exact ⟨_, rfl, by have h2 := HO.out; rw [E.out, uniL_end] at h2; exact h2, HBO.out⟩

set_option maxRecDepth 100000 in
theorem onePoint_any (w : World) :
    Calls Try.prog 49 #[] w fun e w' => ∃ v, e = .returned (cx 1 v) ∧ OwnInts w' w.heap.size v [1] ∧ Below w.heap.size w w' := by
  have htr := (Two.new w (.int .i64 1) (.slice (some ⟨w.heap.size + 1, 0, none⟩) 1 1) 26).alloc (.cells #[.int .i64 1] 3)
  have hO := OwnInts.lit (w.alloc (.cells #[.int .i64 1, .slice (some ⟨w.heap.size + 1, 0, none⟩) 1 1] 26)) w.heap.size [1] (by simp) (by decide)
  have hB : Below w.heap.size w ((w.alloc (.cells #[.int .i64 1, .slice (some ⟨w.heap.size + 1, 0, none⟩) 1 1] 26)).alloc (.cells #[.int .i64 1] 3)) := ((Below.refl _ _).alloc (Nat.le_refl _) _).alloc (by simp) _
  rw [World.size_alloc] at hO
  obtain ⟨r0, r1, r2, r3, r4⟩ := htr
  have HO := Lib.hid hO
  have HB := Lib.hid hB
  have R1 := Lib.hid r1
  have R2 := Lib.hid r2
  clear hO hB r0 r1 r2 r3 r4
  go_enter Try.func49, Try.ntmps49
  go_wp2
  exact ret_cx w.heap.size rfl rfl R1.out R2.out rfl ⟨_, rfl, HO.out, HB.out⟩

set_option maxRecDepth 100000 in
theorem twoPoints_any (w : World) :
    Calls Try.prog 50 #[] w fun e w' => ∃ v, e = .returned (cx 2 v) ∧ OwnInts w' w.heap.size v [1, 2] ∧ Below w.heap.size w w' := by
  have htr := (Two.new w (.int .i64 2) (.slice (some ⟨w.heap.size + 1, 0, none⟩) 2 2) 26).alloc (.cells #[.int .i64 1, .int .i64 2] 3)
  have hO := OwnInts.lit (w.alloc (.cells #[.int .i64 2, .slice (some ⟨w.heap.size + 1, 0, none⟩) 2 2] 26)) w.heap.size [1, 2] (by simp) (by decide)
  have hB : Below w.heap.size w ((w.alloc (.cells #[.int .i64 2, .slice (some ⟨w.heap.size + 1, 0, none⟩) 2 2] 26)).alloc (.cells #[.int .i64 1, .int .i64 2] 3)) := ((Below.refl _ _).alloc (Nat.le_refl _) _).alloc (by simp) _
  rw [World.size_alloc] at hO
  obtain ⟨r0, r1, r2, r3, r4⟩ := htr
  have HO := Lib.hid hO
  have HB := Lib.hid hB
  have R1 := Lib.hid r1
  have R2 := Lib.hid r2
  clear hO hB r0 r1 r2 r3 r4
  go_enter Try.func50, Try.ntmps50
  go_wp2
  exact ret_cx w.heap.size rfl rfl R1.out R2.out rfl ⟨_, rfl, HO.out, HB.out⟩

end Go.Proofs.Ythobncbggaggjaa

/-! WALKS of chapter 6 by impl: a row of complexes; whether they fit together. -/

namespace Go.Proofs.Ythobncbggaggjaa
open Go.RowKit
open Sets Lin Hom Join

/-- A part: its points, its facets' address, room and numbers. -/
abbrev Pt := Int × Option Addr × Nat × List Int
def pt0 : Pt := (0, none, 0, [])

/-- A row of complexes, from the head of block b. -/
def PartsAt (w : World) (b : Nat) (ps : List Pt) : Prop := ∀ j, j < ps.length → ∃ n a c xs, ps.getD j pt0 = (n, a, c, xs) ∧ w.cell? ⟨b, j * 2, none⟩ = some (.int .i64 n) ∧ w.cell? ⟨b, j * 2 + 1, none⟩ = some (.slice a xs.length c) ∧ Ints w a xs ∧ xs.length ≤ c ∧ xs.length ≤ 1099511627776
theorem PartsAt.keeps {w w' : World} {b : Nat} {ps : List Pt} (h : PartsAt w b ps) (hb : Below w.heap.size w w') : PartsAt w' b ps := fun j hj => by
  obtain ⟨n, a, c, xs, e, h1, h2, h3, h4, h5⟩ := h j hj
  have hl := World.block_lt_of_cell? w _ h1
  exact ⟨n, a, c, xs, e, (hb.cell (p := ⟨b, j * 2, none⟩) hl).trans h1, (hb.cell (p := ⟨b, j * 2 + 1, none⟩) hl).trans h2, h3.keeps hb, h4, h5⟩

def sumN (ps : List Pt) : Int := ps.foldl (fun a p => a + p.1) 0
theorem sumN_next (ps : List Pt) (k : Nat) (h : k < ps.length) : sumN (ps.take (k + 1)) = sumN (ps.take k) + (ps.getD k pt0).1 := by
  unfold sumN
  rw [List.take_add_one, List.foldl_append]
  simp [List.getD, List.getElem?_eq_getElem h]
def allC (ps : List Pt) : Bool := ps.all fun p => isC p.1 p.2.2.2
theorem allC_next (ps : List Pt) (k : Nat) (h : k < ps.length) : allC (ps.take (k + 1)) = (allC (ps.take k) && isC (ps.getD k pt0).1 (ps.getD k pt0).2.2.2) := by
  unfold allC
  rw [List.take_add_one, List.all_append]
  simp [List.getD, List.getElem?_eq_getElem h]
theorem allC_not (ps : List Pt) (k : Nat) (h : k < ps.length) (hk : isC (ps.getD k pt0).1 (ps.getD k pt0).2.2.2 = false) : allC ps = false := by
  unfold allC
  rw [List.all_eq_false]
  refine ⟨ps.getD k pt0, ?_, by rw [hk]; decide⟩
  simp only [List.getD, List.getElem?_eq_getElem h, Option.getD_some]; exact List.getElem_mem h
def fitB (ps : List Pt) : Bool := allC ps && decide (sumN ps ≤ 6)

set_option maxRecDepth 100000 in
set_option maxHeartbeats 4000000 in
theorem fitTogether_b (b c : Nat) (ps : List Pt) (v : Bool) (hv : fitB ps = v) (hl : ps.length ≤ 6) (w : World) (h : PartsAt w b ps) :
    Calls Try.prog 43 #[.slice (some ⟨b, 0, none⟩) ps.length c] w fun e w' => e = .returned (.bool v) ∧ Below w.heap.size w w' := by
  have HP := Lib.hid h
  have HV := Lib.hid hv
  clear h hv
  go_enter Try.func43, Try.ntmps43
  go_wp2
  go_loopw [3, 8] (fun v i wr => ∃ k : Nat, ∃ z : Int, k ≤ ps.length ∧ i = .int .i64 (k : Int) ∧ v = .int .i64 z ∧ z = sumN (ps.take k) ∧ 0 ≤ z ∧ z ≤ 6 * (k : Int) ∧ allC (ps.take k) = true ∧ Below w.heap.size w wr) (fun _ i _ => ps.length - (intOf i).toNat)
  case atStart => exact ⟨0, 0, Nat.zero_le _, rfl, rfl, rfl, by omega, by omega, rfl, Below.refl _ _⟩
  case round =>
    obtain ⟨k, z, hk, rfl, rfl, hz, hz0, hz6, hA, hB⟩ := hrel
    have HZ := Lib.hid hz
    have HA := Lib.hid hA
    have HB := Lib.hid hB
    have hsz := hB.size
    obtain ⟨wo, rfl⟩ : ∃ wo : World, wo = wr := ⟨_, rfl⟩
    clear hz hA
    by_cases hlt : k < ps.length
    · obtain ⟨n, a, pc, xs, e, h1, h2, h3, h4, h5⟩ := HP.out.keeps hB k hlt
      clear hB
      have HE := Lib.hid e
      have HI := Lib.hid h3
      have hbi : Below wo.heap.size wo (wo.alloc (.cells #[.int .i64 n, .slice a xs.length pc] 26)) := (Below.refl _ _).alloc (Nat.le_refl _) _
      have H3 := Lib.hid (h3.keeps hbi)
      have TW := Lib.hid (Two.new wo (.int .i64 n) (.slice a xs.length pc) 26)
      have HB2 : Hid (Below w.heap.size w (wo.alloc (.cells #[.int .i64 n, .slice a xs.length pc] 26))) := HB.out.trans (hbi.mono hsz)
      clear e h3 hbi
      cases hC : isC n xs with
      | false =>
        have HC := Lib.hid hC
        have HF : Hid (v = false) := Lib.hid (by rw [← HV.out]; unfold fitB; rw [allC_not ps k hlt (by rw [HE.out]; exact hC)]; rfl)
        clear hC
        go_wp2_with fail
        refine (implIsC_b n _ _ xs h4 false HC.out h5 _ H3.out).mono ?_
        rintro e w1 ⟨rfl, hb1⟩
        have HB3 : Hid (Below w.heap.size w w1) := HB2.out.trans (hb1.mono HB2.out.size)
        clear hb1
        go_wp2
        go_ret
        exact ⟨by rw [HF.out]; rfl, HB3.out⟩
      | true =>
        have HC := Lib.hid hC
        have hn := isC_n hC
        have hzw : wrap64 (z + n) = z + n := IntWalk.wrap64_in _ (by omega)
        have HS : Hid (sumN (ps.take (k + 1)) = z + n) := Lib.hid (by rw [sumN_next ps k hlt, HE.out, HZ.out])
        have HA2 : Hid (allC (ps.take (k + 1)) = true) := Lib.hid (by rw [allC_next ps k hlt, HA.out, HE.out, Bool.true_and]; exact hC)
        clear hC
        go_wp2_with fail
        refine (implIsC_b n _ _ xs h4 true HC.out h5 _ H3.out).mono ?_
        rintro e w1 ⟨rfl, hb1⟩
        have HB3 : Hid (Below w.heap.size w w1) := HB2.out.trans (hb1.mono HB2.out.size)
        obtain ⟨t0, t1, t2, _, _⟩ := TW.out.keeps hb1
        clear hb1
        go_wp2
        go_roundw
        case rel => exact ⟨k + 1, z + n, by omega, by go_num, rfl, HS.out.symm, by omega, by omega, HA2.out, HB3.out⟩
        case measure => simp [intOf]; omega
    · have E := Lib.hid (show k = ps.length by omega)
      have HF : Hid (decide (z ≤ 6) = v) := Lib.hid (by rw [← HV.out]; unfold fitB; rw [HZ.out, E.out, List.take_length]; have h2 := HA.out; rw [E.out, List.take_length] at h2; rw [h2]; rfl)
      go_wp2
      go_ret
      exact ⟨by rw [← HF.out]; rfl, HB.out⟩

end Go.Proofs.Ythobncbggaggjaa

/-! WALKS of chapter 6 by impl: the join of a row of complexes. -/

namespace Go.Proofs.Ythobncbggaggjaa
open Go.RowKit
open Sets Lin Hom Join

theorem isC_le2 {n : Int} {xs : List Int} (h : isC n xs = true) : xs.length ≤ 2 ^ n.toNat := by
  have h1 : Card (fun x => x ∈ xs) xs.length := ⟨xs, (isC_rises h).imp fun {a b} h e => by subst e; exact befZ_asym h h, fun _ => Iff.rfl, rfl⟩
  obtain ⟨d, hd, h2⟩ := (card_num (2 ^ n.toNat)).sub (T := fun x => x ∈ xs) fun x hx => by
    obtain ⟨f, rfl, hf⟩ := isC_nat h x hx
    exact ⟨by omega, by exact_mod_cast hf⟩
  rw [h1.unique h2]; exact hd

/-- Sets of nn points, not more than there are. -/
def Few (nn : Nat) (xs : List Int) : Prop := (∀ x, x ∈ xs → ∃ f : Nat, x = (f : Int) ∧ f < 2 ^ nn) ∧ xs.length ≤ 2 ^ nn
theorem few_isC {n : Int} {xs : List Int} (h : isC n xs = true) : Few n.toNat xs := ⟨isC_nat h, isC_le2 h⟩
theorem few_pairs {n m : Nat} {xs ys : List Int} (hx : Few n xs) (hy : Few m ys) : Few (n + m) (pairs n xs ys) := by
  constructor
  · intro z hz
    unfold pairs at hz
    obtain ⟨x, hx', hz⟩ := List.mem_flatMap.1 hz
    obtain ⟨y, hy', rfl⟩ := List.mem_map.1 hz
    obtain ⟨f, rfl, hf⟩ := hx.1 x hx'
    obtain ⟨g, rfl, hg⟩ := hy.1 y hy'
    refine ⟨f + 2 ^ n * g, by push_cast; rfl, ?_⟩
    have h1 : 2 ^ n * (g + 1) ≤ 2 ^ n * 2 ^ m := Nat.mul_le_mul_left _ (by omega)
    rw [← Nat.pow_add, Nat.mul_add] at h1
    omega
  · rw [pairs_length, Nat.pow_add]; exact Nat.mul_le_mul hx.2 hy.2
theorem few_at {n : Nat} {xs : List Int} (h : Few n xs) (k : Nat) (hk : k < xs.length) : ∃ f : Nat, xs.getD k 0 = (f : Int) ∧ f < 2 ^ n :=
  h.1 _ (by simp only [List.getD, List.getElem?_eq_getElem hk, Option.getD_some]; exact List.getElem_mem hk)
/-- Unions with sets moved up are pairs. -/
theorem uni_mov {n m : Nat} {xs ys : List Int} (hx : Few n xs) (hy : Few m ys) : uni xs (movL n ys) = pairs n xs ys := by
  unfold uni pairs movL
  rw [List.flatMap_def, List.flatMap_def]
  congr 1
  refine List.map_congr_left fun x hx' => ?_
  rw [List.map_map]
  refine List.map_congr_left fun y hy' => ?_
  obtain ⟨f, rfl, hf⟩ := hx.1 x hx'
  obtain ⟨g, rfl, hg⟩ := hy.1 y hy'
  show (((f : Int).toNat ||| ((2 : Int) ^ n * (g : Int)).toNat : Nat) : Int) = (f : Int) + 2 ^ n * (g : Int)
  have e : ((2 : Int) ^ n * (g : Int)) = ((2 ^ n * g : Nat) : Int) := by push_cast; rfl
  rw [e, Int.toNat_natCast, Int.toNat_natCast, Nat.or_comm, ← Nat.two_pow_add_eq_or_of_lt hf]
  push_cast
  omega

/-- Points and sets of a row of parts. -/
def accL (ps : List Pt) : Nat × List Int := ps.foldl (fun a p => (a.1 + p.1.toNat, pairs a.1 a.2 p.2.2.2)) (0, [0])
theorem accL_next (ps : List Pt) (k : Nat) (h : k < ps.length) : accL (ps.take (k + 1)) = ((accL (ps.take k)).1 + (ps.getD k pt0).1.toNat, pairs (accL (ps.take k)).1 (accL (ps.take k)).2 (ps.getD k pt0).2.2.2) := by
  unfold accL
  rw [List.take_add_one, List.foldl_append]
  simp [List.getD, List.getElem?_eq_getElem h]
theorem allC_at (ps : List Pt) (h : allC ps = true) (k : Nat) (hk : k < ps.length) : isC (ps.getD k pt0).1 (ps.getD k pt0).2.2.2 = true := by
  cases e : isC (ps.getD k pt0).1 (ps.getD k pt0).2.2.2 with
  | true => rfl
  | false => rw [allC_not ps k hk e] at h; cases h
/-- So many points and sets so far. -/
theorem acc_few (ps : List Pt) (h : allC ps = true) : ∀ k, k ≤ ps.length → ((accL (ps.take k)).1 : Int) = sumN (ps.take k) ∧ Few (accL (ps.take k)).1 (accL (ps.take k)).2
  | 0, _ => ⟨rfl, fun x hx => ⟨0, List.mem_singleton.1 hx, Nat.two_pow_pos _⟩, Nat.le_refl _⟩
  | k + 1, hk => by
    obtain ⟨h1, h2⟩ := acc_few ps h k (by omega)
    have hc := allC_at ps h k (by omega)
    have hn := isC_n hc
    rw [accL_next ps k (by omega), sumN_next ps k (by omega)]
    exact ⟨by dsimp only; omega, few_pairs h2 (few_isC hc)⟩
theorem sumN_rise (ps : List Pt) (h : allC ps = true) (k : Nat) : ∀ d, k + d ≤ ps.length → sumN (ps.take k) ≤ sumN (ps.take (k + d))
  | 0, _ => Int.le_refl _
  | d + 1, hd => by
    have h1 := sumN_rise ps h k d (by omega)
    have hn := isC_n (allC_at ps h (k + d) (by omega))
    rw [← Nat.add_assoc, sumN_next ps (k + d) (by omega)]
    omega
theorem sumN_top (ps : List Pt) (h : fitB ps = true) (k : Nat) (hk : k ≤ ps.length) : sumN (ps.take k) ≤ 6 := by
  unfold fitB at h
  rw [Bool.and_eq_true, decide_eq_true_eq] at h
  have h1 := sumN_rise ps h.1 k (ps.length - k) (by omega)
  rw [show k + (ps.length - k) = ps.length by omega, List.take_length] at h1
  omega

/-- The join of a row of parts, if they fit together. -/
def allO (ps : List Pt) : Option (Int × List Int) := if fitB ps = true then made (sumN ps) (accL ps).2 else none

set_option maxRecDepth 100000 in
set_option maxHeartbeats 4000000 in
theorem joinAll_any (b c : Nat) (ps : List Pt) (hl : ps.length ≤ 6) (w : World) (h : PartsAt w b ps) :
    Calls Try.prog 40 #[.slice (some ⟨b, 0, none⟩) ps.length c] w fun e w' => ∃ v, e = .returned (.tuple #[cx (oN (allO ps)) v, .bool (allO ps).isSome]) ∧ OwnInts w' w.heap.size v (oL (allO ps)) ∧ Below w.heap.size w w' := by
  have hb0 : Below w.heap.size w (w.alloc (.cells #[.int .i64 0, .slice none 0 0] 26)) := (Below.refl _ _).alloc (Nat.le_refl _) _
  have htr := Two.new w (.int .i64 0) (.slice none 0 0) 26
  have TR := Lib.hid htr
  have HP := Lib.hid (h.keeps hb0)
  have HBV := Lib.hid hb0
  clear hb0 htr h
  cases hf : fitB ps with
  | false =>
    have HF := Lib.hid hf
    rw [show allO ps = none by unfold allO; rw [if_neg (by rw [hf]; decide)]]
    clear hf
    go_enter Try.func40, Try.ntmps40
    go_wp2_with fail
    refine (fitTogether_b b c ps false HF.out hl _ HP.out).mono ?_
    rintro e V ⟨rfl, hb1⟩
    obtain ⟨r0, r1, r2, r3, r4⟩ := TR.out.keeps hb1
    have HB1 : Hid (Below w.heap.size w V) := HBV.out.trans (hb1.mono HBV.out.size)
    clear hb1
    go_wp2
    refine ret_cx2 w.heap.size rfl rfl rfl (x := .int .i64 0) (y := .slice none 0 0) (by go_simp) (by go_simp) rfl ?_
    exact ⟨_, rfl, OwnInts.nil _ _, by first | exact (HB1.out.setCell (by dsimp only; omega) _).setCell (by dsimp only; omega) _ | exact HB1.out⟩
  | true =>
    have HF := Lib.hid hf
    have hall : allC ps = true := by unfold fitB at hf; rw [Bool.and_eq_true] at hf; exact hf.1
    have HALL := Lib.hid hall
    have HTOP := Lib.hid (sumN_top ps hf)
    have HFEW := Lib.hid (acc_few ps hall)
    rw [show allO ps = made (sumN ps) (accL ps).2 by unfold allO; rw [if_pos hf]]
    clear hf hall
    go_enter Try.func40, Try.ntmps40
    go_wp2_with fail
    refine (fitTogether_b b c ps true HF.out hl _ HP.out).mono ?_
    rintro e V ⟨rfl, hb1⟩
    have TR1 := Lib.hid (TR.out.keeps hb1)
    have HP1 := Lib.hid (HP.out.keeps hb1)
    have HB1 : Hid (Below w.heap.size w V) := HBV.out.trans (hb1.mono HBV.out.size)
    have hvz := HB1.out.size
    have hvr := TR1.out.1
    have HO0 := Lib.hid (OwnInts.lit V V.heap.size [0] (Nat.le_refl _) (by decide))
    clear hb1
    go_wp2
    go_loopw [4, 5, 15] (fun p v i wr => ∃ k : Nat, k ≤ ps.length ∧ i = .int .i64 (k : Int) ∧ p = .int .i64 ((accL (ps.take k)).1 : Int) ∧ OwnInts wr V.heap.size v (accL (ps.take k)).2 ∧ Below V.heap.size V wr) (fun _ _ i _ => ps.length - (intOf i).toNat)
    case atStart => exact ⟨0, Nat.zero_le _, rfl, rfl, HO0.out, (Below.refl _ _).alloc (Nat.le_refl _) _⟩
    case round =>
      clear HO0
      obtain ⟨k, hk, rfl, rfl, hO, hB⟩ := hrel
      have HB := Lib.hid hB
      have hsz := hB.size
      obtain ⟨a1, c1, g1, rfl, hg1, hr1⟩ := hO.at
      have HR1 := Lib.hid hr1
      have HO := Lib.hid hO
      obtain ⟨wo, rfl⟩ : ∃ wo : World, wo = wr := ⟨_, rfl⟩
      clear hO hr1
      by_cases hlt : k < ps.length
      · obtain ⟨n, a, pc, xs, e, h1, h2, h3, h4, h5⟩ := HP1.out.keeps hB k hlt
        obtain ⟨hs, hfew⟩ := HFEW.out k hk
        have hA := accL_next ps k hlt
        have hc := allC_at ps HALL.out k hlt
        have ht1 := HTOP.out (k + 1) hlt
        rw [sumN_next ps k hlt] at ht1
        rw [e] at hA hc ht1
        dsimp only at hA hc ht1
        rw [← hs] at ht1
        obtain ⟨P, hP⟩ : ∃ P, (accL (ps.take k)).1 = P := ⟨_, rfl⟩
        obtain ⟨L, hL⟩ : ∃ L, (accL (ps.take k)).2 = L := ⟨_, rfl⟩
        rw [hP, hL] at hA hfew
        rw [hP] at ht1 hs
        rw [hL] at HR1 HO
        rw [hP, hL]
        have hn := isC_n hc
        have HC := Lib.hid (few_isC hc)
        have HL := Lib.hid hfew
        have HAN := Lib.hid hA
        have hbi : Below wo.heap.size wo (wo.alloc (.cells #[.int .i64 n, .slice a xs.length pc] 26)) := (Below.refl _ _).alloc (Nat.le_refl _) _
        have H3 := Lib.hid (h3.keeps hbi)
        have HR2 := Lib.hid (HR1.out.keeps hbi).ints
        have TW := Lib.hid (Two.new wo (.int .i64 n) (.slice a xs.length pc) 26)
        have HB2 : Hid (Below V.heap.size V (wo.alloc (.cells #[.int .i64 n, .slice a xs.length pc] 26))) := HB.out.trans (hbi.mono hsz)
        have hP6 : P ≤ 6 := by omega
        have hpw : P + n.toNat ≤ 6 := by omega
        have hmv : ∀ j, j < xs.length → ∃ f : Nat, xs.getD j 0 = (f : Int) ∧ 2 ^ P * f < 64 := fun j hj => by
          obtain ⟨f, e1, e2⟩ := few_at HC.out j hj
          have q1 : 2 ^ P * (f + 1) ≤ 2 ^ P * 2 ^ n.toNat := Nat.mul_le_mul_left _ (by omega)
          rw [← Nat.pow_add, Nat.mul_add] at q1
          have q2 := Nat.pow_le_pow_right (n := 2) (by decide) hpw
          have q3 := Nat.two_pow_pos P
          exact ⟨f, e1, by omega⟩
        have hmv2 : ∀ j, j < (movL P xs).length → ∃ f : Nat, (movL P xs).getD j 0 = (f : Int) ∧ f < 64 := fun j hj => by
          rw [movL_length] at hj
          obtain ⟨f, e1, e2⟩ := hmv j hj
          refine ⟨2 ^ P * f, ?_, e2⟩
          unfold movL
          simp only [List.getD, List.getElem?_map, List.getElem?_eq_getElem hj, Option.map_some, Option.getD_some] at e1 ⊢
          rw [e1]; push_cast; rfl
        have hLL : ∀ j, j < L.length → ∃ f : Nat, L.getD j 0 = (f : Int) ∧ f < 64 := fun j hj => by
          obtain ⟨f, e1, e2⟩ := few_at HL.out j hj
          have q2 := Nat.pow_le_pow_right (n := 2) (by decide) hP6
          exact ⟨f, e1, by omega⟩
        have hLn : L.length ≤ 262144 := by
          have q1 := HL.out.2
          have q2 := Nat.pow_le_pow_right (n := 2) (by decide) hP6
          omega
        have hXn : (movL P xs).length ≤ 64 := by
          rw [movL_length]
          have q1 := HC.out.2
          have q2 := Nat.pow_le_pow_right (n := 2) (by decide) (show n.toNat ≤ 6 by omega)
          omega
        have HMV := Lib.hid hmv
        have HMV2 := Lib.hid hmv2
        have HLL := Lib.hid hLL
        have HUN := Lib.hid (uni_mov HL.out HC.out)
        have hpw2 : wrap64 ((P : Int) + n) = (P : Int) + n := IntWalk.wrap64_in _ (by omega)
        have HPN : Hid (((P + n.toNat : Nat) : Int) = (P : Int) + n) := Lib.hid (by omega)
        clear e hc hs hfew hA hP hL h3 hbi hmv hmv2 hLL HO HR1 hB
        go_wp2_with fail
        refine (movedUp_any a pc xs P hP6 HMV.out h5 _ H3.out).mono ?_
        rintro e w1 ⟨v1, rfl, hO1, hb1⟩
        obtain ⟨a2, c2, g2, rfl, hg2, hr2⟩ := hO1.at
        have HR3 := Lib.hid hr2.ints
        have HR4 := Lib.hid (HR2.out.keeps hb1)
        have TW1 := Lib.hid (TW.out.keeps hb1)
        have HB3 : Hid (Below V.heap.size V w1) := HB2.out.trans (hb1.mono HB2.out.size)
        have hz3 := HB3.out.size
        clear hO1 hr2 hb1
        go_wp2_with fail
        refine (unionsOf_any a1 a2 c1 c2 L (movL P xs) HLL.out HMV2.out hLn hXn _ HR4.out HR3.out).mono ?_
        rintro e w2 ⟨v2, rfl, hO2, hb2⟩
        rw [HUN.out] at hO2
        obtain ⟨t0, t1, t2, _, _⟩ := TW1.out.keeps hb2
        have HO2 := Lib.hid (hO2.lower hz3)
        have HB4 : Hid (Below V.heap.size V w2) := HB3.out.trans (hb2.mono hz3)
        clear hO2 hb2
        go_wp2
        go_roundw
        case rel => exact ⟨k + 1, by omega, by go_num, by rw [HAN.out, HPN.out], by rw [HAN.out]; exact HO2.out, HB4.out⟩
        case measure => simp [intOf]; omega
      · have E : Hid (ps.take k = ps) := Lib.hid (by rw [show k = ps.length by omega]; exact List.take_length ..)
        obtain ⟨hs, hfew⟩ := HFEW.out k hk
        rw [E.out] at hs hfew HR1
        have hLn : (accL ps).2.length ≤ 1099511627776 := by
          have q1 := hfew.2
          have q0 := HTOP.out k hk
          rw [E.out, ← hs] at q0
          have q2 := Nat.pow_le_pow_right (n := 2) (by decide) (show (accL ps).1 ≤ 6 by omega)
          omega
        have HS := Lib.hid hs
        have TR2 := Lib.hid (TR1.out.keeps hB)
        rw [E.out]
        clear hfew hs HO hB
        go_wp2_with fail
        rw [HS.out]
        refine (implMake_any (sumN ps) a1 c1 (accL ps).2 hLn _ HR1.out.ints).mono ?_
        rintro e w6 ⟨v, rfl, hO2, hb6⟩
        obtain ⟨a2, c2x, g2, rfl, hc2, hg2, hr2, _⟩ := OwnInts.ata hO2 hb6.size
        obtain ⟨r0, r1, r2, r3, r4⟩ := TR2.out.keeps hb6
        have HO2 := Lib.hid (OwnInts.lower hO2 hsz)
        have HB6 : Hid (Below w.heap.size w w6) := HB1.out.trans ((HB.out.trans (hb6.mono hsz)).mono hvz)
        clear hO2 hr2 hb6
        go_wp2
        refine ret_cx2 w.heap.size rfl rfl rfl (x := .int .i64 (oN (made (sumN ps) (accL ps).2))) (y := .slice a2 (oL (made (sumN ps) (accL ps).2)).length c2x) (by go_simp) (by go_simp) rfl ?_
        exact ⟨_, rfl, (OwnInts.set (OwnInts.set HO2.out _ _ _ (by omega)) _ _ _ (by omega)).lower (by omega), (HB6.out.setCell (by dsimp only; omega) _).setCell (by dsimp only; omega) _⟩

end Go.Proofs.Ythobncbggaggjaa
