/-
  WALKS of chapter 6 by impl: the points of all facets; the library's Grow of nothing and Concat of two slices.
-/
import Derived.Test.YthobncbggaggjaaWJoinI5
import Derived.Test.YthobncbggaggjaaWJoinS3
import Derived.Lib.AppendZerosOnto
namespace Go.Proofs.Ythobncbggaggjaa
open Go.RowKit
open Sets Lin Hom Join

def andT (f : Nat) (xs : List Int) : Nat := xs.foldl (fun a x => a &&& x.toNat) f
theorem andT_next (f : Nat) (xs : List Int) (k : Nat) (h : k < xs.length) : andT f (xs.take (k + 1)) = andT f (xs.take k) &&& (xs.getD k 0).toNat := by
  unfold andT
  rw [List.take_add_one, List.foldl_append]; simp [List.getD, List.getElem?_eq_getElem h]
theorem andT_lt (xs : List Int) : ∀ f : Nat, f < 64 → andT f xs < 64 := by
  unfold andT
  induction xs with
  | nil => intro a ha; exact ha
  | cons x l ih => intro a ha; rw [List.foldl_cons]; exact ih _ (Nat.lt_of_le_of_lt Nat.and_le_left ha)
theorem andT_all (n : Int) (xs : List Int) (f : Nat) (hC : isC n xs = true) (h0 : 0 < xs.length) (hf : xs.getD 0 0 = (f : Int)) (h64 : f < 64) : andT f xs = conePts n xs := by
  obtain ⟨x, l, rfl⟩ := List.exists_cons_of_ne_nil (List.ne_nil_of_length_pos h0)
  have hx : x = (f : Int) := hf
  subst hx
  unfold andT conePts
  rw [if_pos ⟨hC, List.cons_ne_nil _ _⟩, List.foldl_cons, List.foldl_cons, Int.toNat_natCast, Nat.and_self]
  have : 63 &&& f = f := by
    rw [Nat.and_comm, show 63 = 2 ^ 6 - 1 from rfl, Nat.and_two_pow_sub_one_eq_mod]; exact Nat.mod_eq_of_lt h64
  rw [this]

set_option maxRecDepth 100000 in
set_option maxHeartbeats 4000000 in
theorem implPts_any (n : Int) (a : Option Addr) (c : Nat) (xs : List Int) (hcap : xs.length ≤ c) (hlen : xs.length ≤ 1099511627776) (w : World) (h : Ints w a xs) :
    Calls Try.prog 27 #[cx n (.slice a xs.length c)] w fun e w' => e = .returned (.int .i64 (conePts n xs : Nat)) ∧ Below w.heap.size w w' := by
  have hb0 : Below w.heap.size w (w.alloc (Obj.cells #[Value.int IntKind.i64 n, Value.slice a xs.length c] 26)) := (Below.refl _ _).alloc (Nat.le_refl _) _
  have htwo := Two.new w (.int .i64 n) (.slice a xs.length c) 26
  have H := Lib.hid (h.keeps hb0)
  have HB0 := Lib.hid hb0
  have HT := Lib.hid htwo
  clear h hb0 htwo
  obtain ⟨t0, t1, t2, _, _⟩ := HT.out
  cases hC : isC n xs with
  | false =>
    have HC := Lib.hid hC
    have HE : Hid (conePts n xs = 0) := by show conePts n xs = 0; unfold conePts; rw [if_neg (by rw [hC]; simp)]
    clear hC
    go_enter Try.func27, Try.ntmps27
    go_wp2_with fail
    refine (implIsC_b n _ _ xs hcap false HC.out hlen _ H.out).mono ?_
    rintro e w1 ⟨rfl, hb1⟩
    have HB1 : Hid (Below w.heap.size w w1) := HB0.out.trans (hb1.mono HB0.out.size)
    clear hb1
    go_wp2
    go_ret
    exact ⟨ret_int (by rw [HE.out]; rfl), HB1.out⟩
  | true =>
    have HC := Lib.hid hC
    have HAT := Lib.hid (isC_at hC)
    clear hC
    go_enter Try.func27, Try.ntmps27
    go_wp2_with fail
    refine (implIsC_b n _ _ xs hcap true HC.out hlen _ H.out).mono ?_
    rintro e w1 ⟨rfl, hb1⟩
    have HB1 : Hid (Below w.heap.size w w1) := HB0.out.trans (hb1.mono HB0.out.size)
    have HT1 := Lib.hid (HT.out.keeps hb1)
    have H1 := Lib.hid (H.out.keeps hb1)
    clear hb1 t0 t1 t2
    obtain ⟨t0, t1, t2, _, _⟩ := HT1.out
    by_cases h0 : 0 < xs.length
    · have h0d : ((xs.length : Int) == 0) = false := beq_eq_false_iff_ne.2 (by omega)
      have h0e : ¬((xs.length : Int) = 0) := by omega
      obtain ⟨f0, hf0, hf0l⟩ := HAT.out 0 h0
      obtain ⟨b0, o0, hae, g0⟩ := H1.out 0 h0
      rw [hf0, Nat.add_zero] at g0
      have HAL := Lib.hid (andT_all n xs f0 HC.out h0 hf0 hf0l)
      have hae2 := hae
      subst hae
      clear hf0 hae2
      go_wp2
      go_loop [3, 22] (fun s i => ∃ k : Nat, k ≤ xs.length ∧ i = .int .i64 (k : Int) ∧ s = .int .i64 (andT f0 (xs.take k) : Nat)) (fun _ i => xs.length - (intOf i).toNat)
      case atStart => exact ⟨0, Nat.zero_le _, rfl, rfl⟩
      case round =>
        obtain ⟨k, hk, rfl, rfl⟩ := hrel
        by_cases hlt : k < xs.length
        · obtain ⟨f, hf, hfl⟩ := HAT.out k hlt
          obtain ⟨b1, o1, hbe, g1⟩ := H1.out k hlt
          rw [hf] at g1
          have hs64 := andT_lt (xs.take k) f0 hf0l
          have hst := andT_next f0 xs k hlt
          rw [hf] at hst
          obtain ⟨s, hs⟩ : ∃ s, andT f0 (xs.take k) = s := ⟨_, rfl⟩
          rw [hs] at hs64 hst
          rw [hs]
          have hand := and_natJ s f hs64 hfl
          have HS := Lib.hid hst
          cases hbe
          clear hs hst hf
          go_wp2
          go_round
          case rel => exact ⟨k + 1, by omega, by go_num, by rw [HS.out]; rfl⟩
          case measure => simp [intOf]; omega
        · have E := Lib.hid (show k = xs.length by omega)
          go_wp2
          go_ret
          refine ⟨ret_int ?_, HB1.out⟩
          rw [← HAL.out, E.out, List.take_length]
    · have HE : Hid (conePts n xs = 0) := by show conePts n xs = 0; unfold conePts; rw [if_neg (by rintro ⟨_, h⟩; exact h0 (List.length_pos_iff.2 h))]
      have h0d : ((xs.length : Int) == 0) = true := beq_iff_eq.2 (by omega)
      go_wp2
      go_ret
      exact ⟨ret_int (by rw [HE.out]; rfl), HB1.out⟩

set_option maxRecDepth 100000 in
set_option maxHeartbeats 4000000 in
/-- slices.Grow of the nil slice. -/
theorem growNil_any (n : Nat) (hn : n ≤ 65536) (w : World) :
    Calls Try.prog 74 #[.slice none 0 0, .int .i64 (n : Int)] w fun e w' => ∃ v, e = .returned v ∧ OwnInts w' w.heap.size v [] ∧ Below w.heap.size w w' := by
  obtain ⟨i0, hi, hz0, hz1, hz2⟩ := info_parts info_int
  have h1 : ¬ ((n : Int) < 0) := by omega
  by_cases h0 : n = 0
  · subst h0
    go_enter Try.func74, Try.ntmps74
    go_wp2
    go_ret
    exact ⟨_, rfl, OwnInts.nil _ _, Below.refl _ _⟩
  · have hrz : ∀ ty, (Builtin.append_ #[24, 3] ty #[.slice none 0 0, .int .i64 (n : Int)]).run Try.prog w = _ := fun ty =>
      Lib.run_append_grow_zeros w 24 3 ty 3 i0 (.int .i64 0) .i64 .i64 Try.underlying24 Try.underlying3 hi hz0 none 0 0 [] (run_firstCells_none w.drew i0.size 0 0 0) n (by omega) (by rw [hz1]; decide) (by omega) (by omega) (by rw [hz2]; omega) (growslice_fits (by omega) (by rw [hz2]; omega))
    have h4 : (n : Int) > 0 := by omega
    have hge : 0 + n ≤ grownCap w (0 + n) 0 3 := grownCap_ge w _ _ _
    have hle := grownCap_le_maxLen w (0 + n) 0 3 (by unfold maxLen; omega)
    obtain ⟨G, hG⟩ : ∃ G, grownCap w (0 + n) 0 3 = G := ⟨_, rfl⟩
    rw [hG] at hrz hge hle
    unfold maxLen at hle
    obtain ⟨Z, hZ⟩ : ∃ Z : Array Value, ((([] : List Value).toArray) ++ Builtin.zeroCells (Value.int IntKind.i64 0).cells n ++ Builtin.zeroCells (Value.int IntKind.i64 0).cells (G - (0 + n))) = Z := ⟨_, rfl⟩
    have hzs : Z.size = G := by
      rw [← hZ, Array.size_append, Array.size_append, size_zeroCells, size_zeroCells]
      simp [Value.cells]
      omega
    rw [hZ] at hrz
    clear hZ
    have hO : OwnInts (w.drew.alloc (.cells Z 3)) w.heap.size (.slice (some ⟨w.heap.size, 0, none⟩) 0 G) [] := by
      unfold OwnInts World.ownsRow
      exact ⟨rfl, .inr ⟨w.heap.size, G, Z, rfl, Nat.le_refl _, heap_alloc_new w.drew _, Nat.zero_le _, by unfold maxLen; omega, by omega, by simp⟩⟩
    have HO : Hid (OwnInts (w.alloc (.cells Z 3)).drew w.heap.size (.slice (some ⟨w.heap.size, 0, none⟩) 0 G) []) := Lib.hid hO
    have HB : Hid (Below w.heap.size w (w.alloc (.cells Z 3)).drew) := Lib.hid ((bdrew1 w).alloc (Nat.le_refl _) _)
    have HRZ := Lib.hid hrz
    clear hO hG hrz
    go_enter Try.func74, Try.ntmps74
    go_wp2_with (at_builtin; refine Lib.wpList_append_run _ rfl _ _ _ _ rfl _ _ rfl rfl _ _ (HRZ.out _) ?_)
    go_ret
    exact ⟨_, rfl, HO.out, HB.out⟩

end Go.Proofs.Ythobncbggaggjaa
