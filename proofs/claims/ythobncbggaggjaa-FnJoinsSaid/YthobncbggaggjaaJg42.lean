/-
  TEXTS of one claim, put together: WJoinI5, WJoinI6, WJoinI7.
-/
import Derived.Test.YthobncbggaggjaaJg41
import Derived.Deep.RegionHeld3
import Derived.Deep.RegionLaw
import Derived.Test.YthobncbggaggjaaJg12
import Derived.Lib.AppendZerosOnto
/-! WALKS of chapter 6 by impl: JoinOf, the points of all facets. -/

namespace Go.Proofs.Ythobncbggaggjaa
open Go.RowKit
open Sets Lin Hom Join

theorem few_setB {n : Int} (hn : 0 ≤ n) (hn6 : n ≤ 6) {xs : List Int} (h : Few n.toNat xs) : ∀ x, x ∈ xs → setB n x = true := fun x hx => by
  obtain ⟨f, rfl, hf⟩ := h.1 x hx
  have hp : (2 : Int) ^ n.toNat = ((2 ^ n.toNat : Nat) : Int) := by push_cast; rfl
  have := Nat.pow_le_pow_right (n := 2) (by decide) (show n.toNat ≤ 6 by omega)
  unfold setB
  rw [decide_eq_true_eq, hp]
  refine ⟨?_, ?_, ?_, ?_⟩ <;> omega
theorem fit_two (n m : Int) (pa pb : Option Addr) (ca cb : Nat) (xs ys : List Int) : fitB [(n, pa, ca, xs), (m, pb, cb, ys)] = joinOk n m xs ys := by
  unfold fitB allC sumN joinOk
  simp
theorem pairs_one (xs : List Int) : pairs 0 [0] xs = xs := by
  unfold pairs
  simp
theorem acc_two (n m : Int) (pa pb : Option Addr) (ca cb : Nat) (xs ys : List Int) : accL [(n, pa, ca, xs), (m, pb, cb, ys)] = (n.toNat + m.toNat, pairs n.toNat xs ys) := by
  unfold accL
  simp [pairs_one]
theorem all_two (n m : Int) (pa pb : Option Addr) (ca cb : Nat) (xs ys : List Int) : allO [(n, pa, ca, xs), (m, pb, cb, ys)] = joinO n m xs ys := by
  unfold allO joinO
  rw [fit_two, acc_two]
  cases h : joinOk n m xs ys with
  | false => rw [if_neg (by decide), partJ_no rfl]
  | true =>
    obtain ⟨hx, hy, hnm⟩ := (joinOk_iff n m xs ys).1 h
    have hn := isC_n hx
    have hm := isC_n hy
    have hf : Few (n + m).toNat (pairs n.toNat xs ys) := by
      rw [show (n + m).toNat = n.toNat + m.toNat by omega]
      exact few_pairs (few_isC hx) (few_isC hy)
    have hle : (pairs n.toNat xs ys).length ≤ 64 := by
      have q1 := hf.2
      have q2 := Nat.pow_le_pow_right (n := 2) (by decide) (show (n + m).toNat ≤ 6 by omega)
      omega
    rw [if_pos rfl, partJ_yes rfl, show sumN [(n, pa, ca, xs), (m, pb, cb, ys)] = n + m by unfold sumN; simp]
    rw [made_yes ((setsOf_iff _ _).2 ⟨(inB_iff _ _ _).2 (by omega), hle, few_setB (by omega) hnm hf⟩), pairs_max h]
theorem parts_two {w : World} {b : Nat} (n m : Int) (pa pb : Option Addr) (ca cb : Nat) (xs ys : List Int) (h0 : w.cell? ⟨b, 0, none⟩ = some (.int .i64 n)) (h1 : w.cell? ⟨b, 1, none⟩ = some (.slice pa xs.length ca)) (h2 : w.cell? ⟨b, 2, none⟩ = some (.int .i64 m)) (h3 : w.cell? ⟨b, 3, none⟩ = some (.slice pb ys.length cb))
    (hca : xs.length ≤ ca) (hcb : ys.length ≤ cb) (hlx : xs.length ≤ 1099511627776) (hly : ys.length ≤ 1099511627776) (hx : Ints w pa xs) (hy : Ints w pb ys) : PartsAt w b [(n, pa, ca, xs), (m, pb, cb, ys)] := fun j hj => by
  have hj : j < 2 := hj
  rcases (by omega : j = 0 ∨ j = 1) with rfl | rfl
  · exact ⟨n, pa, ca, xs, rfl, h0, h1, hx, hca, hlx⟩
  · exact ⟨m, pb, cb, ys, rfl, h2, h3, hy, hcb, hly⟩

/-- The join of two parts that lie side by side in a new row. -/
theorem join2_any (n m : Int) (pa pb : Option Addr) (ca cb : Nat) (xs ys : List Int) (hca : xs.length ≤ ca) (hcb : ys.length ≤ cb) (hlx : xs.length ≤ 1099511627776) (hly : ys.length ≤ 1099511627776) (V : World) (hx : Ints V pa xs) (hy : Ints V pb ys) :
    Calls Try.prog 40 #[.slice (some ⟨V.heap.size, 0, none⟩) 2 2] (V.alloc (.cells #[.int .i64 n, .slice pa xs.length ca, .int .i64 m, .slice pb ys.length cb] 26)) fun e w' => ∃ a c, e = .returned (.tuple #[cx (oN (joinO n m xs ys)) (.slice a (oL (joinO n m xs ys)).length c), .bool (joinO n m xs ys).isSome]) ∧ OwnInts w' V.heap.size (.slice a (oL (joinO n m xs ys)).length c) (oL (joinO n m xs ys)) ∧ Below V.heap.size V w' := by
  obtain ⟨U, hU⟩ : ∃ U, V.alloc (.cells #[.int .i64 n, .slice pa xs.length ca, .int .i64 m, .slice pb ys.length cb] 26) = U := ⟨_, rfl⟩
  have hbu : Below V.heap.size V U := by rw [← hU]; exact (Below.refl _ _).alloc (Nat.le_refl _) _
  have hps : PartsAt U V.heap.size [(n, pa, ca, xs), (m, pb, cb, ys)] := by
    have hcell : ∀ j u, (#[.int .i64 n, .slice pa xs.length ca, .int .i64 m, .slice pb ys.length cb] : Array Value)[j]? = some u → U.cell? ⟨V.heap.size, j, none⟩ = some u := fun j u hu => by
      rw [← hU, World.cell?_alloc_new]; exact hu
    exact parts_two n m pa pb ca cb xs ys (hcell 0 _ rfl) (hcell 1 _ rfl) (hcell 2 _ rfl) (hcell 3 _ rfl) hca hcb hlx hly (hx.keeps hbu) (hy.keeps hbu)
  have hQ := joinAll_any V.heap.size 2 [(n, pa, ca, xs), (m, pb, cb, ys)] (by show 2 ≤ 6; decide) U hps
  rw [all_two] at hQ
  rw [hU]
  refine hQ.mono ?_
  rintro e w' ⟨v, rfl, hO, hb⟩
  obtain ⟨a2, c2, g2, rfl, _⟩ := OwnInts.ata hO hb.size
  exact ⟨a2, c2, rfl, hO.lower hbu.size, hbu.trans (hb.mono hbu.size)⟩
theorem onePoint_at (w : World) : Calls Try.prog 49 #[] w fun e w' => ∃ a c, e = .returned (cx 1 (.slice a 1 c)) ∧ 1 ≤ c ∧ Ints w' a [1] ∧ Below w.heap.size w w' := by
  refine (onePoint_any w).mono ?_
  rintro e w' ⟨v, rfl, hO, hb⟩
  obtain ⟨a, c, g, rfl, hc, _, hr, _⟩ := OwnInts.ata hO hb.size
  exact ⟨a, c, rfl, hc, hr.ints, hb⟩
theorem twoPoints_at (w : World) : Calls Try.prog 50 #[] w fun e w' => ∃ a c, e = .returned (cx 2 (.slice a 2 c)) ∧ 2 ≤ c ∧ Ints w' a [1, 2] ∧ Below w.heap.size w w' := by
  refine (twoPoints_any w).mono ?_
  rintro e w' ⟨v, rfl, hO, hb⟩
  obtain ⟨a, c, g, rfl, hc, _, hr, _⟩ := OwnInts.ata hO hb.size
  exact ⟨a, c, rfl, hc, hr.ints, hb⟩

set_option maxRecDepth 100000 in
set_option maxHeartbeats 4000000 in
theorem implJoin_any (n m : Int) (pa pb : Option Addr) (ca cb : Nat) (xs ys : List Int) (hca : xs.length ≤ ca) (hcb : ys.length ≤ cb) (hlx : xs.length ≤ 1099511627776) (hly : ys.length ≤ 1099511627776) (w : World) (hx : Ints w pa xs) (hy : Ints w pb ys) :
    Calls Try.prog 12 #[cx n (.slice pa xs.length ca), cx m (.slice pb ys.length cb)] w fun e w' => ∃ v, e = .returned (.tuple #[cx (oN (joinO n m xs ys)) v, .bool (joinO n m xs ys).isSome]) ∧ OwnInts w' w.heap.size v (oL (joinO n m xs ys)) ∧ Below w.heap.size w w' := by
  have hb0 : Below w.heap.size w (((w.alloc (.cells #[.int .i64 n, .slice pa xs.length ca] 26)).alloc (.cells #[.int .i64 m, .slice pb ys.length cb] 26)).alloc (.cells #[.int .i64 0, .slice none 0 0] 26)) := (((Below.refl _ _).alloc (Nat.le_refl _) _).alloc (by simp) _).alloc (by simp; omega) _
  have htr := Two.new ((w.alloc (.cells #[.int .i64 n, .slice pa xs.length ca] 26)).alloc (.cells #[.int .i64 m, .slice pb ys.length cb] 26)) (.int .i64 0) (.slice none 0 0) 26
  have hQ := join2_any n m pa pb ca cb xs ys hca hcb hlx hly (((w.alloc (.cells #[.int .i64 n, .slice pa xs.length ca] 26)).alloc (.cells #[.int .i64 m, .slice pb ys.length cb] 26)).alloc (.cells #[.int .i64 0, .slice none 0 0] 26)) (hx.keeps hb0) (hy.keeps hb0)
  generalize joinO n m xs ys = o at hQ ⊢
  have hvz : (((w.alloc (.cells #[.int .i64 n, .slice pa xs.length ca] 26)).alloc (.cells #[.int .i64 m, .slice pb ys.length cb] 26)).alloc (.cells #[.int .i64 0, .slice none 0 0] 26)).heap.size = w.heap.size + 1 + 1 + 1 := by simp
  rw [hvz] at hQ
  simp only [World.size_alloc] at htr
  have HQ := Lib.hid hQ
  have TR := Lib.hid htr
  have HB0 := Lib.hid hb0
  clear hx hy hQ htr hb0 hvz
  go_enter Try.func12, Try.ntmps12
  go_wp2_with fail
  refine HQ.out.mono ?_
  rintro e w6 ⟨a2, c2, rfl, hO2, hb6⟩
  have hb7 : Below (((w.alloc (.cells #[.int .i64 n, .slice pa xs.length ca] 26)).alloc (.cells #[.int .i64 m, .slice pb ys.length cb] 26)).alloc (.cells #[.int .i64 0, .slice none 0 0] 26)).heap.size (((w.alloc (.cells #[.int .i64 n, .slice pa xs.length ca] 26)).alloc (.cells #[.int .i64 m, .slice pb ys.length cb] 26)).alloc (.cells #[.int .i64 0, .slice none 0 0] 26)) w6 := by simpa using hb6
  obtain ⟨r0, r1, r2, r3, r4⟩ := TR.out.keeps hb7
  have HO2 := Lib.hid hO2
  have HB6 : Hid (Below w.heap.size w w6) := HB0.out.trans (hb7.mono HB0.out.size)
  clear hO2 hb6 hb7
  go_wp2
  refine ret_cx2 (w.heap.size + 1 + 1) rfl rfl rfl (x := .int .i64 (oN o)) (y := .slice a2 (oL o).length c2) (by go_simp) (by go_simp) rfl ?_
  exact ⟨_, rfl, (OwnInts.set (OwnInts.set HO2.out _ _ _ (by omega)) _ _ _ (by omega)).lower (by omega), (HB6.out.setCell (by dsimp only; omega) _).setCell (by dsimp only; omega) _⟩

set_option maxRecDepth 100000 in
set_option maxHeartbeats 4000000 in
theorem implCone_any (n : Int) (pa : Option Addr) (ca : Nat) (xs : List Int) (hca : xs.length ≤ ca) (hlx : xs.length ≤ 1099511627776) (w : World) (hx : Ints w pa xs) :
    Calls Try.prog 18 #[cx n (.slice pa xs.length ca)] w fun e w' => ∃ v, e = .returned (.tuple #[cx (oN (joinO n 1 xs [1])) v, .bool (joinO n 1 xs [1]).isSome]) ∧ OwnInts w' w.heap.size v (oL (joinO n 1 xs [1])) ∧ Below w.heap.size w w' := by
  have hb0 : Below w.heap.size w ((w.alloc (.cells #[.int .i64 n, .slice pa xs.length ca] 26)).alloc (.cells #[.int .i64 0, .slice none 0 0] 26)) := ((Below.refl _ _).alloc (Nat.le_refl _) _).alloc (by simp) _
  have hta := (Two.new w (.int .i64 n) (.slice pa xs.length ca) 26).alloc (.cells #[.int .i64 0, .slice none 0 0] 26)
  have htr := Two.new (w.alloc (.cells #[.int .i64 n, .slice pa xs.length ca] 26)) (.int .i64 0) (.slice none 0 0) 26
  simp only [World.size_alloc] at htr
  have hX := hx.keeps hb0
  have hvz : ((w.alloc (.cells #[.int .i64 n, .slice pa xs.length ca] 26)).alloc (.cells #[.int .i64 0, .slice none 0 0] 26)).heap.size = w.heap.size + 1 + 1 := by simp
  have hQ := fun (pb : Option Addr) (cb : Nat) (hcb : 1 ≤ cb) (V : World) (h1 : Ints V pa xs) (h2 : Ints V pb [1]) => join2_any n 1 pa pb ca cb xs [1] hca hcb hlx (by decide) V h1 h2
  generalize joinO n 1 xs [1] = o at hQ ⊢
  have HQ := Lib.hid hQ
  have k0 := hta.2.1
  have k1 := hta.2.2.1
  clear hx hQ
  go_enter Try.func18, Try.ntmps18
  go_wp2_with fail
  generalize ((w.alloc (.cells #[.int .i64 n, .slice pa xs.length ca] 26)).alloc (.cells #[.int .i64 0, .slice none 0 0] 26)) = V at *
  have TA := Lib.hid hta
  have TR := Lib.hid htr
  have HB0 := Lib.hid hb0
  have HX := Lib.hid hX
  clear hta htr hb0 hX
  go_region_law (first | (go_simp; go_at_call 49; refine (onePoint_at _).mono ?_; rintro e w1 ⟨a1, c1, rfl, hc1, hr1, hb1⟩; have HB1 : Hid (Below V.heap.size V w1) := Lib.hid ((bdrew1 V).trans hb1); have HR1 := Lib.hid hr1; have hta1 := TA.out.keeps HB1.out; have s0 := hta1.2.1; have s1 := hta1.2.2.1; clear hr1 hb1 hta1) | (go_simp; go_at_call 40; refine (HQ.out a1 c1 hc1 w1 (HX.out.keeps HB1.out) HR1.out).mono ?_; rintro e w2 ⟨a2, c2, rfl, hO2, hb2⟩; have HO2 := Lib.hid hO2; have HB2 : Hid (Below V.heap.size V w2) := Lib.hid (HB1.out.trans (hb2.mono HB1.out.size)); have hz1 := HB1.out.size; have htr2 := TR.out.keeps HB2.out; obtain ⟨r0, r1, r2, r3, r4⟩ := htr2; clear hO2 hb2) | fail "arm")
  all_goals
    go_wp2
    refine ret_cx2 (w.heap.size + 1) rfl rfl rfl (x := .int .i64 (oN o)) (y := .slice a2 (oL o).length c2) (by go_simp) (by go_simp) rfl ?_
    exact ⟨_, rfl, (OwnInts.set (OwnInts.set HO2.out _ _ _ (by omega)) _ _ _ (by omega)).lower (by omega), ((HB0.out.trans (HB2.out.mono HB0.out.size)).setCell (by dsimp only; omega) _).setCell (by dsimp only; omega) _⟩

set_option maxRecDepth 100000 in
set_option maxHeartbeats 4000000 in
theorem implSusp_any (n : Int) (pa : Option Addr) (ca : Nat) (xs : List Int) (hca : xs.length ≤ ca) (hlx : xs.length ≤ 1099511627776) (w : World) (hx : Ints w pa xs) :
    Calls Try.prog 20 #[cx n (.slice pa xs.length ca)] w fun e w' => ∃ v, e = .returned (.tuple #[cx (oN (joinO n 2 xs [1, 2])) v, .bool (joinO n 2 xs [1, 2]).isSome]) ∧ OwnInts w' w.heap.size v (oL (joinO n 2 xs [1, 2])) ∧ Below w.heap.size w w' := by
  have hb0 : Below w.heap.size w ((w.alloc (.cells #[.int .i64 n, .slice pa xs.length ca] 26)).alloc (.cells #[.int .i64 0, .slice none 0 0] 26)) := ((Below.refl _ _).alloc (Nat.le_refl _) _).alloc (by simp) _
  have hta := (Two.new w (.int .i64 n) (.slice pa xs.length ca) 26).alloc (.cells #[.int .i64 0, .slice none 0 0] 26)
  have htr := Two.new (w.alloc (.cells #[.int .i64 n, .slice pa xs.length ca] 26)) (.int .i64 0) (.slice none 0 0) 26
  simp only [World.size_alloc] at htr
  have hX := hx.keeps hb0
  have hvz : ((w.alloc (.cells #[.int .i64 n, .slice pa xs.length ca] 26)).alloc (.cells #[.int .i64 0, .slice none 0 0] 26)).heap.size = w.heap.size + 1 + 1 := by simp
  have hQ := fun (pb : Option Addr) (cb : Nat) (hcb : 2 ≤ cb) (V : World) (h1 : Ints V pa xs) (h2 : Ints V pb [1, 2]) => join2_any n 2 pa pb ca cb xs [1, 2] hca hcb hlx (by decide) V h1 h2
  generalize joinO n 2 xs [1, 2] = o at hQ ⊢
  have HQ := Lib.hid hQ
  have k0 := hta.2.1
  have k1 := hta.2.2.1
  clear hx hQ
  go_enter Try.func20, Try.ntmps20
  go_wp2_with fail
  generalize ((w.alloc (.cells #[.int .i64 n, .slice pa xs.length ca] 26)).alloc (.cells #[.int .i64 0, .slice none 0 0] 26)) = V at *
  have TA := Lib.hid hta
  have TR := Lib.hid htr
  have HB0 := Lib.hid hb0
  have HX := Lib.hid hX
  clear hta htr hb0 hX
  go_region_law (first | (go_simp; go_at_call 50; refine (twoPoints_at _).mono ?_; rintro e w1 ⟨a1, c1, rfl, hc1, hr1, hb1⟩; have HB1 : Hid (Below V.heap.size V w1) := Lib.hid ((bdrew1 V).trans hb1); have HR1 := Lib.hid hr1; have hta1 := TA.out.keeps HB1.out; have s0 := hta1.2.1; have s1 := hta1.2.2.1; clear hr1 hb1 hta1) | (go_simp; go_at_call 40; refine (HQ.out a1 c1 hc1 w1 (HX.out.keeps HB1.out) HR1.out).mono ?_; rintro e w2 ⟨a2, c2, rfl, hO2, hb2⟩; have HO2 := Lib.hid hO2; have HB2 : Hid (Below V.heap.size V w2) := Lib.hid (HB1.out.trans (hb2.mono HB1.out.size)); have hz1 := HB1.out.size; have htr2 := TR.out.keeps HB2.out; obtain ⟨r0, r1, r2, r3, r4⟩ := htr2; clear hO2 hb2) | fail "arm")
  all_goals
    go_wp2
    refine ret_cx2 (w.heap.size + 1) rfl rfl rfl (x := .int .i64 (oN o)) (y := .slice a2 (oL o).length c2) (by go_simp) (by go_simp) rfl ?_
    exact ⟨_, rfl, (OwnInts.set (OwnInts.set HO2.out _ _ _ (by omega)) _ _ _ (by omega)).lower (by omega), ((HB0.out.trans (HB2.out.mono HB0.out.size)).setCell (by dsimp only; omega) _).setCell (by dsimp only; omega) _⟩

end Go.Proofs.Ythobncbggaggjaa

/-! WALKS of chapter 6 by impl: the points of all facets; the library's Grow of nothing and Concat of two slices. -/

namespace Go.Proofs.Ythobncbggaggjaa
open Go.RowKit
open Sets Lin Hom Join

def andT (f : Nat) (xs : List Int) : Nat := xs.foldl (fun a x => a &&& x.toNat) f
theorem andT_next (f : Nat) (xs : List Int) (k : Nat) (h : k < xs.length) : andT f (xs.take (k + 1)) = andT f (xs.take k) &&& (xs.getD k 0).toNat := by
  unfold andT
  rw [List.take_add_one, List.foldl_append]; simp [List.getD, List.getElem?_eq_getElem h]
theorem andT_lt (xs : List Int) : ∀ f : Nat, f < 64 → andT f xs < 64 := by
  unfold andT
  induction xs with
  | nil => intro a ha; exact ha
  | cons x l ih => intro a ha; rw [List.foldl_cons]; exact ih _ (Nat.lt_of_le_of_lt Nat.and_le_left ha)
theorem andT_all (n : Int) (xs : List Int) (f : Nat) (hC : isC n xs = true) (h0 : 0 < xs.length) (hf : xs.getD 0 0 = (f : Int)) (h64 : f < 64) : andT f xs = conePts n xs := by
  obtain ⟨x, l, rfl⟩ := List.exists_cons_of_ne_nil (List.ne_nil_of_length_pos h0)
  have hx : x = (f : Int) := hf
  subst hx
  unfold andT conePts
  rw [if_pos ⟨hC, List.cons_ne_nil _ _⟩, List.foldl_cons, List.foldl_cons, Int.toNat_natCast, Nat.and_self]
  have : 63 &&& f = f := by
    rw [Nat.and_comm, show 63 = 2 ^ 6 - 1 from rfl, Nat.and_two_pow_sub_one_eq_mod]; exact Nat.mod_eq_of_lt h64
  rw [this]

set_option maxRecDepth 100000 in
set_option maxHeartbeats 4000000 in
theorem implPts_any (n : Int) (a : Option Addr) (c : Nat) (xs : List Int) (hcap : xs.length ≤ c) (hlen : xs.length ≤ 1099511627776) (w : World) (h : Ints w a xs) :
    Calls Try.prog 27 #[cx n (.slice a xs.length c)] w fun e w' => e = .returned (.int .i64 (conePts n xs : Nat)) ∧ Below w.heap.size w w' := by
  have hb0 : Below w.heap.size w (w.alloc (Obj.cells #[Value.int IntKind.i64 n, Value.slice a xs.length c] 26)) := (Below.refl _ _).alloc (Nat.le_refl _) _
  have htwo := Two.new w (.int .i64 n) (.slice a xs.length c) 26
  have H := Lib.hid (h.keeps hb0)
  have HB0 := Lib.hid hb0
  have HT := Lib.hid htwo
  clear h hb0 htwo
  obtain ⟨t0, t1, t2, _, _⟩ := HT.out
  cases hC : isC n xs with
  | false =>
    have HC := Lib.hid hC
    have HE : Hid (conePts n xs = 0) := by show conePts n xs = 0; unfold conePts; rw [if_neg (by rw [hC]; simp)]
    clear hC
    go_enter Try.func27, Try.ntmps27
    go_wp2_with fail
    refine (implIsC_b n _ _ xs hcap false HC.out hlen _ H.out).mono ?_
    rintro e w1 ⟨rfl, hb1⟩
    have HB1 : Hid (Below w.heap.size w w1) := HB0.out.trans (hb1.mono HB0.out.size)
    clear hb1
    go_wp2
    go_ret
    exact ⟨ret_int (by rw [HE.out]; rfl), HB1.out⟩
  | true =>
    have HC := Lib.hid hC
    have HAT := Lib.hid (isC_at hC)
    clear hC
    go_enter Try.func27, Try.ntmps27
    go_wp2_with fail
    refine (implIsC_b n _ _ xs hcap true HC.out hlen _ H.out).mono ?_
    rintro e w1 ⟨rfl, hb1⟩
    have HB1 : Hid (Below w.heap.size w w1) := HB0.out.trans (hb1.mono HB0.out.size)
    have HT1 := Lib.hid (HT.out.keeps hb1)
    have H1 := Lib.hid (H.out.keeps hb1)
    clear hb1 t0 t1 t2
    obtain ⟨t0, t1, t2, _, _⟩ := HT1.out
    by_cases h0 : 0 < xs.length
    · have h0d : ((xs.length : Int) == 0) = false := beq_eq_false_iff_ne.2 (by omega)
      have h0e : ¬((xs.length : Int) = 0) := by omega
      obtain ⟨f0, hf0, hf0l⟩ := HAT.out 0 h0
      obtain ⟨b0, o0, hae, g0⟩ := H1.out 0 h0
      rw [hf0, Nat.add_zero] at g0
      have HAL := Lib.hid (andT_all n xs f0 HC.out h0 hf0 hf0l)
      have hae2 := hae
      subst hae
      clear hf0 hae2
      go_wp2
      go_loop [3, 22] (fun s i => ∃ k : Nat, k ≤ xs.length ∧ i = .int .i64 (k : Int) ∧ s = .int .i64 (andT f0 (xs.take k) : Nat)) (fun _ i => xs.length - (intOf i).toNat)
      case atStart => exact ⟨0, Nat.zero_le _, rfl, rfl⟩
      case round =>
        obtain ⟨k, hk, rfl, rfl⟩ := hrel
        by_cases hlt : k < xs.length
        · obtain ⟨f, hf, hfl⟩ := HAT.out k hlt
          obtain ⟨b1, o1, hbe, g1⟩ := H1.out k hlt
          rw [hf] at g1
          have hs64 := andT_lt (xs.take k) f0 hf0l
          have hst := andT_next f0 xs k hlt
          rw [hf] at hst
          obtain ⟨s, hs⟩ : ∃ s, andT f0 (xs.take k) = s := ⟨_, rfl⟩
          rw [hs] at hs64 hst
          rw [hs]
          have hand := and_natJ s f hs64 hfl
          have HS := Lib.hid hst
          cases hbe
          clear hs hst hf
          go_wp2
          go_round
          case rel => exact ⟨k + 1, by omega, by go_num, by rw [HS.out]; rfl⟩
          case measure => simp [intOf]; omega
        · have E := Lib.hid (show k = xs.length by omega)
          go_wp2
          go_ret
          refine ⟨ret_int ?_, HB1.out⟩
          rw [← HAL.out, E.out, List.take_length]
    · have HE : Hid (conePts n xs = 0) := by show conePts n xs = 0; unfold conePts; rw [if_neg (by rintro ⟨_, h⟩; exact h0 (List.length_pos_iff.2 h))]
      have h0d : ((xs.length : Int) == 0) = true := beq_iff_eq.2 (by omega)
      go_wp2
      go_ret
      exact ⟨ret_int (by rw [HE.out]; rfl), HB1.out⟩

set_option maxRecDepth 100000 in
set_option maxHeartbeats 4000000 in
/-- slices.Grow of the nil slice. -/
theorem growNil_any (n : Nat) (hn : n ≤ 65536) (w : World) :
    Calls Try.prog 74 #[.slice none 0 0, .int .i64 (n : Int)] w fun e w' => ∃ v, e = .returned v ∧ OwnInts w' w.heap.size v [] ∧ Below w.heap.size w w' := by
  obtain ⟨i0, hi, hz0, hz1, hz2⟩ := info_parts info_int
  have h1 : ¬ ((n : Int) < 0) := by omega
  by_cases h0 : n = 0
  · subst h0
    go_enter Try.func74, Try.ntmps74
    go_wp2
    go_ret
    exact ⟨_, rfl, OwnInts.nil _ _, Below.refl _ _⟩
  · have hrz : ∀ ty, (Builtin.append_ #[24, 3] ty #[.slice none 0 0, .int .i64 (n : Int)]).run Try.prog w = _ := fun ty =>
      Lib.run_append_grow_zeros w 24 3 ty 3 i0 (.int .i64 0) .i64 .i64 Try.underlying24 Try.underlying3 hi hz0 none 0 0 [] (run_firstCells_none w.drew i0.size 0 0 0) n (by omega) (by rw [hz1]; decide) (by omega) (by omega) (by rw [hz2]; omega) (growslice_fits (by omega) (by rw [hz2]; omega))
    have h4 : (n : Int) > 0 := by omega
    have hge : 0 + n ≤ grownCap w (0 + n) 0 3 := grownCap_ge w _ _ _
    have hle := grownCap_le_maxLen w (0 + n) 0 3 (by unfold maxLen; omega)
    obtain ⟨G, hG⟩ : ∃ G, grownCap w (0 + n) 0 3 = G := ⟨_, rfl⟩
    rw [hG] at hrz hge hle
    unfold maxLen at hle
    obtain ⟨Z, hZ⟩ : ∃ Z : Array Value, ((([] : List Value).toArray) ++ Builtin.zeroCells (Value.int IntKind.i64 0).cells n ++ Builtin.zeroCells (Value.int IntKind.i64 0).cells (G - (0 + n))) = Z := ⟨_, rfl⟩
    have hzs : Z.size = G := by
      rw [← hZ, Array.size_append, Array.size_append, size_zeroCells, size_zeroCells]
      simp [Value.cells]
      omega
    rw [hZ] at hrz
    clear hZ
    have hO : OwnInts (w.drew.alloc (.cells Z 3)) w.heap.size (.slice (some ⟨w.heap.size, 0, none⟩) 0 G) [] := by
      unfold OwnInts World.ownsRow
      exact ⟨rfl, .inr ⟨w.heap.size, G, Z, rfl, Nat.le_refl _, heap_alloc_new w.drew _, Nat.zero_le _, by unfold maxLen; omega, by omega, by simp⟩⟩
    have HO : Hid (OwnInts (w.alloc (.cells Z 3)).drew w.heap.size (.slice (some ⟨w.heap.size, 0, none⟩) 0 G) []) := Lib.hid hO
    have HB : Hid (Below w.heap.size w (w.alloc (.cells Z 3)).drew) := Lib.hid ((bdrew1 w).alloc (Nat.le_refl _) _)
    have HRZ := Lib.hid hrz
    clear hO hG hrz
    go_enter Try.func74, Try.ntmps74
    go_wp2_with (at_builtin; refine Lib.wpList_append_run _ rfl _ _ _ _ rfl _ _ rfl rfl _ _ (HRZ.out _) ?_)
    go_ret
    exact ⟨_, rfl, HO.out, HB.out⟩

end Go.Proofs.Ythobncbggaggjaa

/-! WALKS of chapter 6 by impl: the library's Concat of a row of slices. -/

namespace Go.Proofs.Ythobncbggaggjaa
open Go.RowKit
open Sets Lin Hom Join

/-- A row of slices of numbers from the head of block b. -/
def SlAt (w : World) (b : Nat) (rs : List (Option Addr × Nat × List Int)) : Prop := ∀ j, j < rs.length → ∃ a c xs, rs.getD j (none, 0, []) = (a, c, xs) ∧ w.cell? ⟨b, j, none⟩ = some (.slice a xs.length c) ∧ Ints w a xs ∧ xs.length ≤ 64
theorem SlAt.keeps {w w' : World} {b : Nat} {rs : List (Option Addr × Nat × List Int)} (h : SlAt w b rs) (hb : Below w.heap.size w w') : SlAt w' b rs := fun j hj => by
  obtain ⟨a, c, xs, e, h1, h2, h3⟩ := h j hj
  exact ⟨a, c, xs, e, (hb.cell (p := ⟨b, j, none⟩) (World.block_lt_of_cell? w _ h1)).trans h1, h2.keeps hb, h3⟩
def catL (rs : List (Option Addr × Nat × List Int)) : List Int := rs.flatMap fun r => r.2.2
theorem catL_next (rs : List (Option Addr × Nat × List Int)) (k : Nat) (h : k < rs.length) : catL (rs.take (k + 1)) = catL (rs.take k) ++ (rs.getD k (none, 0, [])).2.2 := by
  unfold catL
  rw [List.take_add_one, List.flatMap_append]
  simp [List.getD, List.getElem?_eq_getElem h]

set_option maxRecDepth 100000 in
set_option maxHeartbeats 4000000 in
theorem concat_any (b c : Nat) (rs : List (Option Addr × Nat × List Int)) (hl : rs.length ≤ 64) (w : World) (h : SlAt w b rs) :
    Calls Try.prog 45 #[.slice (some ⟨b, 0, none⟩) rs.length c] w fun e w' => ∃ v, e = .returned v ∧ OwnInts w' w.heap.size v (catL rs) ∧ Below w.heap.size w w' := by
  obtain ⟨i0, hi, hz0, hz1, hz2⟩ := info_parts info_int
  have HP := Lib.hid h
  clear h
  go_enter Try.func45, Try.ntmps45
  go_wp2
  go_loop [3, 11] (fun s i => ∃ k z : Nat, k ≤ rs.length ∧ i = .int .i64 (k : Int) ∧ s = .int .i64 (z : Int) ∧ z = (catL (rs.take k)).length ∧ z ≤ 64 * k) (fun _ i => rs.length - (intOf i).toNat)
  case atStart => exact ⟨0, 0, Nat.zero_le _, rfl, rfl, rfl, by omega⟩
  case round =>
    obtain ⟨k, z, hk, rfl, rfl, hz, hz64⟩ := hrel
    have HZ := Lib.hid hz
    clear hz
    by_cases hlt : k < rs.length
    · obtain ⟨a, pc, xs, e, h1, h2, h3⟩ := HP.out k hlt
      have hnx := catL_next rs k hlt
      rw [e] at hnx
      dsimp only at hnx
      have HS : Hid (z + xs.length = (catL (rs.take (k + 1))).length) := Lib.hid (by rw [hnx, List.length_append, HZ.out])
      have hw : wrap64 ((z : Int) + (xs.length : Int)) = (z : Int) + (xs.length : Int) := IntWalk.wrap64_in _ (by omega)
      have hng : ¬ ((z : Int) + (xs.length : Int) < 0) := by omega
      clear e hnx h2
      go_wp2
      go_round
      case rel => exact ⟨k + 1, z + xs.length, by omega, by go_num, by first | rfl | (congr 1; omega), HS.out, by omega⟩
      case measure => simp [intOf]; omega
    · have E := Lib.hid (show k = rs.length by omega)
      go_wp2_with fail
      refine (growNil_any z (by omega) _).mono ?_
      rintro e w1 ⟨v, rfl, hO, hb1⟩
      have HO0 := Lib.hid hO
      have HB0 := Lib.hid hb1
      clear hO hb1
      go_wp2
      go_loopw [6, 8, 27] (fun v u i wr => ∃ k : Nat, k ≤ rs.length ∧ i = .int .i64 (k : Int) ∧ OwnInts wr w.heap.size v (catL (rs.take k)) ∧ (catL (rs.take k)).length ≤ 64 * k ∧ Below w.heap.size w wr) (fun _ _ i _ => rs.length - (intOf i).toNat)
      case atStart => exact ⟨0, Nat.zero_le _, rfl, HO0.out, Nat.zero_le _, HB0.out⟩
      case round =>
        clear HZ hz64 hlt E HO0 hk
        obtain ⟨k, hk, rfl, hO, hkl, hB⟩ := hrel
        have HO := Lib.hid hO
        unfold OwnInts at HO
        have HB := Lib.hid hB
        have hsz := hB.size
        obtain ⟨wo, rfl⟩ : ∃ wo : World, wo = wr := ⟨_, rfl⟩
        clear hO
        by_cases hlt : k < rs.length
        · obtain ⟨a, pc, xs, e, h1, h2, h3⟩ := HP.out.keeps hB k hlt
          have hnx := catL_next rs k hlt
          rw [e] at hnx
          have HNX := Lib.hid (show catL (rs.take (k + 1)) = catL (rs.take k) ++ xs from hnx)
          have HI := Lib.hid h2
          clear e hnx h2 hB
          go_wp2_with (at_builtin; refine wpList_append_src rfl _ _ 24 rfl w.heap.size 3 i0 (.int .i64 0) Try.underlying24 hi hz0 hz1 hz2 rfl _ _ _ rfl HO.out a pc xs rfl HI.out ?c1 ?c2 ?c3 ?_)
          case c1 => unfold maxLen; omega
          case c2 => omega
          case c3 => omega
          intro v' w3 hown1 hgrow
          have hB3 := HB.out.grown hgrow (by omega) (fun g hg => (HO.out.lt g hg).1)
          have hO5 : OwnInts w3 w.heap.size v' (catL (rs.take (k + 1))) := by
            rw [HNX.out]
            unfold OwnInts
            rw [List.length_append, List.map_append]
            exact hown1
          have hl5 : (catL (rs.take (k + 1))).length ≤ 64 * (k + 1) := by rw [HNX.out, List.length_append]; omega
          have HO5 := Lib.hid hO5
          have HB5 := Lib.hid hB3
          have HL5 := Lib.hid hl5
          clear hown1 hgrow hO5 hB3 hl5
          go_wp2
          go_roundw
          case rel => exact ⟨k + 1, by omega, by go_num, HO5.out, HL5.out, HB5.out⟩
          case measure => simp [intOf]; omega
        · have E := Lib.hid (show k = rs.length by omega)
          clear hB
          go_wp2
          go_ret
          exact ⟨_, rfl, by have h2 : OwnInts wo w.heap.size _ (catL (rs.take k)) := HO.out; rw [E.out, List.take_length] at h2; exact h2, HB.out⟩

/-- Concat of two slices that lie side by side in a new row. -/
theorem concat2_any (pa pb : Option Addr) (ca cb : Nat) (xs ys : List Int) (hlx : xs.length ≤ 64) (hly : ys.length ≤ 64) (V : World) (hx : Ints V pa xs) (hy : Ints V pb ys) :
    Calls Try.prog 45 #[.slice (some ⟨V.heap.size, 0, none⟩) 2 2] (V.alloc (.cells #[.slice pa xs.length ca, .slice pb ys.length cb] 24)) fun e w' => ∃ a c, e = .returned (.slice a (xs ++ ys).length c) ∧ Ints w' a (xs ++ ys) ∧ Below V.heap.size V w' := by
  obtain ⟨U, hU⟩ : ∃ U, V.alloc (.cells #[.slice pa xs.length ca, .slice pb ys.length cb] 24) = U := ⟨_, rfl⟩
  have hbu : Below V.heap.size V U := by rw [← hU]; exact (Below.refl _ _).alloc (Nat.le_refl _) _
  have hcell : ∀ j u, (#[.slice pa xs.length ca, .slice pb ys.length cb] : Array Value)[j]? = some u → U.cell? ⟨V.heap.size, j, none⟩ = some u := fun j u hu => by
    rw [← hU, World.cell?_alloc_new]; exact hu
  have hps : SlAt U V.heap.size [(pa, ca, xs), (pb, cb, ys)] := fun j hj => by
    have hj : j < 2 := hj
    rcases (by omega : j = 0 ∨ j = 1) with rfl | rfl
    · exact ⟨pa, ca, xs, rfl, hcell 0 _ rfl, hx.keeps hbu, hlx⟩
    · exact ⟨pb, cb, ys, rfl, hcell 1 _ rfl, hy.keeps hbu, hly⟩
  have hQ := concat_any V.heap.size 2 [(pa, ca, xs), (pb, cb, ys)] (by show 2 ≤ 64; decide) U hps
  rw [show catL [(pa, ca, xs), (pb, cb, ys)] = xs ++ ys by unfold catL; simp] at hQ
  rw [hU]
  refine hQ.mono ?_
  rintro e w' ⟨v, rfl, hO, hb⟩
  obtain ⟨a2, c2, g2, rfl, _, _, hr, _⟩ := OwnInts.ata hO hb.size
  exact ⟨a2, c2, rfl, hr.ints, hbu.trans (hb.mono hbu.size)⟩

end Go.Proofs.Ythobncbggaggjaa
