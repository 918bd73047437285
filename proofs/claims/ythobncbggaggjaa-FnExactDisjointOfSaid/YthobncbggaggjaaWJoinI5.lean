/-
  WALKS of chapter 6 by impl: JoinOf, the points of all facets.
-/
import Derived.Test.YthobncbggaggjaaWJoinI4
import Derived.Deep.RegionHeld3
import Derived.Deep.RegionLaw
namespace Go.Proofs.Ythobncbggaggjaa
open Go.RowKit
open Sets Lin Hom Join

theorem few_setB {n : Int} (hn : 0 ≤ n) (hn6 : n ≤ 6) {xs : List Int} (h : Few n.toNat xs) : ∀ x, x ∈ xs → setB n x = true := fun x hx => by
  obtain ⟨f, rfl, hf⟩ := h.1 x hx
  have hp : (2 : Int) ^ n.toNat = ((2 ^ n.toNat : Nat) : Int) := by push_cast; rfl
  have := Nat.pow_le_pow_right (n := 2) (by decide) (show n.toNat ≤ 6 by omega)
  unfold setB
  rw [decide_eq_true_eq, hp]
  refine ⟨?_, ?_, ?_, ?_⟩ <;> omega
theorem fit_two (n m : Int) (pa pb : Option Addr) (ca cb : Nat) (xs ys : List Int) : fitB [(n, pa, ca, xs), (m, pb, cb, ys)] = joinOk n m xs ys := by
  unfold fitB allC sumN joinOk
  simp
theorem pairs_one (xs : List Int) : pairs 0 [0] xs = xs := by
  unfold pairs
  simp
theorem acc_two (n m : Int) (pa pb : Option Addr) (ca cb : Nat) (xs ys : List Int) : accL [(n, pa, ca, xs), (m, pb, cb, ys)] = (n.toNat + m.toNat, pairs n.toNat xs ys) := by
  unfold accL
  simp [pairs_one]
theorem all_two (n m : Int) (pa pb : Option Addr) (ca cb : Nat) (xs ys : List Int) : allO [(n, pa, ca, xs), (m, pb, cb, ys)] = joinO n m xs ys := by
  unfold allO joinO
  rw [fit_two, acc_two]
  cases h : joinOk n m xs ys with
  | false => rw [if_neg (by decide), partJ_no rfl]
  | true =>
    obtain ⟨hx, hy, hnm⟩ := (joinOk_iff n m xs ys).1 h
    have hn := isC_n hx
    have hm := isC_n hy
    have hf : Few (n + m).toNat (pairs n.toNat xs ys) := by
      rw [show (n + m).toNat = n.toNat + m.toNat by omega]
      exact few_pairs (few_isC hx) (few_isC hy)
    have hle : (pairs n.toNat xs ys).length ≤ 64 := by
      have q1 := hf.2
      have q2 := Nat.pow_le_pow_right (n := 2) (by decide) (show (n + m).toNat ≤ 6 by omega)
      omega
    rw [if_pos rfl, partJ_yes rfl, show sumN [(n, pa, ca, xs), (m, pb, cb, ys)] = n + m by unfold sumN; simp]
    rw [made_yes ((setsOf_iff _ _).2 ⟨(inB_iff _ _ _).2 (by omega), hle, few_setB (by omega) hnm hf⟩), pairs_max h]
theorem parts_two {w : World} {b : Nat} (n m : Int) (pa pb : Option Addr) (ca cb : Nat) (xs ys : List Int) (h0 : w.cell? ⟨b, 0, none⟩ = some (.int .i64 n)) (h1 : w.cell? ⟨b, 1, none⟩ = some (.slice pa xs.length ca)) (h2 : w.cell? ⟨b, 2, none⟩ = some (.int .i64 m)) (h3 : w.cell? ⟨b, 3, none⟩ = some (.slice pb ys.length cb))
    (hca : xs.length ≤ ca) (hcb : ys.length ≤ cb) (hlx : xs.length ≤ 1099511627776) (hly : ys.length ≤ 1099511627776) (hx : Ints w pa xs) (hy : Ints w pb ys) : PartsAt w b [(n, pa, ca, xs), (m, pb, cb, ys)] := fun j hj => by
  have hj : j < 2 := hj
  rcases (by omega : j = 0 ∨ j = 1) with rfl | rfl
  · exact ⟨n, pa, ca, xs, rfl, h0, h1, hx, hca, hlx⟩
  · exact ⟨m, pb, cb, ys, rfl, h2, h3, hy, hcb, hly⟩

/-- The join of two parts that lie side by side in a new row. -/
theorem join2_any (n m : Int) (pa pb : Option Addr) (ca cb : Nat) (xs ys : List Int) (hca : xs.length ≤ ca) (hcb : ys.length ≤ cb) (hlx : xs.length ≤ 1099511627776) (hly : ys.length ≤ 1099511627776) (V : World) (hx : Ints V pa xs) (hy : Ints V pb ys) :
    Calls Try.prog 40 #[.slice (some ⟨V.heap.size, 0, none⟩) 2 2] (V.alloc (.cells #[.int .i64 n, .slice pa xs.length ca, .int .i64 m, .slice pb ys.length cb] 26)) fun e w' => ∃ a c, e = .returned (.tuple #[cx (oN (joinO n m xs ys)) (.slice a (oL (joinO n m xs ys)).length c), .bool (joinO n m xs ys).isSome]) ∧ OwnInts w' V.heap.size (.slice a (oL (joinO n m xs ys)).length c) (oL (joinO n m xs ys)) ∧ Below V.heap.size V w' := by
  obtain ⟨U, hU⟩ : ∃ U, V.alloc (.cells #[.int .i64 n, .slice pa xs.length ca, .int .i64 m, .slice pb ys.length cb] 26) = U := ⟨_, rfl⟩
  have hbu : Below V.heap.size V U := by rw [← hU]; exact (Below.refl _ _).alloc (Nat.le_refl _) _
  have hps : PartsAt U V.heap.size [(n, pa, ca, xs), (m, pb, cb, ys)] := by
    have hcell : ∀ j u, (#[.int .i64 n, .slice pa xs.length ca, .int .i64 m, .slice pb ys.length cb] : Array Value)[j]? = some u → U.cell? ⟨V.heap.size, j, none⟩ = some u := fun j u hu => by
      rw [← hU, World.cell?_alloc_new]; exact hu
    exact parts_two n m pa pb ca cb xs ys (hcell 0 _ rfl) (hcell 1 _ rfl) (hcell 2 _ rfl) (hcell 3 _ rfl) hca hcb hlx hly (hx.keeps hbu) (hy.keeps hbu)
  have hQ := joinAll_any V.heap.size 2 [(n, pa, ca, xs), (m, pb, cb, ys)] (by show 2 ≤ 6; decide) U hps
  rw [all_two] at hQ
  rw [hU]
  refine hQ.mono ?_
  rintro e w' ⟨v, rfl, hO, hb⟩
  obtain ⟨a2, c2, g2, rfl, _⟩ := OwnInts.ata hO hb.size
  exact ⟨a2, c2, rfl, hO.lower hbu.size, hbu.trans (hb.mono hbu.size)⟩
theorem onePoint_at (w : World) : Calls Try.prog 49 #[] w fun e w' => ∃ a c, e = .returned (cx 1 (.slice a 1 c)) ∧ 1 ≤ c ∧ Ints w' a [1] ∧ Below w.heap.size w w' := by
  refine (onePoint_any w).mono ?_
  rintro e w' ⟨v, rfl, hO, hb⟩
  obtain ⟨a, c, g, rfl, hc, _, hr, _⟩ := OwnInts.ata hO hb.size
  exact ⟨a, c, rfl, hc, hr.ints, hb⟩
theorem twoPoints_at (w : World) : Calls Try.prog 50 #[] w fun e w' => ∃ a c, e = .returned (cx 2 (.slice a 2 c)) ∧ 2 ≤ c ∧ Ints w' a [1, 2] ∧ Below w.heap.size w w' := by
  refine (twoPoints_any w).mono ?_
  rintro e w' ⟨v, rfl, hO, hb⟩
  obtain ⟨a, c, g, rfl, hc, _, hr, _⟩ := OwnInts.ata hO hb.size
  exact ⟨a, c, rfl, hc, hr.ints, hb⟩

set_option maxRecDepth 100000 in
set_option maxHeartbeats 4000000 in
theorem implJoin_any (n m : Int) (pa pb : Option Addr) (ca cb : Nat) (xs ys : List Int) (hca : xs.length ≤ ca) (hcb : ys.length ≤ cb) (hlx : xs.length ≤ 1099511627776) (hly : ys.length ≤ 1099511627776) (w : World) (hx : Ints w pa xs) (hy : Ints w pb ys) :
    Calls Try.prog 12 #[cx n (.slice pa xs.length ca), cx m (.slice pb ys.length cb)] w fun e w' => ∃ v, e = .returned (.tuple #[cx (oN (joinO n m xs ys)) v, .bool (joinO n m xs ys).isSome]) ∧ OwnInts w' w.heap.size v (oL (joinO n m xs ys)) ∧ Below w.heap.size w w' := by
  have hb0 : Below w.heap.size w (((w.alloc (.cells #[.int .i64 n, .slice pa xs.length ca] 26)).alloc (.cells #[.int .i64 m, .slice pb ys.length cb] 26)).alloc (.cells #[.int .i64 0, .slice none 0 0] 26)) := (((Below.refl _ _).alloc (Nat.le_refl _) _).alloc (by simp) _).alloc (by simp; omega) _
  have htr := Two.new ((w.alloc (.cells #[.int .i64 n, .slice pa xs.length ca] 26)).alloc (.cells #[.int .i64 m, .slice pb ys.length cb] 26)) (.int .i64 0) (.slice none 0 0) 26
  have hQ := join2_any n m pa pb ca cb xs ys hca hcb hlx hly (((w.alloc (.cells #[.int .i64 n, .slice pa xs.length ca] 26)).alloc (.cells #[.int .i64 m, .slice pb ys.length cb] 26)).alloc (.cells #[.int .i64 0, .slice none 0 0] 26)) (hx.keeps hb0) (hy.keeps hb0)
  generalize joinO n m xs ys = o at hQ ⊢
  have hvz : (((w.alloc (.cells #[.int .i64 n, .slice pa xs.length ca] 26)).alloc (.cells #[.int .i64 m, .slice pb ys.length cb] 26)).alloc (.cells #[.int .i64 0, .slice none 0 0] 26)).heap.size = w.heap.size + 1 + 1 + 1 := by simp
  rw [hvz] at hQ
  simp only [World.size_alloc] at htr
  have HQ := Lib.hid hQ
  have TR := Lib.hid htr
  have HB0 := Lib.hid hb0
  clear hx hy hQ htr hb0 hvz
  go_enter Try.func12, Try.ntmps12
  go_wp2_with fail
  refine HQ.out.mono ?_
  rintro e w6 ⟨a2, c2, rfl, hO2, hb6⟩
  have hb7 : Below (((w.alloc (.cells #[.int .i64 n, .slice pa xs.length ca] 26)).alloc (.cells #[.int .i64 m, .slice pb ys.length cb] 26)).alloc (.cells #[.int .i64 0, .slice none 0 0] 26)).heap.size (((w.alloc (.cells #[.int .i64 n, .slice pa xs.length ca] 26)).alloc (.cells #[.int .i64 m, .slice pb ys.length cb] 26)).alloc (.cells #[.int .i64 0, .slice none 0 0] 26)) w6 := by simpa using hb6
  obtain ⟨r0, r1, r2, r3, r4⟩ := TR.out.keeps hb7
  have HO2 := Lib.hid hO2
  have HB6 : Hid (Below w.heap.size w w6) := HB0.out.trans (hb7.mono HB0.out.size)
  clear hO2 hb6 hb7
  go_wp2
  refine ret_cx2 (w.heap.size + 1 + 1) rfl rfl rfl (x := .int .i64 (oN o)) (y := .slice a2 (oL o).length c2) (by go_simp) (by go_simp) rfl ?_
  exact ⟨_, rfl, (OwnInts.set (OwnInts.set HO2.out _ _ _ (by omega)) _ _ _ (by omega)).lower (by omega), (HB6.out.setCell (by dsimp only; omega) _).setCell (by dsimp only; omega) _⟩

set_option maxRecDepth 100000 in
set_option maxHeartbeats 4000000 in
theorem implCone_any (n : Int) (pa : Option Addr) (ca : Nat) (xs : List Int) (hca : xs.length ≤ ca) (hlx : xs.length ≤ 1099511627776) (w : World) (hx : Ints w pa xs) :
    Calls Try.prog 18 #[cx n (.slice pa xs.length ca)] w fun e w' => ∃ v, e = .returned (.tuple #[cx (oN (joinO n 1 xs [1])) v, .bool (joinO n 1 xs [1]).isSome]) ∧ OwnInts w' w.heap.size v (oL (joinO n 1 xs [1])) ∧ Below w.heap.size w w' := by
  have hb0 : Below w.heap.size w ((w.alloc (.cells #[.int .i64 n, .slice pa xs.length ca] 26)).alloc (.cells #[.int .i64 0, .slice none 0 0] 26)) := ((Below.refl _ _).alloc (Nat.le_refl _) _).alloc (by simp) _
  have hta := (Two.new w (.int .i64 n) (.slice pa xs.length ca) 26).alloc (.cells #[.int .i64 0, .slice none 0 0] 26)
  have htr := Two.new (w.alloc (.cells #[.int .i64 n, .slice pa xs.length ca] 26)) (.int .i64 0) (.slice none 0 0) 26
  simp only [World.size_alloc] at htr
  have hX := hx.keeps hb0
  have hvz : ((w.alloc (.cells #[.int .i64 n, .slice pa xs.length ca] 26)).alloc (.cells #[.int .i64 0, .slice none 0 0] 26)).heap.size = w.heap.size + 1 + 1 := by simp
  have hQ := fun (pb : Option Addr) (cb : Nat) (hcb : 1 ≤ cb) (V : World) (h1 : Ints V pa xs) (h2 : Ints V pb [1]) => join2_any n 1 pa pb ca cb xs [1] hca hcb hlx (by decide) V h1 h2
  generalize joinO n 1 xs [1] = o at hQ ⊢
  have HQ := Lib.hid hQ
  have k0 := hta.2.1
  have k1 := hta.2.2.1
  clear hx hQ
  go_enter Try.func18, Try.ntmps18
  go_wp2_with fail
  generalize ((w.alloc (.cells #[.int .i64 n, .slice pa xs.length ca] 26)).alloc (.cells #[.int .i64 0, .slice none 0 0] 26)) = V at *
  have TA := Lib.hid hta
  have TR := Lib.hid htr
  have HB0 := Lib.hid hb0
  have HX := Lib.hid hX
  clear hta htr hb0 hX
  go_region_law (first | (go_simp; go_at_call 49; refine (onePoint_at _).mono ?_; rintro e w1 ⟨a1, c1, rfl, hc1, hr1, hb1⟩; have HB1 : Hid (Below V.heap.size V w1) := Lib.hid ((bdrew1 V).trans hb1); have HR1 := Lib.hid hr1; have hta1 := TA.out.keeps HB1.out; have s0 := hta1.2.1; have s1 := hta1.2.2.1; clear hr1 hb1 hta1) | (go_simp; go_at_call 40; refine (HQ.out a1 c1 hc1 w1 (HX.out.keeps HB1.out) HR1.out).mono ?_; rintro e w2 ⟨a2, c2, rfl, hO2, hb2⟩; have HO2 := Lib.hid hO2; have HB2 : Hid (Below V.heap.size V w2) := Lib.hid (HB1.out.trans (hb2.mono HB1.out.size)); have hz1 := HB1.out.size; have htr2 := TR.out.keeps HB2.out; obtain ⟨r0, r1, r2, r3, r4⟩ := htr2; clear hO2 hb2) | fail "arm")
  all_goals
    go_wp2
    refine ret_cx2 (w.heap.size + 1) rfl rfl rfl (x := .int .i64 (oN o)) (y := .slice a2 (oL o).length c2) (by go_simp) (by go_simp) rfl ?_
    exact ⟨_, rfl, (OwnInts.set (OwnInts.set HO2.out _ _ _ (by omega)) _ _ _ (by omega)).lower (by omega), ((HB0.out.trans (HB2.out.mono HB0.out.size)).setCell (by dsimp only; omega) _).setCell (by dsimp only; omega) _⟩

set_option maxRecDepth 100000 in
set_option maxHeartbeats 4000000 in
theorem implSusp_any (n : Int) (pa : Option Addr) (ca : Nat) (xs : List Int) (hca : xs.length ≤ ca) (hlx : xs.length ≤ 1099511627776) (w : World) (hx : Ints w pa xs) :
    Calls Try.prog 20 #[cx n (.slice pa xs.length ca)] w fun e w' => ∃ v, e = .returned (.tuple #[cx (oN (joinO n 2 xs [1, 2])) v, .bool (joinO n 2 xs [1, 2]).isSome]) ∧ OwnInts w' w.heap.size v (oL (joinO n 2 xs [1, 2])) ∧ Below w.heap.size w w' := by
  have hb0 : Below w.heap.size w ((w.alloc (.cells #[.int .i64 n, .slice pa xs.length ca] 26)).alloc (.cells #[.int .i64 0, .slice none 0 0] 26)) := ((Below.refl _ _).alloc (Nat.le_refl _) _).alloc (by simp) _
  have hta := (Two.new w (.int .i64 n) (.slice pa xs.length ca) 26).alloc (.cells #[.int .i64 0, .slice none 0 0] 26)
  have htr := Two.new (w.alloc (.cells #[.int .i64 n, .slice pa xs.length ca] 26)) (.int .i64 0) (.slice none 0 0) 26
  simp only [World.size_alloc] at htr
  have hX := hx.keeps hb0
  have hvz : ((w.alloc (.cells #[.int .i64 n, .slice pa xs.length ca] 26)).alloc (.cells #[.int .i64 0, .slice none 0 0] 26)).heap.size = w.heap.size + 1 + 1 := by simp
  have hQ := fun (pb : Option Addr) (cb : Nat) (hcb : 2 ≤ cb) (V : World) (h1 : Ints V pa xs) (h2 : Ints V pb [1, 2]) => join2_any n 2 pa pb ca cb xs [1, 2] hca hcb hlx (by decide) V h1 h2
  generalize joinO n 2 xs [1, 2] = o at hQ ⊢
  have HQ := Lib.hid hQ
  have k0 := hta.2.1
  have k1 := hta.2.2.1
  clear hx hQ
  go_enter Try.func20, Try.ntmps20
  go_wp2_with fail
  generalize ((w.alloc (.cells #[.int .i64 n, .slice pa xs.length ca] 26)).alloc (.cells #[.int .i64 0, .slice none 0 0] 26)) = V at *
  have TA := Lib.hid hta
  have TR := Lib.hid htr
  have HB0 := Lib.hid hb0
  have HX := Lib.hid hX
  clear hta htr hb0 hX
  go_region_law (first | (go_simp; go_at_call 50; refine (twoPoints_at _).mono ?_; rintro e w1 ⟨a1, c1, rfl, hc1, hr1, hb1⟩; have HB1 : Hid (Below V.heap.size V w1) := Lib.hid ((bdrew1 V).trans hb1); have HR1 := Lib.hid hr1; have hta1 := TA.out.keeps HB1.out; have s0 := hta1.2.1; have s1 := hta1.2.2.1; clear hr1 hb1 hta1) | (go_simp; go_at_call 40; refine (HQ.out a1 c1 hc1 w1 (HX.out.keeps HB1.out) HR1.out).mono ?_; rintro e w2 ⟨a2, c2, rfl, hO2, hb2⟩; have HO2 := Lib.hid hO2; have HB2 : Hid (Below V.heap.size V w2) := Lib.hid (HB1.out.trans (hb2.mono HB1.out.size)); have hz1 := HB1.out.size; have htr2 := TR.out.keeps HB2.out; obtain ⟨r0, r1, r2, r3, r4⟩ := htr2; clear hO2 hb2) | fail "arm")
  all_goals
    go_wp2
    refine ret_cx2 (w.heap.size + 1) rfl rfl rfl (x := .int .i64 (oN o)) (y := .slice a2 (oL o).length c2) (by go_simp) (by go_simp) rfl ?_
    exact ⟨_, rfl, (OwnInts.set (OwnInts.set HO2.out _ _ _ (by omega)) _ _ _ (by omega)).lower (by omega), ((HB0.out.trans (HB2.out.mono HB0.out.size)).setCell (by dsimp only; omega) _).setCell (by dsimp only; omega) _⟩

end Go.Proofs.Ythobncbggaggjaa
