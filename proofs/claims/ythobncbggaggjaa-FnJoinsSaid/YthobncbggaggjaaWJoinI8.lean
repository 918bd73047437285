/-
  WALKS of chapter 6 by impl: DisjointOf.
-/
import Derived.Test.YthobncbggaggjaaJg42
namespace Go.Proofs.Ythobncbggaggjaa
open Go.RowKit
open Sets Lin Hom Join

/-- Whether two parts that lie side by side in a new row fit together. -/
theorem fit2_any (n m : Int) (pa pb : Option Addr) (ca cb : Nat) (xs ys : List Int) (hca : xs.length ≤ ca) (hcb : ys.length ≤ cb) (hlx : xs.length ≤ 1099511627776) (hly : ys.length ≤ 1099511627776) (v : Bool) (hv : joinOk n m xs ys = v) (V : World) (hx : Ints V pa xs) (hy : Ints V pb ys) :
    Calls Try.prog 43 #[.slice (some ⟨V.heap.size, 0, none⟩) 2 2] (V.alloc (.cells #[.int .i64 n, .slice pa xs.length ca, .int .i64 m, .slice pb ys.length cb] 26)) fun e w' => e = .returned (.bool v) ∧ Below V.heap.size V w' := by
  obtain ⟨U, hU⟩ : ∃ U, V.alloc (.cells #[.int .i64 n, .slice pa xs.length ca, .int .i64 m, .slice pb ys.length cb] 26) = U := ⟨_, rfl⟩
  have hbu : Below V.heap.size V U := by rw [← hU]; exact (Below.refl _ _).alloc (Nat.le_refl _) _
  have hps : PartsAt U V.heap.size [(n, pa, ca, xs), (m, pb, cb, ys)] := by
    have hcell : ∀ j u, (#[.int .i64 n, .slice pa xs.length ca, .int .i64 m, .slice pb ys.length cb] : Array Value)[j]? = some u → U.cell? ⟨V.heap.size, j, none⟩ = some u := fun j u hu => by
      rw [← hU, World.cell?_alloc_new]; exact hu
    exact parts_two n m pa pb ca cb xs ys (hcell 0 _ rfl) (hcell 1 _ rfl) (hcell 2 _ rfl) (hcell 3 _ rfl) hca hcb hlx hly (hx.keeps hbu) (hy.keeps hbu)
  have hQ := fitTogether_b V.heap.size 2 [(n, pa, ca, xs), (m, pb, cb, ys)] v (by rw [fit_two]; exact hv) (by show 2 ≤ 6; decide) U hps
  rw [hU]
  refine hQ.mono ?_
  rintro e w' ⟨rfl, hb⟩
  exact ⟨rfl, hbu.trans (hb.mono hbu.size)⟩

theorem cell_set2 {w : World} {b b' o : Nat} {u : Value} (hne : b ≠ b') (h : w.cell? ⟨b, o, none⟩ = some u) (x y : Value) : ((w.setCell ⟨b', 0, none⟩ x).setCell ⟨b', 1, none⟩ y).cell? ⟨b, o, none⟩ = some u := by
  rw [World.cell?_setCell_other _ _ _ _ (by intro e; exact hne ((by injection e : b' = b).symm)), World.cell?_setCell_other _ _ _ _ (by intro e; exact hne ((by injection e : b' = b).symm))]
  exact h
theorem both_mov (nn : Nat) (xs ys : List Int) : both nn xs ys = xs ++ movL nn ys := rfl
theorem made_both {n m : Int} {xs ys : List Int} (h : joinOk n m xs ys = true) : made (n + m) (both n.toNat xs ys) = some (n + m, maxQ (disQ n.toNat (inF xs) (inF ys))) := by
  obtain ⟨hx, hy, hnm⟩ := (joinOk_iff n m xs ys).1 h
  have hn := isC_n hx
  have hm := isC_n hy
  have q1 := isC_le2 hx
  have q2 := isC_le2 hy
  have q3 := Nat.pow_le_pow_right (n := 2) (by decide) (show n.toNat ≤ 5 by omega)
  have q4 := Nat.pow_le_pow_right (n := 2) (by decide) (show m.toNat ≤ 5 by omega)
  rw [made_yes ((setsOf_iff _ _).2 ⟨(inB_iff _ _ _).2 (by omega), by rw [both_mov, List.length_append, movL_length]; omega, fun z hz => ?_⟩), both_max h]
  have hF : ∃ f : Nat, z = (f : Int) ∧ f < 2 ^ (n.toNat + m.toNat) := by
    rcases List.mem_append.1 hz with hz | hz
    · obtain ⟨f, e, hf⟩ := isC_nat hx z hz
      exact ⟨f, e, Nat.lt_of_lt_of_le hf (Nat.pow_le_pow_right (by decide) (by omega))⟩
    · obtain ⟨y, hy', rfl⟩ := List.mem_map.1 hz
      obtain ⟨g, rfl, hg⟩ := isC_nat hy y hy'
      refine ⟨2 ^ n.toNat * g, by push_cast; rfl, ?_⟩
      rw [Nat.pow_add]
      exact Nat.mul_lt_mul_of_pos_left hg (Nat.two_pow_pos _)
  obtain ⟨f, rfl, hf⟩ := hF
  rw [show n.toNat + m.toNat = (n + m).toNat by omega] at hf
  have hp : (2 : Int) ^ (n + m).toNat = ((2 ^ (n + m).toNat : Nat) : Int) := by push_cast; rfl
  unfold setB
  rw [decide_eq_true_eq, hp]
  refine ⟨?_, ?_, ?_, ?_⟩ <;> omega

theorem movedUp_at (a : Option Addr) (c : Nat) (xs : List Int) (nn : Nat) (hn : nn ≤ 6) (hx : ∀ k, k < xs.length → ∃ f : Nat, xs.getD k 0 = (f : Int) ∧ 2 ^ nn * f < 64) (hlen : xs.length ≤ 1099511627776) (w : World) (h : Ints w a xs) :
    Calls Try.prog 46 #[.slice a xs.length c, .int .i64 (nn : Int)] w fun e w' => ∃ a1 c1, e = .returned (.slice a1 (movL nn xs).length c1) ∧ Ints w' a1 (movL nn xs) ∧ Below w.heap.size w w' := by
  refine (movedUp_any a c xs nn hn hx hlen w h).mono ?_
  rintro e w' ⟨v, rfl, hO, hb⟩
  obtain ⟨a1, c1, g1, rfl, hc1, _, hr, _⟩ := OwnInts.ata hO hb.size
  exact ⟨a1, c1, rfl, hr.ints, hb⟩

set_option maxRecDepth 100000 in
set_option maxHeartbeats 4000000 in
theorem implDis_any (n m : Int) (pa pb : Option Addr) (ca cb : Nat) (xs ys : List Int) (hca : xs.length ≤ ca) (hcb : ys.length ≤ cb) (hlx : xs.length ≤ 1099511627776) (hly : ys.length ≤ 1099511627776) (w : World) (hx : Ints w pa xs) (hy : Ints w pb ys) :
    Calls Try.prog 15 #[cx n (.slice pa xs.length ca), cx m (.slice pb ys.length cb)] w fun e w' => ∃ v, e = .returned (.tuple #[cx (oN (disO n m xs ys)) v, .bool (disO n m xs ys).isSome]) ∧ OwnInts w' w.heap.size v (oL (disO n m xs ys)) ∧ Below w.heap.size w w' := by
  have hb0 : Below w.heap.size w (((w.alloc (.cells #[.int .i64 n, .slice pa xs.length ca] 26)).alloc (.cells #[.int .i64 m, .slice pb ys.length cb] 26)).alloc (.cells #[.int .i64 0, .slice none 0 0] 26)) := (((Below.refl _ _).alloc (Nat.le_refl _) _).alloc (by simp) _).alloc (by simp; omega) _
  have hta := ((Two.new w (.int .i64 n) (.slice pa xs.length ca) 26).alloc (.cells #[.int .i64 m, .slice pb ys.length cb] 26)).alloc (.cells #[.int .i64 0, .slice none 0 0] 26)
  have htb := (Two.new (w.alloc (.cells #[.int .i64 n, .slice pa xs.length ca] 26)) (.int .i64 m) (.slice pb ys.length cb) 26).alloc (.cells #[.int .i64 0, .slice none 0 0] 26)
  have htr := Two.new ((w.alloc (.cells #[.int .i64 n, .slice pa xs.length ca] 26)).alloc (.cells #[.int .i64 m, .slice pb ys.length cb] 26)) (.int .i64 0) (.slice none 0 0) 26
  simp only [World.size_alloc] at htb htr
  have hvz : (((w.alloc (.cells #[.int .i64 n, .slice pa xs.length ca] 26)).alloc (.cells #[.int .i64 m, .slice pb ys.length cb] 26)).alloc (.cells #[.int .i64 0, .slice none 0 0] 26)).heap.size = w.heap.size + 1 + 1 + 1 := by simp
  have hFT := fun v hv => fit2_any n m pa pb ca cb xs ys hca hcb hlx hly v hv (((w.alloc (.cells #[.int .i64 n, .slice pa xs.length ca] 26)).alloc (.cells #[.int .i64 m, .slice pb ys.length cb] 26)).alloc (.cells #[.int .i64 0, .slice none 0 0] 26)) (hx.keeps hb0) (hy.keeps hb0)
  rw [hvz] at hFT
  have HX := Lib.hid (hx.keeps hb0)
  have HY := Lib.hid (hy.keeps hb0)
  have HFT := Lib.hid hFT
  have TA := Lib.hid hta
  have TB := Lib.hid htb
  have TR := Lib.hid htr
  have HB0 := Lib.hid hb0
  clear hx hy hFT hta htb htr hb0
  cases hok : joinOk n m xs ys with
  | false =>
    have HF := Lib.hid (HFT.out false hok)
    rw [show disO n m xs ys = none from partJ_no hok]
    clear hok HFT
    go_enter Try.func15, Try.ntmps15
    go_wp2_with fail
    refine HF.out.mono ?_
    rintro e w1 ⟨rfl, hb1⟩
    have hb2 : Below (((w.alloc (.cells #[.int .i64 n, .slice pa xs.length ca] 26)).alloc (.cells #[.int .i64 m, .slice pb ys.length cb] 26)).alloc (.cells #[.int .i64 0, .slice none 0 0] 26)).heap.size (((w.alloc (.cells #[.int .i64 n, .slice pa xs.length ca] 26)).alloc (.cells #[.int .i64 m, .slice pb ys.length cb] 26)).alloc (.cells #[.int .i64 0, .slice none 0 0] 26)) w1 := by rw [hvz]; exact hb1
    obtain ⟨r0, r1, r2, r3, r4⟩ := TR.out.keeps hb2
    have HB1 : Hid (Below w.heap.size w w1) := HB0.out.trans (hb2.mono HB0.out.size)
    clear hb1 hb2
    go_wp2
    refine ret_cx2 (w.heap.size + 1 + 1) rfl rfl rfl (x := .int .i64 0) (y := .slice none 0 0) (by go_simp) (by go_simp) rfl ?_
    exact ⟨_, rfl, OwnInts.nil _ _, by first | exact (HB1.out.setCell (by dsimp only; omega) _).setCell (by dsimp only; omega) _ | exact HB1.out⟩
  | true =>
    have HF := Lib.hid (HFT.out true hok)
    rw [show disO n m xs ys = some (n + m, maxQ (disQ n.toNat (inF xs) (inF ys))) from partJ_yes hok]
    obtain ⟨hcx, hcy, hnm⟩ := (joinOk_iff n m xs ys).1 hok
    have hn := isC_n hcx
    have hm := isC_n hcy
    have hxl := isC_le hcx
    have hyl := isC_le hcy
    have HAT := Lib.hid (fun j hj => few_at (few_isC hcy) j hj)
    have hMB := made_both hok
    have hw : IntKind.i64.wrap (n + m) = n + m := IntWalk.i64_in _ (by omega)
    obtain ⟨nn, hnn⟩ : ∃ nn : Nat, (nn : Int) = n := ⟨n.toNat, by omega⟩
    subst hnn
    rw [show ((nn : Int)).toNat = nn from rfl, both_mov] at hMB
    rw [show ((nn : Int)).toNat = nn from rfl]
    have hmv : ∀ j, j < ys.length → ∃ f : Nat, ys.getD j 0 = (f : Int) ∧ 2 ^ nn * f < 64 := fun j hj => by
      obtain ⟨f, e1, e2⟩ := HAT.out j hj
      have q1 : 2 ^ nn * (f + 1) ≤ 2 ^ nn * 2 ^ m.toNat := Nat.mul_le_mul_left _ (by omega)
      rw [← Nat.pow_add, Nat.mul_add] at q1
      have q2 := Nat.pow_le_pow_right (n := 2) (by decide) (show nn + m.toNat ≤ 6 by omega)
      have q3 := Nat.two_pow_pos nn
      exact ⟨f, e1, by omega⟩
    have HMU := Lib.hid (fun W h => movedUp_at pb cb ys nn (by omega) hmv hly W h)
    have HCC := Lib.hid (fun a1 c1 W h1 h2 => concat2_any pa a1 ca c1 xs (movL nn ys) hxl (by rw [movL_length]; exact hyl) W h1 h2)
    have hMK : ∀ a c W, Ints W a (xs ++ movL nn ys) → Calls Try.prog 44 #[.int .i64 (IntKind.i64.wrap ((nn : Int) + m)), .slice a (xs.length + (movL nn ys).length) c] W fun e w' => ∃ a' c', e = .returned (.tuple #[cx ((nn : Int) + m) (.slice a' (maxQ (disQ nn (inF xs) (inF ys))).length c'), .bool true]) ∧ OwnInts w' W.heap.size (.slice a' (maxQ (disQ nn (inF xs) (inF ys))).length c') (maxQ (disQ nn (inF xs) (inF ys))) ∧ Below W.heap.size W w' := fun a c W h => by
      rw [hw, ← List.length_append]
      have h1 := implMake_any ((nn : Int) + m) a c (xs ++ movL nn ys) (by rw [List.length_append, movL_length]; omega) W h
      rw [hMB] at h1
      refine h1.mono ?_
      rintro e w' ⟨v, he, hO, hb⟩
      obtain ⟨a2, c2, g2, hv, _⟩ := OwnInts.ata hO hb.size
      replace hv : v = .slice a2 (maxQ (disQ nn (inF xs) (inF ys))).length c2 := hv
      subst hv
      exact ⟨a2, c2, he, hO, hb⟩
    have HMK := Lib.hid hMK
    obtain ⟨M, hM⟩ : ∃ M, maxQ (disQ nn (inF xs) (inF ys)) = M := ⟨_, rfl⟩
    rw [hM] at HMK
    rw [hM]
    clear hok HFT hcx hcy hMB hw hmv hMK hM HAT
    go_enter Try.func15, Try.ntmps15
    go_wp2_with fail
    refine HF.out.mono ?_
    rintro e V ⟨rfl, hb1⟩
    have hb2 : Below (((w.alloc (.cells #[.int .i64 (nn : Int), .slice pa xs.length ca] 26)).alloc (.cells #[.int .i64 m, .slice pb ys.length cb] 26)).alloc (.cells #[.int .i64 0, .slice none 0 0] 26)).heap.size (((w.alloc (.cells #[.int .i64 (nn : Int), .slice pa xs.length ca] 26)).alloc (.cells #[.int .i64 m, .slice pb ys.length cb] 26)).alloc (.cells #[.int .i64 0, .slice none 0 0] 26)) V := by rw [hvz]; exact hb1
    replace TA := Lib.hid (TA.out.keeps hb2)
    replace TB := Lib.hid (TB.out.keeps hb2)
    replace TR := Lib.hid (TR.out.keeps hb2)
    replace HX := Lib.hid (HX.out.keeps hb2)
    replace HY := Lib.hid (HY.out.keeps hb2)
    have HB1 : Hid (Below w.heap.size w V) := HB0.out.trans (hb2.mono HB0.out.size)
    have hzv := HB1.out.size
    have hrv := TR.out.1
    have HBC := Lib.hid (bdrew1 V)
    clear hb1 hb2 HB0 hvz HF
    go_wp2_with fail
    go_region_held3 (fun w' => w'.cell? ⟨w.heap.size, 0, none⟩ = some (.int .i64 (nn : Int)) ∧ w'.cell? ⟨w.heap.size, 1, none⟩ = some (.slice pa xs.length ca) ∧ w'.cell? ⟨w.heap.size + 1, 0, none⟩ = some (.int .i64 m) ∧ w'.cell? ⟨w.heap.size + 1, 1, none⟩ = some (.slice pb ys.length cb))
      (first
        | (exact ⟨(TA.out.keeps HBC.out).2.1, (TA.out.keeps HBC.out).2.2.1, (TB.out.keeps HBC.out).2.1, (TB.out.keeps HBC.out).2.2.1⟩)
        | (exact ⟨(TA.out.keeps (HBC.out.alloc HBC.out.size _)).2.1, (TA.out.keeps (HBC.out.alloc HBC.out.size _)).2.2.1, (TB.out.keeps (HBC.out.alloc HBC.out.size _)).2.1, (TB.out.keeps (HBC.out.alloc HBC.out.size _)).2.2.1⟩)
        | (exact ⟨cell_set2 (by omega) (TA.out.keeps HBC.out).2.1 _ _, cell_set2 (by omega) (TA.out.keeps HBC.out).2.2.1 _ _, cell_set2 (by omega) (TB.out.keeps HBC.out).2.1 _ _, cell_set2 (by omega) (TB.out.keeps HBC.out).2.2.1 _ _⟩)
        | fail "keep")
      (first
        | (go_at_call 46; with_reducible refine (HMU.out _ (HY.out.keeps HBC.out)).mono ?_; rintro e w1 ⟨a1, c1, rfl, hr1, hb1⟩; have HBC := Lib.hid (HBC.out.trans (hb1.mono HBC.out.size)); have HR1 := Lib.hid hr1; clear hr1 hb1)
        | (go_at_call 45; with_reducible refine (HCC.out a1 c1 w1 (HX.out.keeps HBC.out) HR1.out).mono ?_; rintro e w2 ⟨a2, c2, rfl, hr2, hb2⟩; have HR2 := Lib.hid hr2; have HBC := Lib.hid (HBC.out.trans (hb2.mono HBC.out.size)); clear hr2 hb2)
        | (go_at_call 44; refine (HMK.out a2 c2 w2 HR2.out).mono ?_; rintro e w3 ⟨a3, c3, rfl, hO3, hb3⟩; have hz2 := HBC.out.size; have HO3 := Lib.hid (hO3.lower hz2); have HBC := Lib.hid (HBC.out.trans (hb3.mono HBC.out.size)); clear hO3 hb3; have htr := TR.out.keeps HBC.out; have r0 := htr.1; have r1 := htr.2.1; have r2 := htr.2.2.1; have r3 := htr.2.2.2.1; have r4 := htr.2.2.2.2; clear htr)
        | fail "arm")
    all_goals
      go_wp2
      refine ret_cx2 (w.heap.size + 1 + 1) rfl rfl rfl (x := .int .i64 ((nn : Int) + m)) (y := .slice a3 M.length c3) (by go_simp) (by go_simp) rfl ?_
      exact ⟨_, rfl, (OwnInts.set (OwnInts.set HO3.out _ _ _ (by omega)) _ _ _ (by omega)).lower (by omega), ((HB1.out.trans (HBC.out.mono HB1.out.size)).setCell (by dsimp only; omega) _).setCell (by dsimp only; omega) _⟩

end Go.Proofs.Ythobncbggaggjaa
