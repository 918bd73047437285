/-
  WALKS: chapter 9: AreAlike, of impl and of spec.
-/
import Derived.Test.YtbkkdgmiokdbmaaGreatWNamI8
namespace Go.Proofs.YtbkkdgmiokdbmaaGreat
open Go.RowKit
open Sets Nam

/-- AreAlike. -/
def alikeB (na : Int) (xa : List Int) (nb : Int) (xb : List Int) : Bool := (canonCO na xa).isSome && ((canonCO nb xb).isSome && eqC (oN (canonCO na xa)) (oN (canonCO nb xb)) (oL (canonCO na xa)) (oL (canonCO nb xb)))
theorem canon_le (n : Int) (xs : List Int) : (oL (canonCO n xs)).length ≤ 64 := by
  cases h : isC n xs with
  | false => rw [canonCO_no h]; exact Nat.zero_le _
  | true =>
    rw [canonCO_yes h]
    obtain ⟨m, rfl, _, _⟩ := isC_cast h
    show (canonL (m : Int).toNat xs).length ≤ 64
    rw [Int.toNat_natCast, canon_length h]
    exact isC_le h
theorem specEqual_b (n m : Int) (pa pb : Option Addr) (ca cb : Nat) (xs ys : List Int) (hlx : xs.length ≤ 1099511627776) (hly : ys.length ≤ 1099511627776) (_hcx : xs.length ≤ ca) (_hcy : ys.length ≤ cb) (b : Bool) (hb : eqC n m xs ys = b) (w : World) (hx : Ints w pa xs) (hy : Ints w pb ys) :
    Calls Tryz.prog 56 #[cx n (.slice pa xs.length ca), cx m (.slice pb ys.length cb)] w fun e w' => e = .returned (.bool b) ∧ Below w.heap.size w w' := by
  subst hb; exact specEqual_any n m pa pb ca cb xs ys hlx hly w hx hy

set_option maxRecDepth 100000 in
set_option maxHeartbeats 2000000 in
theorem implAlike_any (na : Int) (pa : Option Addr) (ca : Nat) (xa : List Int) (nb : Int) (pb : Option Addr) (cb : Nat) (xb : List Int) (hca : xa.length ≤ ca) (hcb : xb.length ≤ cb) (hla : xa.length ≤ 1099511627776) (hlb : xb.length ≤ 1099511627776) (w : World) (ha : Ints w pa xa) (hb : Ints w pb xb) :
    Calls Tryz.prog 19 #[cx na (.slice pa xa.length ca), cx nb (.slice pb xb.length cb)] w fun e w' => e = .returned (.bool (alikeB na xa nb xb)) ∧ Below w.heap.size w w' := by
  have hb0 : Below w.heap.size w ((w.alloc (.cells #[.int .i64 na, .slice pa xa.length ca] 26)).alloc (.cells #[.int .i64 nb, .slice pb xb.length cb] 26)) := ((Below.refl _ _).alloc (Nat.le_refl _) _).alloc (by simp) _
  have hta := (Two.new w (.int .i64 na) (.slice pa xa.length ca) 26).alloc (.cells #[.int .i64 nb, .slice pb xb.length cb] 26)
  have htb := Two.new (w.alloc (.cells #[.int .i64 na, .slice pa xa.length ca] 26)) (.int .i64 nb) (.slice pb xb.length cb) 26
  rw [World.size_alloc] at htb
  have HA := Lib.hid ha
  have HBX := Lib.hid hb
  have HB0 := Lib.hid hb0
  have HTA := Lib.hid hta
  have HTB := Lib.hid htb
  obtain ⟨t0, t1, t2, t3, t4⟩ := hta
  have hl1 := canon_le na xa
  have hl2 := canon_le nb xb
  have HAL : Hid (alikeB na xa nb xb = ((canonCO na xa).isSome && ((canonCO nb xb).isSome && eqC (oN (canonCO na xa)) (oN (canonCO nb xb)) (oL (canonCO na xa)) (oL (canonCO nb xb))))) := Lib.hid rfl
  have HC1 := Lib.hid (implCanon_any na pa ca xa hca hla _ (HA.out.keeps HB0.out))
  have HC2 : Hid (∀ w2, Below w.heap.size w w2 → Calls Tryz.prog 12 #[cx nb (.slice pb xb.length cb)] w2 fun e w' => ∃ v, e = .returned (.tuple #[cx (oN (canonCO nb xb)) v, .bool (canonCO nb xb).isSome]) ∧ HasInts w' w2.heap.size v (oL (canonCO nb xb)) ∧ Below w2.heap.size w2 w') := fun w2 h2 => implCanon_any nb pb cb xb hcb hlb w2 (HBX.out.keeps h2)
  obtain ⟨al, hal⟩ : ∃ al, alikeB na xa nb xb = al := ⟨_, rfl⟩
  rw [hal] at HAL
  rw [hal]
  clear hal ha hb hb0 htb HA HBX
  generalize canonCO na xa = o1 at *
  generalize canonCO nb xb = o2 at *
  obtain ⟨n1, hn1⟩ : ∃ n1, oN o1 = n1 := ⟨_, rfl⟩
  obtain ⟨n2, hn2⟩ : ∃ n2, oN o2 = n2 := ⟨_, rfl⟩
  obtain ⟨x1, hx1⟩ : ∃ x1, oL o1 = x1 := ⟨_, rfl⟩
  obtain ⟨x2, hx2⟩ : ∃ x2, oL o2 = x2 := ⟨_, rfl⟩
  obtain ⟨s1, hs1⟩ : ∃ s1, o1.isSome = s1 := ⟨_, rfl⟩
  obtain ⟨s2, hs2⟩ : ∃ s2, o2.isSome = s2 := ⟨_, rfl⟩
  rw [hn1, hn2, hx1, hx2, hs1, hs2] at HAL
  rw [hn1, hx1, hs1] at HC1
  rw [hn2, hx2, hs2] at HC2
  rw [hx1] at hl1
  rw [hx2] at hl2
  clear hn1 hn2 hx1 hx2 hs1 hs2
  go_enter Tryz.func19, Tryz.ntmps19
  go_wp2_with fail
  refine HC1.out.mono ?_
  rintro e w1 ⟨v1, rfl, hh1, hb1⟩
  obtain ⟨a1, c1, g1, rfl, hc1, hg1, hi1, _⟩ := hh1
  have HB1 : Hid (Below w.heap.size w w1) := HB0.out.trans (hb1.mono HB0.out.size)
  have HTB1 := Lib.hid ((HTB.out.keeps hb1).alloc (.cells #[.int .i64 n1, .slice a1 x1.length c1] 26))
  have HX1 := Lib.hid (Two.new w1 (.int .i64 n1) (.slice a1 x1.length c1) 26)
  have HI1 := Lib.hid (hi1.keeps ((Below.refl _ w1).alloc (Nat.le_refl _) (.cells #[.int .i64 n1, .slice a1 x1.length c1] 26)))
  have HB2 : Hid (Below w.heap.size w (w1.alloc (.cells #[.int .i64 n1, .slice a1 x1.length c1] 26))) := HB1.out.alloc HB1.out.size _
  clear hb1 hi1 hg1 t0 t1 t2 t3 t4 HTA HTB
  obtain ⟨t0, t1, t2, t3, t4⟩ := HTB1.out
  go_wp2_with fail
  refine (HC2.out _ HB2.out).mono ?_
  rintro e w3 ⟨v3, rfl, hh3, hb3⟩
  obtain ⟨a3, c3, g3, rfl, hc3, hg3, hi3, _⟩ := hh3
  have hz2 := HB2.out.size
  have HB3 : Hid (Below w.heap.size w w3) := HB2.out.trans (hb3.mono hz2)
  have HX3 := Lib.hid ((HX1.out.keeps hb3).alloc (.cells #[.int .i64 n2, .slice a3 x2.length c3] 26))
  have HY3 := Lib.hid (Two.new w3 (.int .i64 n2) (.slice a3 x2.length c3) 26)
  have hb4 : Below w3.heap.size w3 (w3.alloc (.cells #[.int .i64 n2, .slice a3 x2.length c3] 26)) := (Below.refl _ w3).alloc (Nat.le_refl _) _
  have HI3 := Lib.hid (hi3.keeps hb4)
  have HI4 := Lib.hid ((HI1.out.keeps hb3).keeps hb4)
  have HB4 : Hid (Below w.heap.size w (w3.alloc (.cells #[.int .i64 n2, .slice a3 x2.length c3] 26))) := HB3.out.alloc HB3.out.size _
  clear hb3 hi3 hg3 hb4 t0 t1 t2 t3 t4
  obtain ⟨t0, t1, t2, t3, t4⟩ := HX3.out
  obtain ⟨u0, u1, u2, u3, u4⟩ := HY3.out
  cases s1 with
  | false =>
    have HR : Hid (al = false) := HAL.out
    go_wp2
    go_ret
    exact ⟨by rw [HR.out]; rfl, HB4.out⟩
  | true =>
    cases s2 with
    | false =>
      have HR : Hid (al = false) := HAL.out
      go_wp2
      go_ret
      exact ⟨by rw [HR.out]; rfl, HB4.out⟩
    | true =>
      have HR : Hid (eqC n1 n2 x1 x2 = al) := HAL.out.symm
      go_wp2_with fail
      refine (implEqual_b n1 n2 a1 a3 c1 c3 x1 x2 (by omega) (by omega) hc1 hc3 al HR.out _ HI4.out.ints HI3.out.ints).mono ?_
      rintro e w5 ⟨rfl, hb5⟩
      have hz4 := HB4.out.size
      have HB5 : Hid (Below w.heap.size w w5) := HB4.out.trans (hb5.mono hz4)
      clear hb5
      go_wp2
      go_ret
      exact ⟨rfl, HB5.out⟩

set_option maxRecDepth 100000 in
set_option maxHeartbeats 2000000 in
theorem specAlike_any (na : Int) (pa : Option Addr) (ca : Nat) (xa : List Int) (nb : Int) (pb : Option Addr) (cb : Nat) (xb : List Int) (hla : xa.length ≤ 1099511627776) (hlb : xb.length ≤ 1099511627776) (w : World) (ha : Ints w pa xa) (hb : Ints w pb xb) :
    Calls Tryz.prog 20 #[cx na (.slice pa xa.length ca), cx nb (.slice pb xb.length cb)] w fun e w' => e = .returned (.bool (alikeB na xa nb xb)) ∧ Below w.heap.size w w' := by
  have hb0 : Below w.heap.size w ((w.alloc (.cells #[.int .i64 na, .slice pa xa.length ca] 26)).alloc (.cells #[.int .i64 nb, .slice pb xb.length cb] 26)) := ((Below.refl _ _).alloc (Nat.le_refl _) _).alloc (by simp) _
  have hta := (Two.new w (.int .i64 na) (.slice pa xa.length ca) 26).alloc (.cells #[.int .i64 nb, .slice pb xb.length cb] 26)
  have htb := Two.new (w.alloc (.cells #[.int .i64 na, .slice pa xa.length ca] 26)) (.int .i64 nb) (.slice pb xb.length cb) 26
  rw [World.size_alloc] at htb
  have HA := Lib.hid ha
  have HBX := Lib.hid hb
  have HB0 := Lib.hid hb0
  have HTA := Lib.hid hta
  have HTB := Lib.hid htb
  obtain ⟨t0, t1, t2, t3, t4⟩ := hta
  have hl1 := canon_le na xa
  have hl2 := canon_le nb xb
  have HAL : Hid (alikeB na xa nb xb = ((canonCO na xa).isSome && ((canonCO nb xb).isSome && eqC (oN (canonCO na xa)) (oN (canonCO nb xb)) (oL (canonCO na xa)) (oL (canonCO nb xb))))) := Lib.hid rfl
  have HC1 := Lib.hid (specCanon_any na pa ca xa hla _ (HA.out.keeps HB0.out))
  have HC2 : Hid (∀ w2, Below w.heap.size w w2 → Calls Tryz.prog 13 #[cx nb (.slice pb xb.length cb)] w2 fun e w' => ∃ v, e = .returned (.tuple #[cx (oN (canonCO nb xb)) v, .bool (canonCO nb xb).isSome]) ∧ HasInts w' w2.heap.size v (oL (canonCO nb xb)) ∧ Below w2.heap.size w2 w') := fun w2 h2 => specCanon_any nb pb cb xb hlb w2 (HBX.out.keeps h2)
  obtain ⟨al, hal⟩ : ∃ al, alikeB na xa nb xb = al := ⟨_, rfl⟩
  rw [hal] at HAL
  rw [hal]
  clear hal ha hb hb0 htb HA HBX
  generalize canonCO na xa = o1 at *
  generalize canonCO nb xb = o2 at *
  obtain ⟨n1, hn1⟩ : ∃ n1, oN o1 = n1 := ⟨_, rfl⟩
  obtain ⟨n2, hn2⟩ : ∃ n2, oN o2 = n2 := ⟨_, rfl⟩
  obtain ⟨x1, hx1⟩ : ∃ x1, oL o1 = x1 := ⟨_, rfl⟩
  obtain ⟨x2, hx2⟩ : ∃ x2, oL o2 = x2 := ⟨_, rfl⟩
  obtain ⟨s1, hs1⟩ : ∃ s1, o1.isSome = s1 := ⟨_, rfl⟩
  obtain ⟨s2, hs2⟩ : ∃ s2, o2.isSome = s2 := ⟨_, rfl⟩
  rw [hn1, hn2, hx1, hx2, hs1, hs2] at HAL
  rw [hn1, hx1, hs1] at HC1
  rw [hn2, hx2, hs2] at HC2
  rw [hx1] at hl1
  rw [hx2] at hl2
  clear hn1 hn2 hx1 hx2 hs1 hs2
  go_enter Tryz.func20, Tryz.ntmps20
  go_wp2_with fail
  refine HC1.out.mono ?_
  rintro e w1 ⟨v1, rfl, hh1, hb1⟩
  obtain ⟨a1, c1, g1, rfl, hc1, hg1, hi1, _⟩ := hh1
  have HB1 : Hid (Below w.heap.size w w1) := HB0.out.trans (hb1.mono HB0.out.size)
  have HTB1 := Lib.hid ((HTB.out.keeps hb1).alloc (.cells #[.int .i64 n1, .slice a1 x1.length c1] 26))
  have HX1 := Lib.hid (Two.new w1 (.int .i64 n1) (.slice a1 x1.length c1) 26)
  have HI1 := Lib.hid (hi1.keeps ((Below.refl _ w1).alloc (Nat.le_refl _) (.cells #[.int .i64 n1, .slice a1 x1.length c1] 26)))
  have HB2 : Hid (Below w.heap.size w (w1.alloc (.cells #[.int .i64 n1, .slice a1 x1.length c1] 26))) := HB1.out.alloc HB1.out.size _
  clear hb1 hi1 hg1 t0 t1 t2 t3 t4 HTA HTB
  obtain ⟨t0, t1, t2, t3, t4⟩ := HTB1.out
  go_wp2_with fail
  refine (HC2.out _ HB2.out).mono ?_
  rintro e w3 ⟨v3, rfl, hh3, hb3⟩
  obtain ⟨a3, c3, g3, rfl, hc3, hg3, hi3, _⟩ := hh3
  have hz2 := HB2.out.size
  have HB3 : Hid (Below w.heap.size w w3) := HB2.out.trans (hb3.mono hz2)
  have HX3 := Lib.hid ((HX1.out.keeps hb3).alloc (.cells #[.int .i64 n2, .slice a3 x2.length c3] 26))
  have HY3 := Lib.hid (Two.new w3 (.int .i64 n2) (.slice a3 x2.length c3) 26)
  have hb4 : Below w3.heap.size w3 (w3.alloc (.cells #[.int .i64 n2, .slice a3 x2.length c3] 26)) := (Below.refl _ w3).alloc (Nat.le_refl _) _
  have HI3 := Lib.hid (hi3.keeps hb4)
  have HI4 := Lib.hid ((HI1.out.keeps hb3).keeps hb4)
  have HB4 : Hid (Below w.heap.size w (w3.alloc (.cells #[.int .i64 n2, .slice a3 x2.length c3] 26))) := HB3.out.alloc HB3.out.size _
  clear hb3 hi3 hg3 hb4 t0 t1 t2 t3 t4
  obtain ⟨t0, t1, t2, t3, t4⟩ := HX3.out
  obtain ⟨u0, u1, u2, u3, u4⟩ := HY3.out
  cases s1 with
  | false =>
    have HR : Hid (al = false) := HAL.out
    go_wp2
    go_ret
    exact ⟨by rw [HR.out]; rfl, HB4.out⟩
  | true =>
    cases s2 with
    | false =>
      have HR : Hid (al = false) := HAL.out
      go_wp2
      go_ret
      exact ⟨by rw [HR.out]; rfl, HB4.out⟩
    | true =>
      have HR : Hid (eqC n1 n2 x1 x2 = al) := HAL.out.symm
      go_wp2_with fail
      refine (specEqual_b n1 n2 a1 a3 c1 c3 x1 x2 (by omega) (by omega) hc1 hc3 al HR.out _ HI4.out.ints HI3.out.ints).mono ?_
      rintro e w5 ⟨rfl, hb5⟩
      have hz4 := HB4.out.size
      have HB5 : Hid (Below w.heap.size w w5) := HB4.out.trans (hb5.mono hz4)
      clear hb5
      go_wp2
      go_ret
      exact ⟨rfl, HB5.out⟩

end Go.Proofs.YtbkkdgmiokdbmaaGreat
