/-
  THE WALK of the law on sets.
-/
import Derived.Test.YtpcafdambgingaaWDrawSets
import Derived.Test.YtpcafdambgingaaWParseSet
import Derived.Test.YtpcafdambgingaaWSetsText
import Derived.Test.YtpcafdambgingaaWSpecBest
namespace Go.Proofs.Ytpcafdambgingaa
open Go.RowKit
open Sets

theorem parse_txt (x : Int) : parse (txt x).data.toList = if okZ x = true then some x.toNat else none := by
  cases h : okZ x with
  | true =>
    obtain ⟨s, rfl, hs⟩ := okZ_cast x h
    rw [if_pos rfl]
    have := parseS_text ⟨s, hs⟩
    rw [parse_same]
    exact this
  | false =>
    rw [if_neg (by simp), txt_no x h]
    decide

theorem implParse_back (x : Int) (w : World) : Calls Try.prog 18 #[.string (txt x)] w fun e w' => ∃ (z : Int) (b : Bool), e = .returned (.tuple #[.int .i64 z, .bool b]) ∧ b = okZ x ∧ (b = true → z = x) ∧ Below w.heap.size w w' := by
  have h := implParse_any (txt x) (by have := txt_size x; omega) w
  rw [parse_txt] at h
  refine h.mono fun e w' ⟨he, hb⟩ => ⟨_, _, he, ?_, ?_, hb⟩
  · cases okZ x <;> rfl
  · intro hs
    cases hk : okZ x with
    | false => rw [hk] at hs; simp at hs
    | true =>
      have := (okZ_iff x).1 hk
      show ((x.toNat : Nat) : Int) = x
      omega

theorem maximal_not (xs : List Int) (k i : Nat) (hk : k < (maximal xs).length) (hi : i < xs.length) :
    ∃ s t : Nat, (maximal xs).getD k 0 = (s : Int) ∧ xs.getD i 0 = (t : Int) ∧ s < 64 ∧ t < 64 ∧ (t = s ∨ sub s t = false) := by
  have hm : (maximal xs).getD k 0 ∈ maximal xs := by rw [List.getD, List.getElem?_eq_getElem hk]; exact List.getElem_mem hk
  have hx : xs.getD i 0 ∈ xs := by rw [List.getD, List.getElem?_eq_getElem hi]; exact List.getElem_mem hi
  generalize (maximal xs).getD k 0 = x at *
  generalize xs.getD i 0 = y at *
  unfold maximal best at hm
  rw [List.mem_filter] at hm
  obtain ⟨h1, h2⟩ := hm
  obtain ⟨s, rfl, hs, _⟩ := order_mem xs x h1
  have hall : allOk xs = true := by
    unfold order at h1
    split at h1
    · assumption
    · simp at h1
  have hy := mem_order xs hall y hx
  obtain ⟨t, rfl, ht, _⟩ := order_mem xs y hy
  refine ⟨s, t, rfl, rfl, hs, ht, ?_⟩
  by_cases e : t = s
  · exact .inl e
  · right
    unfold unbeaten at h2
    rw [List.all_eq_true] at h2
    have h3 := h2 _ hy
    have hne : ((t : Int) != (s : Int)) = true := by simp; omega
    rw [hne] at h3
    simpa using h3

theorem count_pow (s : Nat) (hs : s < 64) : (((subsets (s : Int)).length : Int) == wrap64 (2 ^ pc s)) = true := by
  have h : (subsets (s : Int)).length = 2 ^ pc s := subsets_count ⟨s, hs⟩
  rw [h]
  have hp := pc_le s
  have : ∀ t : Fin 7, (((2 ^ t.val : Nat) : Int) == wrap64 (2 ^ t.val)) = true := by decide +kernel
  exact this ⟨pc s, by omega⟩

set_option maxRecDepth 100000 in
set_option maxHeartbeats 8000000 in
theorem sets_walk (a : Option Addr) (n c : Nat) (hn : n ≤ 9223372036854775807) (w : World) (hc : Code w a n) :
    Calls Try.prog 3 #[.slice a n c] w fun e w' => e = .returned (.bool true) ∧ Below w.heap.size w w' := by
  have HC := Lib.hid hc
  clear hc
  by_cases hbig : 1048576 < (n : Int)
  · go_enter Try.func3, Try.ntmps3
    go_wp2
    go_ret
    exact ⟨rfl, Below.refl _ _⟩
  · go_enter Try.func3, Try.ntmps3
    go_wp2_with (go_at_call 15; go_in)
    refine (drawIsSet_any a n c (by omega) _ HC.out).mono ?_
    rintro e w1 ⟨pn, ps, hpn0, hpn1, hps0, hps1, rfl, hb1⟩
    have B1 := Lib.hid hb1
    have z1 := hb1.size
    clear hb1
    go_wp2_with fail
    refine (drawParseSet_any a n c (by omega) _ (HC.out.keeps B1.out)).mono ?_
    rintro e w2 ⟨t, ht, rfl, hb⟩
    have B2 : Hid (Below w.heap.size w w2) := B1.out.trans (hb.mono z1)
    have z2 := B2.out.size
    clear hb
    go_wp2_with fail
    refine (implParse_any t (by omega) _).mono ?_
    rintro e w3 ⟨rfl, hb⟩
    have B3 : Hid (Below w.heap.size w w3) := B2.out.trans (hb.mono z2)
    have z3 := B3.out.size
    clear hb
    go_wp2_with fail
    refine (specParse_any t (by omega) _).mono ?_
    rintro e w4 ⟨rfl, hb⟩
    have B4 : Hid (Below w.heap.size w w4) := B3.out.trans (hb.mono z3)
    have z4 := B4.out.size
    clear hb
    rw [← parse_same]
    generalize (((parse t.data.toList).getD 0 : Nat) : Int) = px
    generalize (parse t.data.toList).isSome = pk
    go_wp2_with fail
    refine (drawMaximal_any a n c (by omega) _ (HC.out.keeps B4.out)).mono ?_
    rintro e w5 ⟨v, xs, rfl, hxl, hO, hb⟩
    have B5 : Hid (Below w.heap.size w w5) := B4.out.trans (hb.mono z4)
    have z5 := B5.out.size
    obtain ⟨la, lc, lg, rfl, _, hr⟩ := hO.at
    have L5 := Lib.hid hr.ints
    clear hb hO hr
    go_wp2_with fail
    refine (implMaximal_any _ _ xs (by omega) _ L5.out).mono ?_
    rintro e w6 ⟨v, rfl, hO, hb⟩
    have B6 : Hid (Below w.heap.size w w6) := B5.out.trans (hb.mono z5)
    have z6 := B6.out.size
    have L6 := Lib.hid (L5.out.keeps hb)
    obtain ⟨ma, mc, mg, rfl, _, hr⟩ := hO.at
    have M6 := Lib.hid hr.ints
    clear hb hO hr L5
    go_wp2_with fail
    refine (implMinimal_any _ _ xs (by omega) _ L6.out).mono ?_
    rintro e w7 ⟨v, rfl, hO, hb⟩
    have B7 : Hid (Below w.heap.size w w7) := B6.out.trans (hb.mono z6)
    have z7 := B7.out.size
    have L7 := Lib.hid (L6.out.keeps hb)
    have M7 := Lib.hid (M6.out.keeps hb)
    obtain ⟨na, nc, ng, rfl, _, hr⟩ := hO.at
    have N7 := Lib.hid hr.ints
    clear hb hO hr L6 M6
    go_wp2_with fail
    refine (drawBefore_any a n c (by omega) _ (HC.out.keeps B7.out)).mono ?_
    rintro e w8 ⟨bp, bq, rfl, hb⟩
    have B8 : Hid (Below w.heap.size w w8) := B7.out.trans (hb.mono z7)
    have z8 := B8.out.size
    have L8 := Lib.hid (L7.out.keeps hb)
    have M8 := Lib.hid (M7.out.keeps hb)
    have N8 := Lib.hid (N7.out.keeps hb)
    clear hb L7 M7 N7
    have hml := maximal_length xs
    have hnl := minimal_length xs
    have hol := order_length xs
    go_wp2_with fail
    refine (implIsSet_any pn ps _).mono ?_
    rintro e w' ⟨rfl, rfl⟩
    go_wp2_with fail
    refine (specIsSet_any pn ps _).mono ?_
    rintro e w' ⟨rfl, rfl⟩
    go_wp2_with fail
    refine (specMaximal_any _ _ xs (by omega) _ L8.out).mono ?_
    rintro e w9 ⟨v, rfl, hO, hb⟩
    obtain ⟨qa, qc, qg, rfl, _, hr⟩ := hO.at
    have Rq := Lib.hid hr.ints
    have C9 : Hid (Below w8.heap.size w8 w9) := Lib.hid hb
    have y9 := C9.out.size
    clear hb hO hr
    go_wp2_with fail
    refine (sameInt_any _ _ _ _ (maximal xs) (by omega) _ (M8.out.keeps C9.out) Rq.out).mono ?_
    rintro e w10 ⟨rfl, hb⟩
    have C10 : Hid (Below w8.heap.size w8 w10) := C9.out.trans (hb.mono y9)
    have y10 := C10.out.size
    clear hb
    go_wp2_with fail
    refine (specMinimal_any _ _ xs (by omega) _ (L8.out.keeps C10.out)).mono ?_
    rintro e w11 ⟨v, rfl, hO, hb⟩
    obtain ⟨ra, rc, rg, rfl, _, hr⟩ := hO.at
    have Rr := Lib.hid hr.ints
    have C11 : Hid (Below w8.heap.size w8 w11) := C10.out.trans (hb.mono y10)
    have y11 := C11.out.size
    clear hb hO hr Rq
    go_wp2_with fail
    refine (sameInt_any _ _ _ _ (minimal xs) (by omega) _ (N8.out.keeps C11.out) Rr.out).mono ?_
    rintro e w12 ⟨rfl, hb⟩
    have C12 : Hid (Below w8.heap.size w8 w12) := C11.out.trans (hb.mono y11)
    have y12 := C12.out.size
    clear hb
    go_wp2_with fail
    refine (implOrder_any _ _ xs (by omega) _ (L8.out.keeps C12.out)).mono ?_
    rintro e w13 ⟨v, rfl, hO, hb⟩
    obtain ⟨sa, sc, sg, rfl, _, hr⟩ := hO.at
    have Rs := Lib.hid hr.ints
    have C13 : Hid (Below w8.heap.size w8 w13) := C12.out.trans (hb.mono y12)
    have y13 := C13.out.size
    clear hb hO hr Rr
    go_wp2_with fail
    refine (specOrder_any _ _ xs (by omega) _ (L8.out.keeps C13.out)).mono ?_
    rintro e w14 ⟨v, rfl, hO, hb⟩
    obtain ⟨ta, tc, tg, rfl, _, hr⟩ := hO.at
    have Rt := Lib.hid hr.ints
    have Rs2 := Lib.hid (Rs.out.keeps hb)
    have C14 : Hid (Below w8.heap.size w8 w14) := C13.out.trans (hb.mono y13)
    have y14 := C14.out.size
    clear hb hO hr Rs
    go_wp2_with fail
    refine (sameInt_any _ _ _ _ (order xs) (by omega) _ Rs2.out Rt.out).mono ?_
    rintro e w15 ⟨rfl, hb⟩
    have C15 : Hid (Below w8.heap.size w8 w15) := C14.out.trans (hb.mono y14)
    have y15 := C15.out.size
    clear hb
    go_wp2_with fail
    refine (implBefore_any bp bq _).mono ?_
    rintro e w' ⟨rfl, rfl⟩
    go_wp2_with fail
    refine (specBefore_any bp bq _).mono ?_
    rintro e w' ⟨rfl, rfl⟩
    go_wp2_with fail
    refine (implSizeOf_any ps _).mono ?_
    rintro e w' ⟨rfl, rfl⟩
    go_wp2_with fail
    refine (specSizeOf_any ps _).mono ?_
    rintro e w' ⟨rfl, rfl⟩
    have hpl : (points ps).length ≤ 6 := by unfold points; split; exact pts_length _ _; simp
    have hsl := subsets_length ps
    go_wp2_with fail
    refine (implPoints_any ps _).mono ?_
    rintro e w16 ⟨v, rfl, hO, hb⟩
    obtain ⟨ua, uc, ug, rfl, _, hr⟩ := hO.at
    have Ru := Lib.hid hr.ints
    have C16 : Hid (Below w8.heap.size w8 w16) := C15.out.trans (hb.mono y15)
    have y16 := C16.out.size
    clear hb hO hr Rs2 Rt
    go_wp2_with fail
    refine (specPoints_any ps _).mono ?_
    rintro e w17 ⟨v, rfl, hO, hb⟩
    obtain ⟨va, vc, vg, rfl, _, hr⟩ := hO.at
    have Rv := Lib.hid hr.ints
    have Ru2 := Lib.hid (Ru.out.keeps hb)
    have C17 : Hid (Below w8.heap.size w8 w17) := C16.out.trans (hb.mono y16)
    have y17 := C17.out.size
    clear hb hO hr Ru
    go_wp2_with fail
    refine (sameInt_any _ _ _ _ (points ps) (by omega) _ Ru2.out Rv.out).mono ?_
    rintro e w18 ⟨rfl, hb⟩
    have C18 : Hid (Below w8.heap.size w8 w18) := C17.out.trans (hb.mono y17)
    have y18 := C18.out.size
    clear hb
    go_wp2_with fail
    refine (implSubsets_any ps _).mono ?_
    rintro e w19 ⟨v, rfl, hO, hb⟩
    obtain ⟨xa, xc, xg, rfl, _, hr⟩ := hO.at
    have Rx := Lib.hid hr.ints
    have C19 : Hid (Below w8.heap.size w8 w19) := C18.out.trans (hb.mono y18)
    have y19 := C19.out.size
    clear hb hO hr Ru2 Rv
    go_wp2_with fail
    refine (specSubsets_any ps _).mono ?_
    rintro e w20 ⟨v, rfl, hO, hb⟩
    obtain ⟨ya, yc, yg, rfl, _, hr⟩ := hO.at
    have Ry := Lib.hid hr.ints
    have Rx2 := Lib.hid (Rx.out.keeps hb)
    have C20 : Hid (Below w8.heap.size w8 w20) := C19.out.trans (hb.mono y19)
    have y20 := C20.out.size
    clear hb hO hr Rx
    go_wp2_with fail
    refine (sameInt_any _ _ _ _ (subsets ps) (by omega) _ Rx2.out Ry.out).mono ?_
    rintro e w21 ⟨rfl, hb⟩
    have C21 : Hid (Below w8.heap.size w8 w21) := C20.out.trans (hb.mono y20)
    have y21 := C21.out.size
    clear hb
    go_wp2_with fail
    refine (implSetsText_any _ _ xs (by omega) _ (L8.out.keeps C21.out)).mono ?_
    rintro e w22 ⟨rfl, hb⟩
    have C22 : Hid (Below w8.heap.size w8 w22) := C21.out.trans (hb.mono y21)
    have y22 := C22.out.size
    clear hb
    go_wp2_with fail
    refine (specSetsText_any _ _ xs (by omega) _ (L8.out.keeps C22.out)).mono ?_
    rintro e w23 ⟨rfl, hb⟩
    have C23 : Hid (Below w8.heap.size w8 w23) := C22.out.trans (hb.mono y22)
    have y23 := C23.out.size
    clear hb
    clear Rx2 Ry
    generalize setsText xs = stx at *
    have htx := txt_size ps
    go_wp2_with fail
    refine (implText_any ps _).mono ?_
    rintro e w24 ⟨rfl, hb⟩
    have C24 : Hid (Below w8.heap.size w8 w24) := C23.out.trans (hb.mono y23)
    have y24 := C24.out.size
    clear hb
    go_wp2_with fail
    refine (implParse_back ps _).mono ?_
    rintro e w25 ⟨bz, bk, rfl, hbk, hbz, hb⟩
    have HBK := Lib.hid hbk
    have HBZ := Lib.hid hbz
    have C25 : Hid (Below w8.heap.size w8 w25) := C24.out.trans (hb.mono y24)
    have y25 := C25.out.size
    clear hb hbk hbz
    go_wp2_with fail
    refine (specText_any ps _).mono ?_
    rintro e w26 ⟨rfl, hb⟩
    have C26 : Hid (Below w8.heap.size w8 w26) := C25.out.trans (hb.mono y25)
    have y26 := C26.out.size
    clear hb
    generalize txt ps = tps at *
    have LK := Lib.hid (L8.out.keeps C26.out)
    have MK := Lib.hid (M8.out.keeps C26.out)
    have BK : Hid (Below w.heap.size w w26) := B8.out.trans (C26.out.mono z8)
    have hzK := BK.out.size
    clear L8 M8 N8
    generalize hmx : maximal xs = mx at *
    have HMX := Lib.hid hmx
    clear hmx
    have hFB : ∀ k i, k < mx.length → i < xs.length → ∃ s t : Nat, mx.getD k 0 = (s : Int) ∧ xs.getD i 0 = (t : Int) ∧ s < 64 ∧ t < 64 ∧ (t = s ∨ sub s t = false) := fun k i hk hi => by
      rw [← HMX.out] at hk ⊢; exact maximal_not xs k i hk hi
    have FB := Lib.hid hFB
    clear hFB
    cases bk with
    | true =>
      have hok := HBK.out.symm
      obtain ⟨s, hsp, hs⟩ := okZ_cast ps hok
      have hz := HBZ.out rfl
      subst hz
      have hcp := count_pow s hs
      rw [← hsp] at hcp
      have HSP := Lib.hid hsp
      have HCP := Lib.hid hcp
      obtain ⟨hr1, hr2⟩ := (okZ_iff bz).1 hok
      clear hsp hcp hok HBK HBZ
      go_wp2
      go_loopw [18] (fun i wr => ∃ k q : Nat, k ≤ mx.length ∧ i = .int .i64 (k : Int) ∧ wr = w26.drewN q) (fun i _ => mx.length - (intOf i).toNat)
      case atStart => exact ⟨0, 0, Nat.zero_le _, rfl, rfl⟩
      case round =>
        obtain ⟨k, q, hk, rfl, rfl⟩ := hrel
        by_cases hlt : k < mx.length
        · have hlk : decide (k < mx.length) = true := by simpa using hlt
          obtain ⟨mb, mo, rfl, mg⟩ := MK.out k hlt
          go_wp2
          go_loopw [19] (fun i wr => ∃ m q : Nat, m ≤ xs.length ∧ i = .int .i64 (m : Int) ∧ wr = w26.drewN q) (fun i _ => xs.length - (intOf i).toNat)
          case atStart => exact ⟨0, q, Nat.zero_le _, rfl, rfl⟩
          case round =>
            obtain ⟨m, q2, hm, rfl, rfl⟩ := hrel
            by_cases hlm : m < xs.length
            · obtain ⟨xb, xo, rfl, xg⟩ := LK.out m hlm
              obtain ⟨x, y, hx, hy, hx64, hy64, hxy⟩ := FB.out k m hlt hlm
              rw [hx] at mg
              rw [hy] at xg
              clear hx hy
              by_cases e : y = x
              · have hq : ((y : Int) != (x : Int)) = false := by simp; omega
                clear e hxy
                go_wp2_with fail
                go_quiet (fail)
                go_wp2
                go_roundw
                case rel => exact ⟨m + 1, q2 + nq, by omega, by go_num, rfl⟩
                case measure => simp [intOf]; omega
              · have hq : ((y : Int) != (x : Int)) = true := by simp; omega
                have ha := and_sub2 x y hx64 hy64
                have hs2 : sub x y = false := hxy.resolve_left e
                rw [hs2] at ha
                clear e hxy hs2
                go_wp2_with fail
                go_quiet (fail)
                go_wp2
                go_roundw
                case rel => exact ⟨m + 1, q2 + nq, by omega, by go_num, rfl⟩
                case measure => simp [intOf]; omega
            · go_wp2
              go_roundw
              case rel => exact ⟨k + 1, q2, by omega, by go_num, rfl⟩
              case measure => simp [intOf]; omega
        · have hBq : Below w.heap.size w (w26.drewN q) := BK.out.trans ((Mem.below_drewN w26 q).mono hzK)
          have hqz := hBq.size
          go_wp2_with fail
          refine (implSubsets_any bz _).mono ?_
          rintro e wA ⟨v, rfl, hO, hb⟩
          obtain ⟨fa, fc, fg, rfl, _, _⟩ := hO.at
          have BA : Hid (Below w.heap.size w wA) := hBq.trans (hb.mono hqz)
          clear hO hb
          have HSZ := Lib.hid (sizeZ_nat s hs)
          have hpc := pc_le s
          rw [← HSP.out] at HSZ
          go_wp2_with fail
          refine (implSizeOf_any bz _).mono ?_
          rintro e w' ⟨rfl, rfl⟩
          rw [HSZ.out]
          have hcp := HCP.out
          go_wp2
          go_ret
          exact ⟨rfl, BA.out⟩
    | false =>
      have hok : okZ ps = false := HBK.out.symm
      have hnr : ¬(0 ≤ ps ∧ ps ≤ 63) := fun h => by rw [(okZ_iff ps).2 h] at hok; cases hok
      clear hok
      by_cases hr1 : 0 ≤ ps
      · have hr2 : ¬ ps ≤ 63 := fun h => hnr ⟨hr1, h⟩
        clear hnr
        go_wp2
        go_loopw [18] (fun i wr => ∃ k q : Nat, k ≤ mx.length ∧ i = .int .i64 (k : Int) ∧ wr = w26.drewN q) (fun i _ => mx.length - (intOf i).toNat)
        case atStart => exact ⟨0, 0, Nat.zero_le _, rfl, rfl⟩
        case round =>
          obtain ⟨k, q, hk, rfl, rfl⟩ := hrel
          by_cases hlt : k < mx.length
          · have hlk : decide (k < mx.length) = true := by simpa using hlt
            obtain ⟨mb, mo, rfl, mg⟩ := MK.out k hlt
            go_wp2
            go_loopw [19] (fun i wr => ∃ m q : Nat, m ≤ xs.length ∧ i = .int .i64 (m : Int) ∧ wr = w26.drewN q) (fun i _ => xs.length - (intOf i).toNat)
            case atStart => exact ⟨0, q, Nat.zero_le _, rfl, rfl⟩
            case round =>
              obtain ⟨m, q2, hm, rfl, rfl⟩ := hrel
              by_cases hlm : m < xs.length
              · obtain ⟨xb, xo, rfl, xg⟩ := LK.out m hlm
                obtain ⟨x, y, hx, hy, hx64, hy64, hxy⟩ := FB.out k m hlt hlm
                rw [hx] at mg
                rw [hy] at xg
                clear hx hy
                by_cases e : y = x
                · have hq : ((y : Int) != (x : Int)) = false := by simp; omega
                  clear e hxy
                  go_wp2_with fail
                  go_quiet (fail)
                  go_wp2
                  go_roundw
                  case rel => exact ⟨m + 1, q2 + nq, by omega, by go_num, rfl⟩
                  case measure => simp [intOf]; omega
                · have hq : ((y : Int) != (x : Int)) = true := by simp; omega
                  have ha := and_sub2 x y hx64 hy64
                  have hs2 : sub x y = false := hxy.resolve_left e
                  rw [hs2] at ha
                  clear e hxy hs2
                  go_wp2_with fail
                  go_quiet (fail)
                  go_wp2
                  go_roundw
                  case rel => exact ⟨m + 1, q2 + nq, by omega, by go_num, rfl⟩
                  case measure => simp [intOf]; omega
              · go_wp2
                go_roundw
                case rel => exact ⟨k + 1, q2, by omega, by go_num, rfl⟩
                case measure => simp [intOf]; omega
          · go_wp2
            go_ret
            exact ⟨rfl, BK.out.trans ((Mem.below_drewN w26 q).mono hzK)⟩
      · clear hnr
        go_wp2
        go_loopw [18] (fun i wr => ∃ k q : Nat, k ≤ mx.length ∧ i = .int .i64 (k : Int) ∧ wr = w26.drewN q) (fun i _ => mx.length - (intOf i).toNat)
        case atStart => exact ⟨0, 0, Nat.zero_le _, rfl, rfl⟩
        case round =>
          obtain ⟨k, q, hk, rfl, rfl⟩ := hrel
          by_cases hlt : k < mx.length
          · have hlk : decide (k < mx.length) = true := by simpa using hlt
            obtain ⟨mb, mo, rfl, mg⟩ := MK.out k hlt
            go_wp2
            go_loopw [19] (fun i wr => ∃ m q : Nat, m ≤ xs.length ∧ i = .int .i64 (m : Int) ∧ wr = w26.drewN q) (fun i _ => xs.length - (intOf i).toNat)
            case atStart => exact ⟨0, q, Nat.zero_le _, rfl, rfl⟩
            case round =>
              obtain ⟨m, q2, hm, rfl, rfl⟩ := hrel
              by_cases hlm : m < xs.length
              · obtain ⟨xb, xo, rfl, xg⟩ := LK.out m hlm
                obtain ⟨x, y, hx, hy, hx64, hy64, hxy⟩ := FB.out k m hlt hlm
                rw [hx] at mg
                rw [hy] at xg
                clear hx hy
                by_cases e : y = x
                · have hq : ((y : Int) != (x : Int)) = false := by simp; omega
                  clear e hxy
                  go_wp2_with fail
                  go_quiet (fail)
                  go_wp2
                  go_roundw
                  case rel => exact ⟨m + 1, q2 + nq, by omega, by go_num, rfl⟩
                  case measure => simp [intOf]; omega
                · have hq : ((y : Int) != (x : Int)) = true := by simp; omega
                  have ha := and_sub2 x y hx64 hy64
                  have hs2 : sub x y = false := hxy.resolve_left e
                  rw [hs2] at ha
                  clear e hxy hs2
                  go_wp2_with fail
                  go_quiet (fail)
                  go_wp2
                  go_roundw
                  case rel => exact ⟨m + 1, q2 + nq, by omega, by go_num, rfl⟩
                  case measure => simp [intOf]; omega
              · go_wp2
                go_roundw
                case rel => exact ⟨k + 1, q2, by omega, by go_num, rfl⟩
                case measure => simp [intOf]; omega
          · go_wp2
            go_ret
            exact ⟨rfl, BK.out.trans ((Mem.below_drewN w26 q).mono hzK)⟩

end Go.Proofs.Ytpcafdambgingaa
