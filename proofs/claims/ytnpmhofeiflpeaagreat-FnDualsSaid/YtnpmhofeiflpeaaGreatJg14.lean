/-
  TEXTS of one claim, put together: WPartI, WMissS2, WCnt1, WMissS.
-/
import Derived.Test.YtnpmhofeiflpeaaGreatJg3
import Derived.Test.YtnpmhofeiflpeaaGreatJg12
import Derived.Test.YtnpmhofeiflpeaaGreatJg13
import Derived.Deep.RegionHeld3
import Derived.Deep.RegionLaw
import Derived.Deep.AppendLies
import Derived.Test.YtnpmhofeiflpeaaGreatJg11
import Derived.Test.YtnpmhofeiflpeaaGreatJg6
import Derived.Test.YtnpmhofeiflpeaaGreatJg10
/-! WALKS: impl's chapter 5: parts of a complex (written by genparti.py). -/

namespace Go.Proofs.YtnpmhofeiflpeaaGreat
open Go.RowKit
open Sets

theorem own_has_cx {f : FuncId} {args : Array Value} {w : World} {n : Int} {L : List Int} {b : Bool} (h : Calls Tryz.prog f args w fun e w' => ∃ v, e = .returned (.tuple #[cx n v, .bool b]) ∧ OwnInts w' w.heap.size v L ∧ Below w.heap.size w w') :
    Calls Tryz.prog f args w fun e w' => ∃ v, e = .returned (.tuple #[cx n v, .bool b]) ∧ HasInts w' w.heap.size v L ∧ Below w.heap.size w w' :=
  h.mono fun _ _ ⟨v, he, ho, hb⟩ => ⟨v, he, ho.has hb.size, hb⟩
theorem pO_no {ok : Bool} {n : Int} {q : Nat → Bool} (h : ok = false) : partO ok n q = none := by unfold partO; rw [if_neg (by rw [h]; simp)]
theorem pO_yes {ok : Bool} {n : Int} {q : Nat → Bool} (h : ok = true) : partO ok n q = some (n, maxQ q) := by unfold partO; rw [if_pos h]
theorem part_le (ok : Bool) (n : Int) (q : Nat → Bool) : (oL (partO ok n q)).length ≤ 1048576 := by
  refine Nat.le_trans (m := 64) ?_ (by decide)
  cases ok
  · rw [pO_no rfl]; exact Nat.zero_le _
  · rw [pO_yes rfl]; exact maxQ_le q

/-- A family of sets of n points that holds with a set all of its subsets, made by MakeComplex. -/
def Fam (n : Int) (q : Nat → Bool) : Prop := Down q ∧ ∀ t, t < 64 → q t = true → setB n (t : Int) = true
theorem made_ord {n : Int} {q : Nat → Bool} (hn : inB 1 6 n = true) (h : Fam n q) : made n (ord q) = some (n, maxQ q) := by
  rw [made_yes ((setsOf_iff _ _).2 ⟨hn, ord_le _, fun x hx => ?_⟩), maximal_ord q h.1]
  obtain ⟨s, rfl, hs, hq⟩ := (mem_ord q x).1 hx
  exact h.2 s hs hq
theorem and_natP : ∀ a b : Nat, a < 64 → b < 64 → bits BinOp.and IntKind.i64 (a : Int) (b : Int) = ((a &&& b : Nat) : Int) := by
  refine fin64b ?_
  decide +kernel
theorem or_natP : ∀ a b : Nat, a < 64 → b < 64 → bits BinOp.or IntKind.i64 (a : Int) (b : Int) = ((a ||| b : Nat) : Int) := by
  refine fin64b ?_
  decide +kernel
theorem or_lt64 {s t : Nat} (hs : s < 64) (ht : t < 64) : s ||| t < 64 := Nat.or_lt_two_pow (n := 6) hs ht

/-! ### a family by its function value -/

set_option maxRecDepth 100000 in
set_option maxHeartbeats 2000000 in
theorem partWhere_any (n : Int) (g : Nat) (lb : Array Value) (q : Nat → Bool) (w : World) (hn : inB 1 6 n = true) (hf : Fam n q) (eg : ∀ args w, (callFunc g args).run Tryz.prog w = .ok (.enter g args) w) (hp : ∀ W : World, Below w.heap.size w W → PredB g lb q W) :
    Calls Tryz.prog 29 #[.int .i64 n, .func (.func g) #[] lb] w fun e w' => ∃ v, e = .returned (.tuple #[cx n v, .bool true]) ∧ OwnInts w' w.heap.size v (maxQ q) ∧ Below w.heap.size w w' := by
  have hb0 : Below w.heap.size w (w.alloc (.cells #[.int .i64 0, .slice none 0 0] 26)) := (Below.refl _ _).alloc (Nat.le_refl _) _
  have htr := Two.new w (.int .i64 0) (.slice none 0 0) 26
  have HP := Lib.hid (hp _ hb0)
  have HM := Lib.hid (made_ord hn hf)
  have HQ := Lib.hid (setsWhere_bel g lb q)
  have EG := Lib.hid eg
  have HB0 := Lib.hid hb0
  have TR := Lib.hid htr
  clear hb0 htr eg hp hf hn
  go_enter Tryz.func29, Tryz.ntmps29
  go_wp2_with fail
  refine (HQ.out _ EG.out HP.out).mono ?_
  rintro e w1 ⟨v, rfl, hO1, hb1⟩
  obtain ⟨a1, c1, g1, rfl, hc1, hg1, hr1, _⟩ := OwnInts.ata hO1 hb1.size
  have hl1 : (ord q).length ≤ 1099511627776 := Nat.le_trans (ord_le _) (by decide)
  have R1 := Lib.hid hr1
  have HB1 : Hid (Below w.heap.size w w1) := HB0.out.trans (hb1.mono HB0.out.size)
  have TR1 := Lib.hid (TR.out.keeps hb1)
  have hz1 := HB1.out.size
  clear hO1 hr1 hb1 hg1 hc1
  go_wp2_with fail
  refine (implMake_any n _ _ (ord q) hl1 _ R1.out.ints).mono ?_
  rintro e w2 ⟨v, he, hO2, hb2⟩
  rw [HM.out] at he hO2
  replace he : e = .returned (.tuple #[cx n v, .bool true]) := he
  subst he
  obtain ⟨a2, c2, g2, hv2, hc2, hg2, hr2, _⟩ := OwnInts.ata hO2 hb2.size
  replace hv2 : v = .slice a2 (maxQ q).length c2 := hv2
  subst hv2
  obtain ⟨r0, r1, r2, r3, r4⟩ := TR1.out.keeps hb2
  have hz0 := TR1.out.1
  have HO2 : Hid (OwnInts w2 w1.heap.size (.slice a2 (maxQ q).length c2) (maxQ q)) := hO2
  have HB2 : Hid (Below w.heap.size w w2) := HB1.out.trans (hb2.mono hz1)
  clear hO2 hr2 hb2
  go_wp2
  refine ret_cx2 w.heap.size rfl rfl rfl (x := .int .i64 n) (y := .slice a2 (maxQ q).length c2) (by go_simp) (by go_simp) rfl ?_
  exact ⟨_, rfl, (OwnInts.set (OwnInts.set HO2.out _ _ _ hz0) _ _ _ hz0).lower hz1, (HB2.out.setCell (by dsimp only; omega) _).setCell (by dsimp only; omega) _⟩

/-! ### the seven families -/

theorem fam_of {n : Int} {xs : List Int} {q : Nat → Bool} (hd : Down q) (hc : isC n xs = true) (h : ∀ t, q t = true → inF xs t = true) : Fam n q := ⟨hd, fun t _ hq => inF_set hc t (h t hq)⟩
theorem sub_orl (s t : Nat) : sub s (s ||| t) = true := (sub_iff _ _).2 fun i h => by rw [Nat.testBit_or, h]; rfl
theorem star_fam {n : Int} {xs : List Int} (hc : isC n xs = true) (u : Nat) : Fam n (starQ xs u) := fam_of (starQ_down xs u) hc fun t h => inF_sub (sub_orl t u) h
theorem link_fam {n : Int} {xs : List Int} (hc : isC n xs = true) (u : Nat) : Fam n (linkQ xs u) := fam_of (linkQ_down xs u) hc fun t h => by
  unfold linkQ at h
  rw [Bool.and_eq_true] at h
  exact inF_sub (sub_orl t u) h.2
theorem del_fam {n : Int} {xs : List Int} (hc : isC n xs = true) (u : Nat) : Fam n (delQ xs u) := fam_of (delQ_down xs u) hc fun t h => by
  unfold delQ at h
  rw [Bool.and_eq_true] at h
  exact h.1
theorem ind_fam {n : Int} {xs : List Int} (hc : isC n xs = true) (u : Nat) : Fam n (indQ xs u) := fam_of (indQ_down xs u) hc fun t h => by
  unfold indQ at h
  rw [Bool.and_eq_true] at h
  exact h.1
theorem skel_fam {n : Int} {xs : List Int} (hc : isC n xs = true) (k : Int) : Fam n (skelQ xs k) := fam_of (skelQ_down xs k) hc fun t h => by
  unfold skelQ at h
  rw [Bool.and_eq_true] at h
  exact h.1
theorem and_fam {n : Int} {xs : List Int} (ys : List Int) (hc : isC n xs = true) : Fam n (andQ xs ys) := fam_of (andQ_down xs ys) hc fun t h => by
  unfold andQ at h
  rw [Bool.and_eq_true] at h
  exact h.1
theorem or_fam {n : Int} {xs ys : List Int} (hx : isC n xs = true) (hy : isC n ys = true) : Fam n (orQ xs ys) := ⟨orQ_down xs ys, fun t _ h => by
  unfold orQ at h
  rw [Bool.or_eq_true] at h
  exact h.elim (inF_set hx t) (inF_set hy t)⟩

end Go.Proofs.YtnpmhofeiflpeaaGreat

/-! WALKS: spec.l7From, spec.FromMissing. -/

namespace Go.Proofs.YtnpmhofeiflpeaaGreat
open Go.RowKit
open Sets

theorem fromS_no {n : Int} {xs : List Int} (h : setsOf n xs = false) : fromO n xs = none := by unfold fromO; rw [h]; rfl
theorem fromS_yes {n : Int} {xs : List Int} (h : setsOf n xs = true) : fromO n xs = some (n, maxQ (avoidQ n xs)) := by unfold fromO; rw [h]; rfl
theorem ok_atS {xs : List Int} (h : allOk xs = true) (k : Nat) (hk : k < xs.length) : ∃ t : Nat, xs.getD k 0 = (t : Int) ∧ t < 64 := by
  refine ok_nat h ?_
  rw [List.getD, List.getElem?_eq_getElem hk]; exact List.getElem_mem hk
theorem abv_take (xs : List Int) (k : Nat) (hk : k < xs.length) (s : Nat) : abv (xs.take (k + 1)) s = (abv (xs.take k) s || sub (xs.getD k 0).toNat s) := by
  have e : xs.take (k + 1) = xs.take k ++ [xs.getD k 0] := by
    rw [List.take_add_one, List.getD, List.getElem?_eq_getElem hk]; rfl
  rw [e]
  unfold abv
  rw [List.any_append]; simp
theorem abv_takeT (xs : List Int) (k : Nat) (hk : k < xs.length) (t : Nat) (ht : xs.getD k 0 = (t : Int)) (s : Nat) (b c : Bool) (hb : abv (xs.take k) s = b) (hc : sub t s = c) : abv (xs.take (k + 1)) s = (b || c) := by
  rw [abv_take xs k hk, hb, ht]
  show (b || sub t s) = _
  rw [hc]
theorem shl_powS (n : Int) (h1 : 1 ≤ n) (h2 : n ≤ 6) : wrap64 (2 ^ n.toNat) = ((2 ^ n.toNat : Nat) : Int) := by
  rcases seven n (by omega) h2 with rfl | rfl | rfl | rfl | rfl | rfl | rfl <;> decide +kernel

set_option maxRecDepth 100000 in
set_option maxHeartbeats 4000000 in
theorem l7From_any (n : Int) (a : Option Addr) (c : Nat) (xs : List Int) (hn : inB 1 6 n = true) (hok : allOk xs = true) (hlen : xs.length ≤ 1099511627776) (w : World) (h : Ints w a xs) :
    Calls Tryz.prog 50 #[.int .i64 n, .slice a xs.length c] w fun e w' => ∃ v, e = .returned (cx n v) ∧ OwnInts w' w.heap.size v (maxQ (avoidQ n xs)) ∧ Below w.heap.size w w' := by
  obtain ⟨i0, hi, hz0, hz1, hz2⟩ := info_parts info_int
  have hb0 : Below w.heap.size w (w.alloc (.cells #[.int .i64 0, .slice none 0 0] 26)) := (Below.refl _ _).alloc (Nat.le_refl _) _
  have htr := Two.new w (.int .i64 0) (.slice none 0 0) 26
  have HH := Lib.hid (h.keeps hb0)
  have HB0 := Lib.hid hb0
  have TR := Lib.hid htr
  have HOK := Lib.hid hok
  have hnn := (inB_iff _ _ _).1 hn
  obtain ⟨hn1, hn2⟩ := hnn
  have hsh := shl_powS n hn1 hn2
  have h64 := pow_le64 n hn1 hn2
  have HMX := Lib.hid (maximal_avoid n xs hn1 hn2)
  obtain ⟨N, hN⟩ : ∃ N : Nat, 2 ^ n.toNat = N := ⟨_, rfl⟩
  rw [hN] at hsh h64 HMX
  have HSH := Lib.hid hsh
  clear h hb0 htr hok hn hN hsh
  go_enter Tryz.func50, Tryz.ntmps50
  go_wp2
  have HO0 := Lib.hid (OwnInts.lit (w.alloc (.cells #[.int .i64 0, .slice none 0 0] 26)) (w.heap.size + 1) [] (by simp) (by simp))
  have hszW : (w.alloc (.cells #[.int .i64 0, .slice none 0 0] 26)).heap.size = w.heap.size + 1 := by simp
  generalize (w.alloc (.cells #[.int .i64 0, .slice none 0 0] 26)) = W at *
  have HSZ := Lib.hid hszW
  clear hszW
  go_loopw [5, 6] (fun v i wr => ∃ k : Nat, k ≤ N ∧ i = .int .i64 (k : Int) ∧ OwnInts wr W.heap.size v (firsts (fun s => !abv xs s) k) ∧ Below W.heap.size W wr) (fun _ i _ => N - (intOf i).toNat)
  case atStart => exact ⟨0, by omega, rfl, by have h := HO0.out; rw [HSZ.out] at h ⊢; exact h, (Below.refl _ _).alloc (Nat.le_refl _) _⟩
  case round =>
    obtain ⟨s, hk, rfl, hO, hB⟩ := hrel
    have HO := Lib.hid hO
    have HB := Lib.hid hB
    have hsz := hB.size
    have hl := firsts_length (fun s => !abv xs s) s
    obtain ⟨wo, rfl⟩ : ∃ wo : World, wo = wr := ⟨_, rfl⟩
    clear hO hB
    by_cases hlt : s < N
    · have hcmp : decide ((s : Int) < wrap64 (2 ^ n.toNat)) = true := by rw [HSH.out]; simp; omega
      go_wp2
      clear hcmp
      go_loopw [7, 8] (fun v i wr => ∃ (k nn : Nat) (f : Bool), k ≤ xs.length ∧ i = .int .i64 (k : Int) ∧ v = .bool f ∧ abv (xs.take k) s = !f ∧ wr = wo.drewN nn) (fun _ i _ => xs.length - (intOf i).toNat)
      case atStart => exact ⟨0, 0, true, Nat.zero_le _, rfl, rfl, rfl, rfl⟩
      case round =>
        obtain ⟨k, nn, f, hk2, rfl, rfl, hq, rfl⟩ := hrel
        by_cases hlk : k < xs.length
        · obtain ⟨b1, o1, rfl, g1⟩ := (HH.out.keeps HB.out) k hlk
          obtain ⟨t, ht, ht6⟩ := ok_atS HOK.out k hlk
          have HT := Lib.hid ht
          rw [ht] at g1
          clear ht
          cases f with
          | false =>
            have HQ : Hid (abv (xs.take (k + 1)) s = true) := abv_takeT xs k hlk t HT.out s true _ hq rfl
            clear hq
            go_wp2
            go_quiet (fail)
            go_wp2
            go_roundw
            case rel => exact ⟨k + 1, nn + nq, false, by omega, by go_num, rfl, HQ.out, rfl⟩
            case measure => simp [intOf]; omega
          | true =>
            have ha := and_natP t s ht6 (by omega)
            cases hsb : sub t s with
            | true =>
              have HQ : Hid (abv (xs.take (k + 1)) s = true) := abv_takeT xs k hlk t HT.out s false true hq hsb
              have hne : ((t : Int) == (t : Int)) = true := by simp
              rw [show t &&& s = t from by unfold sub at hsb; simpa using hsb] at ha
              clear hq hsb
              go_wp2
              go_quiet (fail)
              go_wp2
              go_roundw
              case rel => exact ⟨k + 1, nn + nq, false, by omega, by go_num, rfl, HQ.out, rfl⟩
              case measure => simp [intOf]; omega
            | false =>
              have HQ : Hid (abv (xs.take (k + 1)) s = false) := abv_takeT xs k hlk t HT.out s false false hq hsb
              have hne : (((t &&& s : Nat) : Int) == (t : Int)) = false := by
                rw [beq_eq_false_iff_ne]; unfold sub at hsb
                rw [beq_eq_false_iff_ne] at hsb; omega
              clear hq hsb
              go_wp2
              go_quiet (fail)
              go_wp2
              go_roundw
              case rel => exact ⟨k + 1, nn + nq, true, by omega, by go_num, by simp only [bne, hne]; rfl, HQ.out, rfl⟩
              case measure => simp [intOf]; omega
        · have HE : Hid (abv xs s = !f) := by
            have : k = xs.length := by omega
            rw [this, List.take_length] at hq; exact hq
          clear hq
          have hO1 := OwnInts.drewN HO.out nn
          have hB1 : Below W.heap.size W (wo.drewN nn) := HB.out.trans ((Mem.below_drewN wo nn).mono hsz)
          generalize wo.drewN nn = w5 at *
          have HO1 := Lib.hid hO1
          have HB1 := Lib.hid hB1
          have hsz5 := hB1.size
          clear hO1 hB1
          cases f with
          | true =>
            have HP : Hid ((fun s => !abv xs s) s = true) := by show (!abv xs s) = true; rw [HE.out]; rfl
            unfold OwnInts at HO1
            go_wp2_with (at_builtin; refine wpList_append_own _ rfl _ _ 24 rfl W.heap.size 3 i0 (.int .i64 0) 1 8 Tryz.underlying24 hi hz0 hz1 hz2 rfl (by decide) _ _ _ rfl (HO1.out.alloc _) ⟨w5.heap.size, 0, none⟩ 1 1 [.int .i64 (s : Int)] rfl rfl ?c1 ?c2 ?c3 ?c4 ?c5 ?_)
            case c2 => rfl
            case c3 => unfold maxLen; omega
            case c4 => omega
            case c5 => first | omega | (simp; omega)
            intro v' w3 hown1 hgrow _
            have hB3 : Below W.heap.size W w3 := (HB1.out.alloc hsz5 _).grown hgrow (by simp; omega) (fun g hg => (HO1.out.lt g hg).1)
            have H1 := Lib.hid hown1
            clear hown1 hgrow
            go_wp2
            go_roundw
            case rel => exact ⟨s + 1, by omega, by go_num, by rw [firsts_hit _ s HP.out]; exact OwnInts.next H1.out, hB3⟩
            case measure => simp [intOf]; omega
          | false =>
            have HP : Hid ((fun s => !abv xs s) s = false) := by show (!abv xs s) = false; rw [HE.out]; rfl
            go_wp2
            go_roundw
            case rel => exact ⟨s + 1, by omega, by go_num, by rw [firsts_miss _ s HP.out]; exact HO1.out, HB1.out⟩
            case measure => simp [intOf]; omega
    · have hcmp : decide ((s : Int) < wrap64 (2 ^ n.toNat)) = false := by rw [HSH.out]; simp; omega
      have E := Lib.hid (show s = N by omega)
      have hO := HO.out
      rw [E.out] at hO hl
      obtain ⟨a1, c1, g1, rfl, hg1, hr1⟩ := hO.at
      have R1 := Lib.hid hr1
      have TR1 := Lib.hid (TR.out.keeps HB.out)
      clear hO hr1 HO
      go_wp2_with fail
      refine (l3Make_any n _ _ (firsts (fun s => !abv xs s) N) (firsts_ok_le _ N (by omega)) (by omega) _ R1.out.ints).mono ?_
      rintro e w2 ⟨v, rfl, hO2, hb2⟩
      rw [HMX.out] at hO2
      obtain ⟨a2, c2, g2, rfl, _⟩ := OwnInts.atc hO2
      have hszr := HB.out.size
      have hz1 := TR1.out.1
      have hzw := HSZ.out
      have HB2 : Hid (Below w.heap.size w w2) := HB0.out.trans ((HB.out.trans (hb2.mono hszr)).mono (by omega))
      have HO := Lib.hid hO2
      obtain ⟨t0, t1, t2, t3, t4⟩ := TR1.out.keeps hb2
      clear hb2 hO2 R1
      go_wp2
      refine ret_cx w.heap.size rfl rfl (x := .int .i64 n) (y := .slice a2 (maxQ (avoidQ n xs)).length c2) (by go_simp) (by go_simp) rfl ?_
      exact ⟨_, rfl, (OwnInts.set (OwnInts.set HO.out _ _ _ (by omega)) _ _ _ (by omega)).lower (by omega), (HB2.out.setCell (by simp) _).setCell (by simp) _⟩

set_option maxRecDepth 100000 in
set_option maxHeartbeats 2000000 in
theorem specFrom_any (n : Int) (a : Option Addr) (c : Nat) (xs : List Int) (hlen : xs.length ≤ 1099511627776) (w : World) (h : Ints w a xs) :
    Calls Tryz.prog 19 #[.int .i64 n, .slice a xs.length c] w fun e w' => ∃ v, e = .returned (.tuple #[cx (oN (fromO n xs)) v, .bool (fromO n xs).isSome]) ∧ OwnInts w' w.heap.size v (oL (fromO n xs)) ∧ Below w.heap.size w w' := by
  have hb0 : Below w.heap.size w (w.alloc (.cells #[.int .i64 0, .slice none 0 0] 26)) := (Below.refl _ _).alloc (Nat.le_refl _) _
  have htr := Two.new w (.int .i64 0) (.slice none 0 0) 26
  have HH := Lib.hid (h.keeps hb0)
  have HB0 := Lib.hid hb0
  have TR := Lib.hid htr
  clear h hb0 htr
  cases hs : setsOf n xs with
  | false =>
    have HM := Lib.hid (made_no hs)
    rw [fromS_no hs]
    clear hs
    go_enter Tryz.func19, Tryz.ntmps19
    go_wp2_with fail
    refine (specMake_any n _ _ xs hlen _ HH.out).mono ?_
    rintro e w1 ⟨v, he, hO, hb1⟩
    rw [HM.out] at he hO
    replace he : e = .returned (.tuple #[cx 0 v, .bool false]) := he
    subst he
    obtain ⟨a2, c2, g2, hv2, _⟩ := OwnInts.atc hO
    replace hv2 : v = .slice a2 0 c2 := hv2
    subst hv2
    obtain ⟨r0, r1, r2, r3, r4⟩ := TR.out.keeps hb1
    have HB1 : Hid (Below w.heap.size w w1) := HB0.out.trans (hb1.mono HB0.out.size)
    clear hb1 hO
    go_wp2
    refine ret_cx2 w.heap.size rfl rfl rfl (x := .int .i64 0) (y := .slice none 0 0) (by go_simp) (by go_simp) rfl ?_
    exact ⟨_, rfl, OwnInts.nil _ _, ((HB1.out.setCell (by dsimp only; omega) _).setCell (by dsimp only; omega) _).alloc (by simp; omega) _⟩
  | true =>
    have HM := Lib.hid (made_yes hs)
    have HOK := Lib.hid (setsOf_ok hs)
    have HN := Lib.hid ((setsOf_iff n xs).1 hs).1
    rw [fromS_yes hs]
    clear hs
    go_enter Tryz.func19, Tryz.ntmps19
    go_wp2_with fail
    refine (specMake_any n _ _ xs hlen _ HH.out).mono ?_
    rintro e w1 ⟨v, he, hO, hb1⟩
    rw [HM.out] at he hO
    replace he : e = .returned (.tuple #[cx n v, .bool true]) := he
    subst he
    obtain ⟨a2, c2, g2, hv2, _⟩ := OwnInts.atc hO
    replace hv2 : v = .slice a2 (maximal xs).length c2 := hv2
    subst hv2
    have TR1 := Lib.hid (TR.out.keeps hb1)
    have HH1 := Lib.hid (HH.out.keeps hb1)
    have HB1 : Hid (Below w.heap.size w w1) := HB0.out.trans (hb1.mono HB0.out.size)
    clear hb1 hO HH
    have hszr := HB1.out.size
    have hal : Below w1.heap.size w1 (w1.alloc (Obj.cells #[Value.int IntKind.i64 n, Value.slice a2 (maximal xs).length c2] 26)) := (Below.refl _ _).alloc (Nat.le_refl _) _
    have HH2 := Lib.hid (HH1.out.keeps hal)
    have TR2 := Lib.hid (TR1.out.keeps hal)
    have HB2 : Hid (Below w.heap.size w (w1.alloc (Obj.cells #[Value.int IntKind.i64 n, Value.slice a2 (maximal xs).length c2] 26))) := HB1.out.trans (hal.mono hszr)
    clear hal
    go_wp2_with fail
    refine (l7From_any n _ _ xs HN.out HOK.out hlen _ HH2.out).mono ?_
    rintro e w3 ⟨v, rfl, hO3, hb3⟩
    obtain ⟨a3, c3, g3, rfl, _⟩ := OwnInts.atc hO3
    have hz1 := TR2.out.1
    have hsz2 := HB2.out.size
    have HO3 := Lib.hid hO3
    obtain ⟨r0, r1, r2, r3, r4⟩ := TR2.out.keeps hb3
    have HB3 : Hid (Below w.heap.size w w3) := HB2.out.trans (hb3.mono hsz2)
    clear hb3 hO3
    go_wp2
    refine ret_cx2 w.heap.size rfl rfl rfl (x := .int .i64 n) (y := .slice a3 (maxQ (avoidQ n xs)).length c3) (by go_simp) (by go_simp) rfl ?_
    exact ⟨_, rfl, (OwnInts.set (OwnInts.set HO3.out _ _ _ hz1) _ _ _ hz1).lower hsz2, (HB3.out.setCell (by dsimp only; omega) _).setCell (by dsimp only; omega) _⟩

end Go.Proofs.YtnpmhofeiflpeaaGreat

/-! WALKS of chapter 4: DimOf, IsSimplex, UsedPoints, DegreeOf, by impl and by spec. -/

namespace Go.Proofs.YtnpmhofeiflpeaaGreat
open Go.RowKit
open Sets

theorem l2Size_b (s p : Nat) (hp : pc s = p) (hs : s < 64) (w : World) : Calls Tryz.prog 58 #[.int .i64 (s : Int)] w fun e w' => e = .returned (.int .i64 (p : Int)) ∧ w = w' := by
  subst hp; exact l2Size_any s hs w

theorem implIsC_len (n : Int) (a : Option Addr) (c : Nat) (xs : List Int) (l : Nat) (hl : xs.length = l) (hcap : l ≤ c) (b : Bool) (hb : isC n xs = b) (hlen : l ≤ 1099511627776) (w : World) (h : Ints w a xs) :
    Calls Tryz.prog 27 #[cx n (.slice a l c)] w fun e w' => e = .returned (.bool b) ∧ Below w.heap.size w w' := by
  subst hl; exact implIsC_b n a c xs hcap b hb hlen w h

theorem specIsC_len (n : Int) (a : Option Addr) (c : Nat) (xs : List Int) (l : Nat) (hl : xs.length = l) (b : Bool) (hb : isC n xs = b) (hlen : l ≤ 1099511627776) (w : World) (h : Ints w a xs) :
    Calls Tryz.prog 33 #[cx n (.slice a l c)] w fun e w' => e = .returned (.bool b) ∧ Below w.heap.size w w' := by
  subst hl; exact specIsC_b n a c xs b hb hlen w h

/-! ### used points -/

theorem or_nat : ∀ a b : Nat, a < 64 → b < 64 → bits BinOp.or IntKind.i64 (a : Int) (b : Int) = ((a ||| b : Nat) : Int) := by
  refine fin64b ?_
  decide +kernel
theorem used_yes {n : Int} {xs : List Int} (h : isC n xs = true) : used n xs = (orN xs : Int) := by unfold used; rw [if_pos h]
theorem used_no {n : Int} {xs : List Int} (h : isC n xs = false) : used n xs = 0 := by unfold used; rw [if_neg (by rw [h]; simp)]

/-! ### degrees -/

theorem deg_yes {n : Int} {xs : List Int} {s : Int} (h : isC n xs = true) (k : okZ s = true) : deg n xs s = (degN xs s.toNat : Int) := by unfold deg; rw [if_pos (by rw [h, k]; rfl)]
theorem deg_no {n : Int} {xs : List Int} {s : Int} (h : isC n xs = false) : deg n xs s = -1 := by unfold deg; rw [if_neg (by rw [h]; simp)]
theorem deg_no2 {n : Int} {xs : List Int} {s : Int} (h : okZ s = false) : deg n xs s = -1 := by unfold deg; rw [if_neg (by rw [h]; simp)]

end Go.Proofs.YtnpmhofeiflpeaaGreat

/-! WALKS: spec's chapter 7: sets that are no faces. -/

namespace Go.Proofs.YtnpmhofeiflpeaaGreat
open Go.RowKit
open Sets

set_option maxRecDepth 100000 in
set_option maxHeartbeats 4000000 in
theorem specMissing_any (n : Int) (a : Option Addr) (c : Nat) (xs : List Int) (hlen : xs.length ≤ 1099511627776) (w : World) (h : Ints w a xs) :
    Calls Tryz.prog 34 #[cx n (.slice a xs.length c)] w fun e w' => ∃ v, e = .returned v ∧ OwnInts w' w.heap.size v (missing n xs) ∧ Below w.heap.size w w' := by
  obtain ⟨i0, hi, hz0, hz1, hz2⟩ := info_parts info_int
  have hb0 : Below w.heap.size w (w.alloc (Obj.cells #[Value.int IntKind.i64 n, Value.slice a xs.length c] 26)) := (Below.refl _ _).alloc (Nat.le_refl _) _
  have htwo : Two (w.alloc (Obj.cells #[Value.int IntKind.i64 n, Value.slice a xs.length c] 26)) w.heap.size (.int .i64 n) (.slice a xs.length c) := Two.new _ _ _ _
  have H := Lib.hid (h.keeps hb0)
  have HB0 := Lib.hid hb0
  have HT := Lib.hid htwo
  clear h hb0 htwo
  cases hC : isC n xs with
  | false =>
    have HC := Lib.hid hC
    have HF : Hid (missing n xs = []) := missing_no hC
    clear hC
    have H2 := Lib.hid (H.out.keeps ((Below.refl _ _).alloc (Nat.le_refl _) (Obj.cells #[] 3)))
    go_enter Tryz.func34, Tryz.ntmps34
    go_wp2
    refine wp_loop_rounds 1 ?_
    rw [rounds_succ]
    go_wp2_with fail
    refine (specIsC_b n _ _ xs false HC.out hlen _ H2.out).mono ?_
    rintro e w1 ⟨rfl, hb1⟩
    have HB1 : Hid (Below w.heap.size w w1) := (HB0.out.alloc (by simp) _).trans (hb1.mono (by simp; omega))
    clear hb1
    go_wp2_with fail
    refine (l2Extreme_false _ _ [] (by simp) rfl _ (Ints.nil _ _)).mono ?_
    rintro e w2 ⟨v, rfl, hO, hb2⟩
    have HO := Lib.hid hO
    have hsz := HB1.out.size
    clear hO
    go_wp2
    go_ret
    refine ⟨v, rfl, ?_, HB1.out.trans (hb2.mono hsz)⟩
    have h2 := HO.out
    rw [show best (fun s o => sub o s) (order []) = [] from rfl] at h2
    rw [HF.out]
    exact OwnInts.lower h2 hsz
  | true =>
    have HC := Lib.hid hC
    have HOK := Lib.hid (isC_ok hC)
    have HF : Hid (missing n xs = best (fun s o => sub o s) (order (firsts (missQ n xs) 64))) := by
      have : missing n xs = best (fun s o => sub o s) (order (firsts (missQ n xs) 64)) := by rw [missing_yes hC, minimal_firsts]
      exact this
    clear hC
    go_enter Tryz.func34, Tryz.ntmps34
    go_wp2
    have HO0 := Lib.hid (OwnInts.lit (w.alloc (Obj.cells #[Value.int IntKind.i64 n, Value.slice a xs.length c] 26)) (w.heap.size + 1) [] (by simp) (by simp))
    have hszW : (w.alloc (Obj.cells #[Value.int IntKind.i64 n, Value.slice a xs.length c] 26)).heap.size = w.heap.size + 1 := by simp
    generalize (w.alloc (Obj.cells #[Value.int IntKind.i64 n, Value.slice a xs.length c] 26)) = W at *
    have HSZ := Lib.hid hszW
    clear hszW
    go_loopw [3, 4] (fun v i wr => ∃ k : Nat, k ≤ 64 ∧ i = .int .i64 (k : Int) ∧ OwnInts wr W.heap.size v (firsts (missQ n xs) k) ∧ Below W.heap.size W wr) (fun _ i _ => 64 - (intOf i).toNat)
    case atStart => exact ⟨0, by omega, rfl, by have h := HO0.out; rw [HSZ.out] at h ⊢; exact h, (Below.refl _ _).alloc (Nat.le_refl _) _⟩
    case round =>
      obtain ⟨k, hk, rfl, hO, hB⟩ := hrel
      have HO := Lib.hid hO
      clear hO
      have hsz := hB.size
      have hl := firsts_length (missQ n xs) k
      obtain ⟨t0, t1, t2, _, _⟩ := HT.out.keeps hB
      by_cases hlt : k < 64
      · have HI := Lib.hid (H.out.keeps hB)
        cases hs : setB n (k : Int) with
        | false =>
          have HS := Lib.hid hs
          have HP : Hid (missQ n xs k = false) := by
            have : missQ n xs k = false := by unfold missQ; rw [hs]; rfl
            exact this
          clear hs
          go_wp2_with fail
          refine (specIsC_b n _ _ xs true HC.out hlen _ HI.out).mono ?_
          rintro e w1 ⟨rfl, hb1⟩
          have HO1 := Lib.hid (OwnInts.keeps HO.out hb1)
          have hB1 : Below W.heap.size W w1 := hB.trans (hb1.mono hsz)
          have HI1 := Lib.hid (HI.out.keeps hb1)
          obtain ⟨s0, s1, s2, _, _⟩ := HT.out.keeps hB1
          have hsz1 := hB1.size
          clear hb1 HO
          go_wp2_with fail
          refine (specIsSet_b n (k : Int) false HS.out _).mono ?_
          rintro e w' ⟨rfl, rfl⟩
          go_wp2
          go_roundw
          case rel => exact ⟨k + 1, by omega, by go_num, by rw [firsts_miss _ k HP.out]; exact HO1.out, hB1⟩
          case measure => simp [intOf]; omega
        | true =>
          have HS := Lib.hid hs
          cases hp : inF xs k with
          | true =>
            have HIN := Lib.hid hp
            have HP : Hid (missQ n xs k = false) := by
              have : missQ n xs k = false := by unfold missQ; rw [hs, hp]; rfl
              exact this
            clear hs hp
            go_wp2_with fail
            refine (specIsC_b n _ _ xs true HC.out hlen _ HI.out).mono ?_
            rintro e w1 ⟨rfl, hb1⟩
            have HO1 := Lib.hid (OwnInts.keeps HO.out hb1)
            have hB1 : Below W.heap.size W w1 := hB.trans (hb1.mono hsz)
            have HI1 := Lib.hid (HI.out.keeps hb1)
            obtain ⟨s0, s1, s2, _, _⟩ := HT.out.keeps hB1
            have hsz1 := hB1.size
            clear hb1 HO
            go_wp2_with fail
            refine (specIsSet_b n (k : Int) true HS.out _).mono ?_
            rintro e w' ⟨rfl, rfl⟩
            go_wp2_with fail
            refine (l3Has_any n _ _ xs HOK.out hlen k hlt true HIN.out _ HI1.out).mono ?_
            rintro e w2 ⟨rfl, hb2⟩
            have HO2 := Lib.hid (OwnInts.keeps HO1.out hb2)
            have hB2 : Below W.heap.size W w2 := hB1.trans (hb2.mono hsz1)
            have hsz2 := hB2.size
            clear hb2 HO1
            go_wp2
            go_roundw
            case rel => exact ⟨k + 1, by omega, by go_num, by rw [firsts_miss _ k HP.out]; exact HO2.out, hB2⟩
            case measure => simp [intOf]; omega
          | false =>
            have HIN := Lib.hid hp
            have HP : Hid (missQ n xs k = true) := by
              have : missQ n xs k = true := by unfold missQ; rw [hs, hp]; rfl
              exact this
            clear hs hp
            go_wp2_with fail
            refine (specIsC_b n _ _ xs true HC.out hlen _ HI.out).mono ?_
            rintro e w1 ⟨rfl, hb1⟩
            have HO1 := Lib.hid (OwnInts.keeps HO.out hb1)
            have hB1 : Below W.heap.size W w1 := hB.trans (hb1.mono hsz)
            have HI1 := Lib.hid (HI.out.keeps hb1)
            obtain ⟨s0, s1, s2, _, _⟩ := HT.out.keeps hB1
            have hsz1 := hB1.size
            clear hb1 HO
            go_wp2_with fail
            refine (specIsSet_b n (k : Int) true HS.out _).mono ?_
            rintro e w' ⟨rfl, rfl⟩
            go_wp2_with fail
            refine (l3Has_any n _ _ xs HOK.out hlen k hlt false HIN.out _ HI1.out).mono ?_
            rintro e w2 ⟨rfl, hb2⟩
            have HO2 := Lib.hid (OwnInts.keeps HO1.out hb2)
            unfold OwnInts at HO2
            have hB2 : Below W.heap.size W w2 := hB1.trans (hb2.mono hsz1)
            have hsz2 := hB2.size
            clear hb2 HO1
            go_wp2_with (at_builtin; refine wpList_append_own _ rfl _ _ 24 rfl W.heap.size 3 i0 (.int .i64 0) 1 8 Tryz.underlying24 hi hz0 hz1 hz2 rfl (by decide) _ _ _ rfl (HO2.out.alloc _) ⟨w2.heap.size, 0, none⟩ 1 1 [.int .i64 (k : Int)] rfl rfl ?c1 ?c2 ?c3 ?c4 ?c5 ?_)
            case c1 => intro j u hj; exact Mem.cell_new w2 _ _ j u hj
            case c2 => intro u hu; simp at hu; subst hu; rfl
            case c3 => unfold maxLen; omega
            case c4 => omega
            case c5 => simp; omega
            intro v' w3 hown1 hgrow _
            have hB3 : Below W.heap.size W w3 := (hB2.alloc hsz2 _).grown hgrow (by simp; omega) (fun g hg => (HO2.out.lt g hg).1)
            have H1 := Lib.hid hown1
            clear hown1 hgrow
            go_wp2
            go_roundw
            case rel => exact ⟨k + 1, by omega, by go_num, by rw [firsts_hit _ k HP.out]; exact OwnInts.next H1.out, hB3⟩
            case measure => simp [intOf]; omega
      · have E := Lib.hid (show k = 64 by omega)
        have hO := HO.out
        rw [E.out] at hO hl
        obtain ⟨a1, c1, g1, rfl, hg1, hr1⟩ := hO.at
        have R1 := Lib.hid hr1
        clear hO hr1 HO
        go_wp2_with fail
        refine (l2Extreme_false _ _ (firsts (missQ n xs) 64) (by omega) (firsts_ok _) _ R1.out.ints).mono ?_
        rintro e w1 ⟨v, rfl, hO, hb1⟩
        have HO := Lib.hid hO
        clear hO
        go_wp2
        go_ret
        have hz := HSZ.out
        refine ⟨v, rfl, ?_, HB0.out.trans ((hB.trans (hb1.mono hsz)).mono (by omega))⟩
        rw [HF.out]
        exact HO.out.lower (by omega)

theorem specMissing_b (n : Int) (a : Option Addr) (c : Nat) (xs M : List Int) (hM : missing n xs = M) (hlen : xs.length ≤ 1099511627776) (w : World) (h : Ints w a xs) :
    Calls Tryz.prog 34 #[cx n (.slice a xs.length c)] w fun e w' => ∃ v, e = .returned v ∧ OwnInts w' w.heap.size v M ∧ Below w.heap.size w w' := by
  subst hM; exact specMissing_any n a c xs hlen w h

end Go.Proofs.YtnpmhofeiflpeaaGreat
