/-
  TEXTS of one claim, put together: WNamS6, WNamS7, WNamS8, WNamS9.
-/
import Derived.Test.YtbkkdgmiokdbmaaJg28
import Derived.Test.YtbkkdgmiokdbmaaJg29
/-! WALKS: spec's chapter 9: all lists of names. -/

namespace Go.Proofs.Ytbkkdgmiokdbmaa
open Go.RowKit
open Sets Nam

/-- Names as a row of numbers. -/
def Zs (ns : List Nat) : List Int := ns.map fun (k : Nat) => (k : Int)
theorem Zs_len (ns : List Nat) : (Zs ns).length = ns.length := List.length_map ..
theorem Zs_next (ns : List Nat) (k : Nat) : Zs (ns ++ [k]) = Zs ns ++ [(k : Int)] := by unfold Zs; rw [List.map_append]; rfl
theorem Zs_has (ns : List Nat) (k : Nat) : (Zs ns).contains (k : Int) = ns.contains k := by
  rw [Bool.eq_iff_iff, List.contains_iff_mem, List.contains_iff_mem]
  unfold Zs
  rw [List.mem_map]
  exact ⟨fun ⟨j, hj, e⟩ => by rw [← Int.ofNat_inj.1 e]; exact hj, fun h => ⟨k, h, rfl⟩⟩
theorem toN_Zs (ns : List Nat) : toN (Zs ns) = ns := by
  unfold toN Zs
  rw [List.map_map]
  exact (List.map_congr_left fun k _ => Int.toNat_natCast k).trans (List.map_id _)

/-- the lists that begin with head and a number less than k -/
def allTo (n f : Nat) (head : List Nat) (k : Nat) : List (List Nat) := (List.range k).flatMap fun j => if head.contains j then [] else allN n f (head ++ [j])
theorem allTo_zero (n f : Nat) (head : List Nat) : allTo n f head 0 = [] := rfl
theorem allTo_all (n f : Nat) (head : List Nat) : allTo n f head n = allN n (f + 1) head := rfl
theorem allTo_hit {n f k : Nat} {head : List Nat} (h : head.contains k = true) : allTo n f head (k + 1) = allTo n f head k := by
  unfold allTo
  rw [List.range_succ, List.flatMap_append, List.flatMap_singleton, if_pos h, List.append_nil]
theorem allTo_miss {n f k : Nat} {head : List Nat} (h : head.contains k = false) : allTo n f head (k + 1) = allTo n f head k ++ allN n f (head ++ [k]) := by
  unfold allTo
  rw [List.range_succ, List.flatMap_append, List.flatMap_singleton, if_neg (by rw [h]; simp)]
theorem allTo_len {n f : Nat} {p : Nat} (hp : ∀ head, (allN n f head).length ≤ p) (head : List Nat) : ∀ k, (allTo n f head k).length ≤ k * p
  | 0 => by rw [allTo_zero, Nat.zero_mul]; exact Nat.le_refl _
  | k + 1 => by
    have i1 := allTo_len hp head k
    cases h : head.contains k with
    | true => rw [allTo_hit h, Nat.succ_mul]; omega
    | false => rw [allTo_miss h, List.length_append, Nat.succ_mul]; have := hp (head ++ [k]); omega
theorem allN_len {n : Nat} (hn : n ≤ 6) : ∀ (f : Nat) (head : List Nat), (allN n f head).length ≤ 6 ^ f
  | 0, head => by show [head].length ≤ _; simp
  | f + 1, head => by
    rw [← allTo_all, Nat.pow_succ, Nat.mul_comm]
    exact Nat.le_trans (allTo_len (allN_len hn f) head n) (Nat.mul_le_mul_right _ hn)

theorem only_grown {w w' : World} {o : Option Nat} (h : w.grownBy w' o) : Only o.toList w w' :=
  ⟨h.os, h.tape, h.output, h.size, fun k hk hn => h.block k hk (fun e => hn (by rw [← e]; simp))⟩
theorem not_toList {o : Option Nat} {g : Nat} (h : o ≠ some g) : g ∉ o.toList := by
  intro hm; cases o with
  | none => simp at hm
  | some x => simp at hm; exact h (by rw [hm])
theorem only_step {w wr w4 w5 : World} {o o2 : Option Nat} (h1 : Only o.toList w wr) (h2 : Below wr.heap.size wr w4) (h3 : Only o2.toList w4 w5) (ho : o2 = o ∨ ∃ z, o2 = some z ∧ w.heap.size ≤ z) : Only o.toList w w5 := by
  have hs1 := h1.size
  have hs2 := h2.size
  refine ⟨h3.os.trans (h2.os.trans h1.os), h3.tape.trans (h2.tape.trans h1.tape), h3.output.trans (h2.output.trans h1.output), Nat.le_trans hs1 (Nat.le_trans hs2 h3.size), fun k hk hn => ?_⟩
  rw [h3.block k (by omega) ?_, h2.block k (by omega), h1.block k hk hn]
  rcases ho with rfl | ⟨z, rfl, hz⟩
  · exact hn
  · intro hm; simp at hm; omega

/-- What a call that adds rows leaves. -/
structure Adds (v : Value) (w : World) (R : List (Nat × Nat)) (v' : Value) (w' : World) (R' : List (Nat × Nat)) (hg : Option Nat) : Prop where
  only : Only v.ownBlock.toList w w'
  own : v'.ownBlock = v.ownBlock ∨ ∃ z, v'.ownBlock = some z ∧ w.heap.size ≤ z
  rows : ∀ g, g ∈ blks R' → g ∈ blks R ∨ hg = some g ∨ w.heap.size ≤ g

set_option maxRecDepth 100000 in
set_option maxHeartbeats 1000000 in
theorem l9All_leaf (n : Nat) (head : List Nat) (hl : head.length = n) (base hg c : Nat) (v : Value) (R : List (Nat × Nat)) (M : Lin.Mat) (w : World) (hb : base ≤ hg) (hgs : hg < w.heap.size) (hI : IntsAt w hg (some ⟨hg, 0, none⟩) (Zs head)) (hO : OwnMx w base v R M) (hR : hg ∉ blks R) (hv : v.ownBlock ≠ some hg) (hm : M.length + 1 ≤ 1000000) :
    Calls Try.prog 42 #[.int .i64 (n : Int), .slice (some ⟨hg, 0, none⟩) n c, v] w fun e w' => ∃ v' R', e = .returned v' ∧ OwnMx w' base v' R' (M ++ [Zs head]) ∧ Adds v w R v' w' R' (some hg) := by
  obtain ⟨i9, hi9, hz90, hz91, hz92⟩ := info_parts info_row
  have HI := Lib.hid hI
  have HO := Lib.hid hO
  have HR := Lib.hid hR
  have HV := Lib.hid hv
  have HL := Lib.hid ((Zs_len head).trans hl)
  have hbs : base ≤ w.heap.size := by omega
  have HOW := Lib.hid hO.own
  clear hI hO hR hv hl
  go_enter Try.func42, Try.ntmps42
  have hnn : ((n : Int) == (n : Int)) = true := by simp
  go_wp2_with (at_builtin; refine wpList_append_own_at _ rfl _ _ 52 rfl base 22 i9 (.slice none 0 0) 1 24 Try.underlying52 hi9 hz90 hz91 hz92 rfl (by decide) _ _ _ rfl (HOW.out.alloc _) ⟨w.heap.size, 0, none⟩ 1 1 [.slice (some ⟨hg, 0, none⟩) n c] rfl rfl ?c1 ?c2 ?c3 ?c4 ?c5 ?_)
  case c1 => intro j u hj; exact Mem.cell_new w _ _ j u hj
  case c2 => intro u hu; simp at hu; subst hu; rfl
  case c3 => unfold maxLen; omega
  case c4 => omega
  case c5 => simp; omega
  intro v' w3 hown1 hgrow _ hob
  have hBA : Below w.heap.size w (w.alloc (.cells #[.slice (some ⟨hg, 0, none⟩) n c] 22)) := (Below.refl _ _).alloc (Nat.le_refl _) _
  have hob2 : v'.ownBlock = v.ownBlock ∨ ∃ z, v'.ownBlock = some z ∧ (w.alloc (.cells #[.slice (some ⟨hg, 0, none⟩) n c] 22)).heap.size ≤ z := by
    rcases hob with e | e
    · exact .inl e
    · exact .inr ⟨_, e, by first | exact Nat.le_refl _ | (rw [World.size_alloc]; exact Nat.le_refl _)⟩
  have hO5 : OwnMx w3 base v' (R ++ [(hg, c)]) (M ++ [Zs head]) := by
    refine OwnMx.next (HO.out.keeps hBA) hb (by simp; omega) (HI.out.keeps hBA) HR.out HV.out ?_ hgrow hob2
    rw [HL.out]; exact hown1
  have HA : Adds v w R v' w3 (R ++ [(hg, c)]) (some hg) := by
    refine ⟨?_, ?_, fun g hm => ?_⟩
    · have := only_grown hgrow
      exact (Only.of_below _ hBA).trans this
    · rcases hob2 with e | ⟨z, e, hz⟩
      · exact .inl e
      · exact .inr ⟨z, e, by rw [World.size_alloc] at hz; omega⟩
    · rw [show blks (R ++ [(hg, c)]) = blks R ++ [hg] by simp [blks], List.mem_append, List.mem_singleton] at hm
      rcases hm with h | rfl
      · exact .inl h
      · exact .inr (.inl rfl)
  have HO5 := Lib.hid hO5
  have HAA := Lib.hid HA
  clear hown1 hgrow hob hob2 hO5 HA
  go_wp2
  go_ret
  exact ⟨_, _, rfl, HO5.out, HAA.out⟩

end Go.Proofs.Ytbkkdgmiokdbmaa

/-! WALKS: spec's chapter 9: all lists of names: the lists that begin with a head. -/

namespace Go.Proofs.Ytbkkdgmiokdbmaa
open Go.RowKit
open Sets Nam

set_option maxRecDepth 100000 in
set_option maxHeartbeats 2000000 in
theorem l9All_any (n : Nat) (hn6 : n ≤ 6) (base : Nat) : ∀ (f : Nat) (head : List Nat) (l : Nat), head.length = l → l + f = n → ∀ (hg c : Nat) (v : Value) (R : List (Nat × Nat)) (M : Lin.Mat) (w : World), base ≤ hg → hg < w.heap.size → IntsAt w hg (some ⟨hg, 0, none⟩) (Zs head) → OwnMx w base v R M → hg ∉ blks R → v.ownBlock ≠ some hg → M.length + 6 ^ f ≤ 1000000 →
    Calls Try.prog 42 #[.int .i64 (n : Int), .slice (some ⟨hg, 0, none⟩) l c, v] w fun e w' => ∃ v' R', e = .returned v' ∧ OwnMx w' base v' R' (M ++ (allN n f head).map Zs) ∧ Adds v w R v' w' R' (some hg)
  | 0, head, l, hl, hf, hg, c, v, R, M, w, hb, hgs, hI, hO, hR, hv, hm => by
    obtain rfl : l = n := by omega
    exact l9All_leaf l head hl base hg c v R M w hb hgs hI hO hR hv hm
  | f + 1, head, l, hl, hf, hg, c, v, R, M, w, hb, hgs, hI, hO, hR, hv, hm => by
    obtain ⟨i0, hi, hz0, hz1, hz2⟩ := info_parts info_int
    have IH := Lib.hid (l9All_any n hn6 base f)
    have hln : l < n := by omega
    have hne : ((l : Int) == (n : Int)) = false := by rw [beq_eq_false_iff_ne]; omega
    have hZ : (Zs head).length = l := (Zs_len head).trans hl
    obtain ⟨p, hp⟩ : ∃ p, 6 ^ f = p := ⟨_, rfl⟩
    have hm2 : M.length + 6 * p ≤ 1000000 := by rw [Nat.pow_succ, hp] at hm; omega
    have HP := Lib.hid hp
    have HLEN := Lib.hid (fun k => allTo_len (f := f) (p := p) (fun h => by rw [← hp]; exact allN_len hn6 f h) head k)
    have HI := Lib.hid hI
    have HO := Lib.hid hO
    have HR := Lib.hid hR
    have HV := Lib.hid hv
    have HZ := Lib.hid hZ
    have HL := Lib.hid hl
    have hbs : base ≤ w.heap.size := by omega
    clear hI hO hR hv hl hZ hm hp
    go_enter Try.func42, Try.ntmps42
    go_wp2
    go_loopw [2, 7] (fun u i wr => ∃ (k : Nat) (R' : List (Nat × Nat)), k ≤ n ∧ i = .int .i64 (k : Int) ∧ OwnMx wr base u R' (M ++ (allTo n f head k).map Zs) ∧ Adds v w R u wr R' none) (fun _ i _ => n - (intOf i).toNat)
    case atStart => exact ⟨0, R, Nat.zero_le _, rfl, by rw [allTo_zero, List.map_nil, List.append_nil]; exact HO.out, Only.refl _ _, .inl rfl, fun g h => .inl h⟩
    case round =>
      obtain ⟨k, R', hk, rfl, hO, hA⟩ := hrel
      have HO2 := Lib.hid hO
      have HA := Lib.hid hA
      have hsz := hA.only.size
      have hIw : IntsAt wr hg (some ⟨hg, 0, none⟩) (Zs head) := HI.out.only hA.only (not_toList HV.out)
      have HIW := Lib.hid hIw
      clear hO hA hIw
      by_cases hlt : k < n
      · cases hq : head.contains k with
        | true =>
          have HE := Lib.hid (allTo_hit (n := n) (f := f) hq)
          have HQ : Hid ((Zs head).contains (k : Int) = true) := (Zs_has head k).trans hq
          clear hq
          go_wp2_with fail
          refine (l2Has_any _ _ (Zs head) l HZ.out (by omega) (k : Int) true HQ.out _ HIW.out.ints).mono ?_
          rintro e w2 ⟨rfl, rfl⟩
          go_wp2
          go_roundw
          case rel => exact ⟨k + 1, R', by omega, by go_num, by rw [HE.out]; exact HO2.out, HA.out⟩
          case measure => simp [intOf]; omega
        | false =>
          have HE := Lib.hid (allTo_miss (n := n) (f := f) hq)
          have HQ : Hid ((Zs head).contains (k : Int) = false) := (Zs_has head k).trans hq
          have hlk := HLEN.out k
          have hkp : k * p ≤ 5 * p := Nat.mul_le_mul_right _ (by omega)
          have HME : Hid ((M ++ (allTo n f head k).map Zs).length + 6 ^ f ≤ 1000000) := by
            have : (M ++ (allTo n f head k).map Zs).length + 6 ^ f ≤ 1000000 := by
              rw [List.length_append, List.length_map, HP.out]; omega
            exact this
          clear hq hlk hkp
          go_wp2_with fail
          refine (l2Has_any _ _ (Zs head) l HZ.out (by omega) (k : Int) false HQ.out _ HIW.out.ints).mono ?_
          rintro e w2 ⟨rfl, rfl⟩
          have hb1 : Below wr.heap.size wr (wr.alloc (.cells #[] 3)) := (Below.refl _ _).alloc (Nat.le_refl _) _
          have HN1 := Lib.hid (HIW.out.keeps hb1).ints
          have HO0 := Lib.hid (OwnInts.lit wr wr.heap.size [] (Nat.le_refl _) (by simp))
          have HB1 := Lib.hid hb1
          clear hb1
          unfold OwnInts at HO0
          go_wp2_with (at_builtin; refine wpList_append_own_at _ rfl _ _ 22 rfl wr.heap.size 3 i0 (.int .i64 0) 1 8 Try.underlying22 hi hz0 hz1 hz2 rfl (by decide) (.slice (some ⟨wr.heap.size, 0, none⟩) 0 0) 0 [] rfl HO0.out ⟨hg, 0, none⟩ l c ((Zs head).map (Value.int .i64)) rfl ?c0 (Ints.news HN1.out) (one_ints _) ?c3 ?c4 ?c5 ?_)
          case c0 => rw [List.length_map, HZ.out]; simp
          case c3 => unfold maxLen; omega
          case c4 => omega
          case c5 => simp
          intro v1 w3 hown1 hgrow1 _ _
          have hb3 : Below wr.heap.size wr w3 := HB1.out.grown hgrow1 (by simp) (fun g hg => by simp only [Value.ownBlock, Option.some.injEq] at hg; omega)
          have hsz3 := hb3.size
          have HO1 := Lib.hid hown1
          have HB3 := Lib.hid hb3
          clear hown1 hgrow1 hb3 HO0 HN1 HB1
          go_wp2_with (at_builtin; refine wpList_append_own_at _ rfl _ _ 22 rfl wr.heap.size 3 i0 (.int .i64 0) 1 8 Try.underlying22 hi hz0 hz1 hz2 rfl (by decide) v1 l ((Zs head).map (Value.int .i64)) rfl (HO1.out.alloc _) ⟨w3.heap.size, 0, none⟩ 1 1 [.int .i64 (k : Int)] rfl rfl ?c1 ?c2 ?c3 ?c4 ?c5 ?_)
          case c1 => intro j u hj; exact Mem.cell_new w3 _ _ j u hj
          case c2 => intro u hu; simp at hu; subst hu; rfl
          case c3 => unfold maxLen; omega
          case c4 => omega
          case c5 => simp; omega
          intro v2 w4 hown2 hgrow2 _ _
          obtain ⟨g2, cap2, rfl, -⟩ := hown2.form (by omega)
          have hb4 : Below wr.heap.size wr w4 := (HB3.out.alloc hsz3 _).grown hgrow2 (by simp; omega) (fun g hg => (HO1.out.lt g hg).1)
          have hO4 : OwnInts w4 wr.heap.size (.slice (some ⟨g2, 0, none⟩) (l + 1) cap2) (Zs (head ++ [k])) := by
            unfold OwnInts
            rw [Zs_next, List.length_append, List.map_append, HZ.out]
            exact hown2
          obtain ⟨q1, q2, q3, -⟩ := hO4.known
          have HB4 := Lib.hid hb4
          have hcall := IH.out (head ++ [k]) (l + 1) (by rw [List.length_append, HL.out]; rfl) (by omega) g2 cap2 u2 R' (M ++ (allTo n f head k).map Zs) w4 (by omega) q2 q3 (HO2.out.keeps hb4) (fun h => by have := (HO2.out.old h).2; omega) (fun e => by have := (HO2.out.own.lt g2 e).2; omega) HME.out
          have HC := Lib.hid hcall
          clear hown2 hgrow2 hO4 q3 hcall hb4 HB3 HO1
          go_wp2_with fail
          refine HC.out.mono ?_
          rintro e w5 ⟨v5, R5, rfl, hO5, hA5⟩
          have HO5 := Lib.hid hO5
          have HA5 : Hid (Adds v w R v5 w5 R5 none) := by
            have hx := HA.out
            have hb := HB4.out
            have hs4 := hb.size
            refine ⟨only_step hx.only hb hA5.only hx.own, ?_, fun g hg => ?_⟩
            · rcases hA5.own with e | ⟨z, e, hz⟩
              · rw [e]; exact hx.own
              · exact .inr ⟨z, e, by omega⟩
            · rcases hA5.rows g hg with h | h | h
              · exact hx.rows g h
              · cases h; exact .inr (.inr (by omega))
              · exact .inr (.inr (by omega))
          clear hO5 hA5
          go_wp2
          go_roundw
          case rel => exact ⟨k + 1, R5, by omega, by go_num, by rw [HE.out, List.map_append, ← List.append_assoc]; exact HO5.out, HA5.out⟩
          case measure => simp [intOf]; omega
      · have E : Hid (allTo n f head k = allN n (f + 1) head) := by
          have h1 : k = n := by omega
          have : allTo n f head k = allN n (f + 1) head := by rw [h1]; exact allTo_all n f head
          exact this
        go_wp2
        go_ret
        exact ⟨_, R', rfl, by rw [← E.out]; exact HO2.out, HA.out.only, HA.out.own, fun g h => (HA.out.rows g h).elim .inl (fun h => h.elim (fun h => by cases h) (fun h => .inr (.inr h)))⟩

end Go.Proofs.Ytbkkdgmiokdbmaa

/-! WALKS: spec's l3Copy. -/

namespace Go.Proofs.Ytbkkdgmiokdbmaa
open Go.RowKit
open Sets Nam

theorem run_append_noneN {P : Program} {w : World} (base : Nat) (t ty e : TypeId) (i : TypeInfo) (size : Nat) (ht : P.underlying t = some (.slice e)) (hi : P.info? e = some i)
    (v : Value) (n : Nat) (xs : List Value) (hown : w.ownsRow base e size v n xs) (c : Nat) :
    (Builtin.append_ #[t, t] ty #[v, .slice none 0 c]).run P w = .ok v w := by
  rcases hown.2 with ⟨rfl, rfl⟩ | ⟨g, cap, cur, rfl, _, _, hnc, _⟩
  · simp [Builtin.append_, run_underlying ht, sizeOf, typeInfo, hi, Builtin.lenOf, Builtin.firstCells]
  · simp [Builtin.append_, run_underlying ht, sizeOf, typeInfo, hi, Builtin.lenOf, Builtin.firstCells, hnc, storeCells]
/-- append of a slice that lies anywhere or is nil, whatever its room, at a step of a region that draws. -/
theorem step_append_srcN {P : Program} (w : World) {ops : Array Oper} {o : Oper} {a : Act} {K : Act → World → Prop} {Q : Exit → Act → World → Prop} {E : Prop} (hgd : o.guard = none) (s x : Operand) (t : TypeId)
    (ho : o.op = .call { callee := .builtin .append, args := #[s, x], argTypes := #[t, t] })
    (base : Nat) (e : TypeId) (i : TypeInfo) (z : Value) (ht : P.underlying t = some (.slice e)) (hi : P.info? e = some i) (hz : i.zero = some z)
    (hsize : i.size = 1) (hby : i.bytes = 8) (hzs : z.cells.size = 1)
    (v : Value) (n : Nat) (xs : List Value) (hs : a.eval s = v) (hown : w.ownsRow base e 1 v n xs)
    (src : Option Addr) (c : Nat) (ys : List Int) (hx : a.eval x = .slice src ys.length c) (hys : Ints w src ys)
    (h63 : n + ys.length ≤ maxLen) (hbytes : (n + ys.length) * 8 ≤ 140737488355328) (hbase : base ≤ w.heap.size)
    (h : ∀ v' w', w'.ownsRow base e 1 v' (n + ys.length) (xs ++ ys.map (Value.int .i64)) → w.grownBy w' v.ownBlock → K (a.put o.dst v') w') :
    if Region.wanted o (yielded ops a.tmps) = true then Oper.wp P o a w K Q else E := by
  have hw : Region.wanted o (yielded ops a.tmps) = true := by simp [Region.wanted, hgd]
  rw [if_pos hw]
  cases src with
  | some ad => exact wp_append_own w s x t ho base e i z 1 8 ht hi hz hsize hby hzs (by decide) v n xs hs hown ad ys.length c (ys.map (Value.int .i64)) hx (by simp) (Ints.news hys) (one_ints ys) h63 hbytes hbase fun v' w' h2 h3 _ => h v' w' h2 h3
  | none =>
    have hyn := hys.none_nil
    subst hyn
    have hrun := run_append_noneN (P := P) (w := w) base t o.type e i 1 ht hi v n xs hown c
    have hk := h v w (by simpa using hown) (World.grownBy.refl w _)
    have hx2 : a.eval x = .slice none 0 c := hx
    unfold Oper.wp execOp
    simp only [ho, resolve, invoke, builtin, Sem.run_bind, Sem.run_pure, Result.andThen_ok, List.map_toArray, List.map_cons, List.map_nil, hs, hx2, hrun]
    exact hk

set_option maxRecDepth 100000 in
set_option maxHeartbeats 2000000 in
theorem l3Copy_any (n : Int) (a : Option Addr) (c : Nat) (xs : List Int) (hlen : xs.length ≤ 1099511627776) (w : World) (h : Ints w a xs) :
    Calls Try.prog 41 #[cx n (.slice a xs.length c)] w fun e w' => ∃ v, e = .returned (cx n v) ∧ OwnInts w' w.heap.size v xs ∧ Below w.heap.size w w' := by
  obtain ⟨i0, hi, hz0, hz1, hz2⟩ := info_parts info_int
  have hb0 : Below w.heap.size w ((w.alloc (Obj.cells #[Value.int IntKind.i64 n, Value.slice a xs.length c] 31)).alloc (Obj.cells #[Value.int IntKind.i64 0, Value.slice none 0 0] 31)) := ((Below.refl _ _).alloc (Nat.le_refl _) _).alloc (by simp) _
  have htc := (Two.new w (.int .i64 n) (.slice a xs.length c) 31).alloc (.cells #[.int .i64 0, .slice none 0 0] 31)
  have htr := Two.new (w.alloc (.cells #[.int .i64 n, .slice a xs.length c] 31)) (.int .i64 0) (.slice none 0 0) 31
  rw [World.size_alloc] at htr
  have HH0 := h.keeps hb0
  go_enter Try.func41, Try.ntmps41
  go_wp2_with fail
  obtain ⟨br, hbr⟩ : ∃ br, w.heap.size + 1 = br := ⟨_, rfl⟩
  rw [hbr] at htr
  have hwb : w.heap.size < br := by omega
  generalize ((w.alloc (Obj.cells #[Value.int IntKind.i64 n, Value.slice a xs.length c] 31)).alloc (Obj.cells #[Value.int IntKind.i64 0, Value.slice none 0 0] 31)) = V at *
  have TAv := Lib.hid htc
  have TRv := Lib.hid htr
  have HXv := Lib.hid HH0
  have HBVv := Lib.hid hb0
  have hvs := hb0.size
  have hbv := htr.1
  clear htc htr HH0 hb0 h
  try rw [hbr]
  clear hbr
  obtain ⟨e0, e1, e2, e3, e4⟩ := TAv.out
  have hba : Below V.heap.size V (V.alloc (.cells #[] 3)) := (Below.refl _ _).alloc (Nat.le_refl _) _
  have HO0 : Hid ((V.alloc (.cells #[] 3)).ownsRow V.heap.size 3 1 (.slice (some ⟨V.heap.size, 0, none⟩) 0 0) 0 []) := Lib.hid (OwnInts.lit V V.heap.size [] (Nat.le_refl _) (by simp))
  have HBA := Lib.hid hba
  clear hba
  have KEEP : ∀ w' : World, Below V.heap.size V w' → w'.cell? ⟨w.heap.size, 0, none⟩ = some (.int .i64 n) ∧ w'.cell? ⟨w.heap.size, 1, none⟩ = some (.slice a xs.length c) := fun w' hb => ⟨(TAv.out.keeps hb).2.1, (TAv.out.keeps hb).2.2.1⟩
  have hbA : Below V.heap.size V ((V.alloc (.cells #[] 3)).drew) := HBA.out.drew
  have KS : ∀ (W : World) (x y : Value), (W.cell? ⟨w.heap.size, 0, none⟩ = some (.int .i64 n) ∧ W.cell? ⟨w.heap.size, 1, none⟩ = some (.slice a xs.length c)) → (((W.setCell ⟨br, 0, none⟩ x).setCell ⟨br, 1, none⟩ y).cell? ⟨w.heap.size, 0, none⟩ = some (.int .i64 n) ∧ ((W.setCell ⟨br, 0, none⟩ x).setCell ⟨br, 1, none⟩ y).cell? ⟨w.heap.size, 1, none⟩ = some (.slice a xs.length c)) := fun W x y ⟨h1, h2⟩ => by
    have q1 : w.heap.size ≠ br := by omega
    refine ⟨?_, ?_⟩ <;> (rw [World.cell?_setCell_far _ _ _ _ (Ne.symm q1), World.cell?_setCell_far _ _ _ _ (Ne.symm q1)]; assumption)
  have HBD : Hid (Below V.heap.size V V.drew) := Lib.hid (Below.refl _ _).drew
  go_region_held3 (fun w' => w'.cell? ⟨w.heap.size, 0, none⟩ = some (.int .i64 n) ∧ w'.cell? ⟨w.heap.size, 1, none⟩ = some (.slice a xs.length c))
    (first | exact KS _ _ _ (KEEP _ hb3) | exact KEEP _ hb3 | exact KEEP _ hbA | exact KEEP _ HBD.out | exact KEEP _ HBA.out | fail "keep")
    ((first
      | (refine step_append_srcN _ (by rfl) _ _ _ (by rfl) V.heap.size 3 i0 (.int .i64 0) Try.underlying22 hi hz0 hz1 hz2 rfl (.slice (some ⟨V.heap.size, 0, none⟩) 0 0) 0 [] (by rfl) HO0.out.drew a c xs (by rfl) (HXv.out.keeps hbA) (by unfold maxLen; omega) (by omega) (by simp) ?_; intro v1 w3 hown1 hgrow1
         have hb3 : Below V.heap.size V w3 := hbA.grown hgrow1 (by simp) (fun g hg => (HO0.out.lt g hg).1)
         have hs3 := hb3.size
         have hO3 : OwnInts w3 V.heap.size v1 xs := (by unfold OwnInts; have h := hown1; rw [Nat.zero_add, List.nil_append] at h; exact h)
         obtain ⟨a2, c2x, g2, rfl, _⟩ := OwnInts.atc hO3
         obtain ⟨r0, r1, r2, r3, r4⟩ := TRv.out.keeps hb3)
      | fail "arm"))
  have HO2 := Lib.hid hO3
  have HB6 : Hid (Below w.heap.size w w3) := HBVv.out.trans (hb3.mono hvs)
  clear hO3 hown1 hgrow1
  go_wp2
  refine ret_cx br rfl rfl (x := .int .i64 n) (y := .slice a2 xs.length c2x) (by go_simp) (by go_simp) rfl ?_
  exact ⟨_, rfl, (OwnInts.set (OwnInts.set HO2.out _ _ _ (by omega)) _ _ _ (by omega)).lower (by omega), (HB6.out.setCell (by dsimp only; omega) _).setCell (by dsimp only; omega) _⟩

end Go.Proofs.Ytbkkdgmiokdbmaa

/-! WALKS: spec's chapter 9: CanonicalComplex: helpers. -/

namespace Go.Proofs.Ytbkkdgmiokdbmaa
open Go.RowKit
open Sets Nam

theorem two_only {w w' : World} {G : List Nat} {b : Nat} {x y : Value} (h : Two w b x y) (k : Only G w w') (hb : b ∉ G) : Two w' b x y := by
  obtain ⟨h0, h1, h2, h3, h4⟩ := h
  have e := k.block b h0 hb
  refine ⟨Nat.lt_of_lt_of_le h0 k.size, ?_, ?_, ?_, ?_⟩
  · rw [World.cell?_of_block (w := w) e]; exact h1
  · rw [World.cell?_of_block (w := w) e]; exact h2
  · rw [World.frozen?_of_block (w := w) e]; exact h3
  · rw [World.frozen?_of_block (w := w) e]; exact h4

theorem l9All_start (n : Nat) (hn6 : n ≤ 6) (w : World) :
    Calls Try.prog 42 #[.int .i64 (n : Int), .slice (some ⟨w.heap.size, 0, none⟩) 0 0, .slice (some ⟨w.heap.size + 1, 0, none⟩) 0 0] ((w.alloc (.cells #[] 3)).alloc (.cells #[] 22)) fun e w' => ∃ v' R', e = .returned v' ∧ OwnMx w' w.heap.size v' R' ((allNames n).map Zs) ∧ Below w.heap.size w w' := by
  have hs : (w.alloc (.cells #[] 3)).heap.size = w.heap.size + 1 := by simp
  have hM := OwnMx.lit (w.alloc (.cells #[] 3)) w.heap.size (by omega)
  rw [hs] at hM
  have hB : Below w.heap.size w ((w.alloc (.cells #[] 3)).alloc (.cells #[] 22)) := ((Below.refl _ _).alloc (Nat.le_refl _) _).alloc (by omega) _
  have hp : 6 ^ n ≤ 46656 := Nat.pow_le_pow_right (by decide) hn6
  refine (l9All_any n hn6 w.heap.size n [] 0 rfl (by omega) w.heap.size 0 (.slice (some ⟨w.heap.size + 1, 0, none⟩) 0 0) [] [] _ (Nat.le_refl _) (by simp; omega) (fun j hj => absurd hj (Nat.not_lt_zero _)) hM (by simp) (by simp [Value.ownBlock]) (by simp only [List.length_nil]; omega)).mono ?_
  rintro e w' ⟨v', R', he, hO, hA⟩
  refine ⟨v', R', he, hO, hB.trans ?_⟩
  have := hA.only
  exact this.below (fun g hg => by simp [Value.ownBlock] at hg; omega) (by simp; omega)

theorem names_row (L : List (List Nat)) (k : Nat) (h : k < L.length) : Lin.row (L.map Zs) k = Zs (L.getD k []) := by
  unfold Lin.row
  simp only [List.getD, List.getElem?_map, List.getElem?_eq_getElem h]; rfl
theorem Nms.of_names {n : Nat} (h1 : 1 ≤ n) (h6 : n ≤ 6) {ns : List Nat} (h : Names n ns) : Nms n (Zs ns) := by
  refine ⟨(Zs_len ns).trans h.len, h1, h6, by rw [toN_Zs]; exact h, fun i hi => ?_⟩
  have hlt : i < ns.length := by rw [h.len]; exact hi
  have e : (Zs ns).getD i 0 = ((pt ns i : Nat) : Int) := by
    unfold Zs pt
    simp only [List.getD, List.getElem?_map, List.getElem?_eq_getElem hlt]; rfl
  exact ⟨pt ns i, e, h.lt hi, by rw [toN_Zs]⟩
theorem all_at {n k : Nat} (h : k < (allNames n).length) : Names n ((allNames n).getD k []) := by
  rw [← mem_allNames, List.getD, List.getElem?_eq_getElem h]; exact List.getElem_mem h
theorem least_next (xs : List Int) (L : List (List Nat)) (k : Nat) (h : k < L.length) (best : List Int) : leastOf xs (L.take (k + 1)) best = if lessL (renL (L.getD k []) xs) (leastOf xs (L.take k) best) = true then renL (L.getD k []) xs else leastOf xs (L.take k) best := by
  unfold leastOf
  rw [List.take_add_one, List.foldl_append, List.getD, List.getElem?_eq_getElem h]; rfl
theorem allNames_len {n : Nat} (h : n ≤ 6) : (allNames n).length ≤ 46656 := Nat.le_trans (allN_len h n []) (Nat.pow_le_pow_right (by decide) h)
theorem least_len {n : Nat} {xs : List Int} (hc : isC n xs = true) (k : Nat) : (leastOf xs ((allNames n).take k) xs).length = xs.length :=
  (leastOf_spec xs ((allNames n).take k) xs rfl (fun ns h => renL_length ((mem_allNames n ns).1 (List.mem_of_mem_take h)) hc)).2.1

theorem l9Complex_row {m : Nat} (hm1 : 1 ≤ m) (hm6 : m ≤ 6) (a : Option Addr) (c : Nat) {xs : List Int} (hC : isC (m : Int) xs = true) (b : Option Addr) (c2 : Nat) {ns : List Nat} (hN : Names m ns) (W : World) (h : Ints W a xs) (hb : Ints W b (Zs ns)) :
    Calls Try.prog 38 #[cx (m : Int) (.slice a xs.length c), .slice b m c2] W fun e w' => ∃ a6 c6 g6, e = .returned (cx (m : Int) (.slice a6 xs.length c6)) ∧ xs.length ≤ c6 ∧ W.heap.size ≤ g6 ∧ IntsAt w' g6 a6 (renL ns xs) ∧ Below W.heap.size W w' := by
  refine (l9Complex_any (m : Int) a c xs b c2 (Zs ns) m (Nms.of_names hm1 hm6 hN) (isC_ok hC) (isC_le hC) W h hb).mono ?_
  rintro e w' ⟨v, he, hO, hB⟩
  obtain ⟨a6, c6, g6, hv, hc, hg, hI, _⟩ := OwnInts.ata hO hB.size
  rw [toN_Zs] at hv hc hI
  rw [renL_length hN hC] at hv hc
  exact ⟨a6, c6, g6, by rw [he, hv], hc, hg, hI, hB⟩

end Go.Proofs.Ytbkkdgmiokdbmaa
