/-
  TEXTS of one claim, put together: WPartM, WPartU, WNamS6, WNamS7.
-/
import Derived.Test.YtbkkdgmiokdbmaaGreatJg19
import Derived.Laws.AppendOwnNone
import Derived.StillTactics
import Derived.Deep.RegionHeld3
import Derived.Deep.AppendLies
/-! WALKS: spec's chapter 5: meet (written by genpart.py). -/

namespace Go.Proofs.YtbkkdgmiokdbmaaGreat
open Go.RowKit
open Sets

theorem Ints.news {w : World} {ad : Addr} {xs : List Int} (h : Ints w (some ad) xs) : ∀ (j : Nat) u, (xs.map (Value.int .i64))[j]? = some u → w.cell? (ad.add j) = some u := fun j u hu => by
  have hj : j < (xs.map (Value.int .i64)).length := (List.getElem?_eq_some_iff.1 hu).1
  rw [List.length_map] at hj
  rw [ints_cell xs j hj] at hu
  cases hu
  obtain ⟨b, o, e, hc⟩ := h j hj
  cases e
  have e1 : (⟨b, o, none⟩ : Addr).add j = ⟨b, o + j, none⟩ := by unfold Addr.add; split <;> simp_all
  rw [e1]; exact hc
theorem Ints.none_nil {w : World} {xs : List Int} (h : Ints w none xs) : xs = [] := by
  rcases Nat.eq_zero_or_pos xs.length with e | e
  · exact List.eq_nil_of_length_eq_zero e
  · obtain ⟨_, _, e, _⟩ := h 0 e; cases e
theorem one_ints (xs : List Int) : ∀ u ∈ xs.map (Value.int .i64), u.oneCell' = true := by
  intro u hu; obtain ⟨x, _, rfl⟩ := List.mem_map.1 hu; rfl
theorem bothOk_le {n : Int} {xs : List Int} (h : isC n xs = true) : xs.length ≤ 64 := isC_le h
theorem and_meet2 (f g : Nat) (hf : f < 64) (hg : g < 64) : bits BinOp.and IntKind.i64 (f : Int) (g : Int) = meetZ f (g : Int) := by
  rw [and_meet f g hf hg]
  show ((f &&& g : Nat) : Int) = ((g &&& f : Nat) : Int)
  rw [Nat.and_comm]


end Go.Proofs.YtbkkdgmiokdbmaaGreat

/-! WALKS: spec's chapter 5: union (written by genpart.py). -/

namespace Go.Proofs.YtbkkdgmiokdbmaaGreat
open Go.RowKit
open Sets

/-- append of a slice that lies anywhere or is nil, at a step of a region that draws. -/
theorem step_append_src {P : Program} (w : World) {ops : Array Oper} {o : Oper} {a : Act} {K : Act → World → Prop} {Q : Exit → Act → World → Prop} {E : Prop} (hgd : o.guard = none) (s x : Operand) (t : TypeId)
    (ho : o.op = .call { callee := .builtin .append, args := #[s, x], argTypes := #[t, t] })
    (base : Nat) (e : TypeId) (i : TypeInfo) (z : Value) (ht : P.underlying t = some (.slice e)) (hi : P.info? e = some i) (hz : i.zero = some z)
    (hsize : i.size = 1) (hby : i.bytes = 8) (hzs : z.cells.size = 1)
    (v : Value) (n : Nat) (xs : List Value) (hs : a.eval s = v) (hown : w.ownsRow base e 1 v n xs)
    (src : Option Addr) (c : Nat) (ys : List Int) (hx : a.eval x = .slice src ys.length c) (hsrc : src = none → c = 0) (hys : Ints w src ys)
    (h63 : n + ys.length ≤ maxLen) (hbytes : (n + ys.length) * 8 ≤ 140737488355328) (hbase : base ≤ w.heap.size)
    (h : ∀ v' w', w'.ownsRow base e 1 v' (n + ys.length) (xs ++ ys.map (Value.int .i64)) → w.grownBy w' v.ownBlock → K (a.put o.dst v') w') :
    if Region.wanted o (yielded ops a.tmps) = true then Oper.wp P o a w K Q else E := by
  have hw : Region.wanted o (yielded ops a.tmps) = true := by simp [Region.wanted, hgd]
  rw [if_pos hw]
  cases src with
  | some ad => exact wp_append_own w s x t ho base e i z 1 8 ht hi hz hsize hby hzs (by decide) v n xs hs hown ad ys.length c (ys.map (Value.int .i64)) hx (by simp) (Ints.news hys) (one_ints ys) h63 hbytes hbase fun v' w' h2 h3 _ => h v' w' h2 h3
  | none =>
    have hyn := hys.none_nil
    subst hyn
    obtain rfl := hsrc rfl
    have hrun := run_append_owned_none (P := P) (w := w) base t o.type e i 1 ht hi v n xs hown
    have hk := h v w (by simpa using hown) (World.grownBy.refl w _)
    have hx2 : a.eval x = .slice none 0 0 := hx
    unfold Oper.wp execOp
    simp only [ho, resolve, invoke, builtin, Sem.run_bind, Sem.run_pure, Result.andThen_ok, List.map_toArray, List.map_cons, List.map_nil, hs, hx2, hrun]
    exact hk

end Go.Proofs.YtbkkdgmiokdbmaaGreat

/-! WALKS: spec's chapter 9: all lists of names. -/

namespace Go.Proofs.YtbkkdgmiokdbmaaGreat
open Go.RowKit
open Sets Nam

/-- Names as a row of numbers. -/
def Zs (ns : List Nat) : List Int := ns.map fun (k : Nat) => (k : Int)
theorem Zs_len (ns : List Nat) : (Zs ns).length = ns.length := List.length_map ..
theorem Zs_next (ns : List Nat) (k : Nat) : Zs (ns ++ [k]) = Zs ns ++ [(k : Int)] := by unfold Zs; rw [List.map_append]; rfl
theorem Zs_has (ns : List Nat) (k : Nat) : (Zs ns).contains (k : Int) = ns.contains k := by
  rw [Bool.eq_iff_iff, List.contains_iff_mem, List.contains_iff_mem]
  unfold Zs
  rw [List.mem_map]
  exact ⟨fun ⟨j, hj, e⟩ => by rw [← Int.ofNat_inj.1 e]; exact hj, fun h => ⟨k, h, rfl⟩⟩
theorem toN_Zs (ns : List Nat) : toN (Zs ns) = ns := by
  unfold toN Zs
  rw [List.map_map]
  exact (List.map_congr_left fun k _ => Int.toNat_natCast k).trans (List.map_id _)

/-- the lists that begin with head and a number less than k -/
def allTo (n f : Nat) (head : List Nat) (k : Nat) : List (List Nat) := (List.range k).flatMap fun j => if head.contains j then [] else allN n f (head ++ [j])
theorem allTo_zero (n f : Nat) (head : List Nat) : allTo n f head 0 = [] := rfl
theorem allTo_all (n f : Nat) (head : List Nat) : allTo n f head n = allN n (f + 1) head := rfl
theorem allTo_hit {n f k : Nat} {head : List Nat} (h : head.contains k = true) : allTo n f head (k + 1) = allTo n f head k := by
  unfold allTo
  rw [List.range_succ, List.flatMap_append, List.flatMap_singleton, if_pos h, List.append_nil]
theorem allTo_miss {n f k : Nat} {head : List Nat} (h : head.contains k = false) : allTo n f head (k + 1) = allTo n f head k ++ allN n f (head ++ [k]) := by
  unfold allTo
  rw [List.range_succ, List.flatMap_append, List.flatMap_singleton, if_neg (by rw [h]; simp)]
theorem allTo_len {n f : Nat} {p : Nat} (hp : ∀ head, (allN n f head).length ≤ p) (head : List Nat) : ∀ k, (allTo n f head k).length ≤ k * p
  | 0 => by rw [allTo_zero, Nat.zero_mul]; exact Nat.le_refl _
  | k + 1 => by
    have i1 := allTo_len hp head k
    cases h : head.contains k with
    | true => rw [allTo_hit h, Nat.succ_mul]; omega
    | false => rw [allTo_miss h, List.length_append, Nat.succ_mul]; have := hp (head ++ [k]); omega
theorem allN_len {n : Nat} (hn : n ≤ 6) : ∀ (f : Nat) (head : List Nat), (allN n f head).length ≤ 6 ^ f
  | 0, head => by show [head].length ≤ _; simp
  | f + 1, head => by
    rw [← allTo_all, Nat.pow_succ, Nat.mul_comm]
    exact Nat.le_trans (allTo_len (allN_len hn f) head n) (Nat.mul_le_mul_right _ hn)

theorem only_grown {w w' : World} {o : Option Nat} (h : w.grownBy w' o) : Only o.toList w w' :=
  ⟨h.os, h.tape, h.output, h.size, fun k hk hn => h.block k hk (fun e => hn (by rw [← e]; simp))⟩
theorem not_toList {o : Option Nat} {g : Nat} (h : o ≠ some g) : g ∉ o.toList := by
  intro hm; cases o with
  | none => simp at hm
  | some x => simp at hm; exact h (by rw [hm])
theorem only_step {w wr w4 w5 : World} {o o2 : Option Nat} (h1 : Only o.toList w wr) (h2 : Below wr.heap.size wr w4) (h3 : Only o2.toList w4 w5) (ho : o2 = o ∨ ∃ z, o2 = some z ∧ w.heap.size ≤ z) : Only o.toList w w5 := by
  have hs1 := h1.size
  have hs2 := h2.size
  refine ⟨h3.os.trans (h2.os.trans h1.os), h3.tape.trans (h2.tape.trans h1.tape), h3.output.trans (h2.output.trans h1.output), Nat.le_trans hs1 (Nat.le_trans hs2 h3.size), fun k hk hn => ?_⟩
  rw [h3.block k (by omega) ?_, h2.block k (by omega), h1.block k hk hn]
  rcases ho with rfl | ⟨z, rfl, hz⟩
  · exact hn
  · intro hm; simp at hm; omega

/-- What a call that adds rows leaves. -/
structure Adds (v : Value) (w : World) (R : List (Nat × Nat)) (v' : Value) (w' : World) (R' : List (Nat × Nat)) (hg : Option Nat) : Prop where
  only : Only v.ownBlock.toList w w'
  own : v'.ownBlock = v.ownBlock ∨ ∃ z, v'.ownBlock = some z ∧ w.heap.size ≤ z
  rows : ∀ g, g ∈ blks R' → g ∈ blks R ∨ hg = some g ∨ w.heap.size ≤ g

set_option maxRecDepth 100000 in
set_option maxHeartbeats 1000000 in
theorem l9All_leaf (n : Nat) (head : List Nat) (hl : head.length = n) (base hg c : Nat) (v : Value) (R : List (Nat × Nat)) (M : Lin.Mat) (w : World) (hb : base ≤ hg) (hgs : hg < w.heap.size) (hI : IntsAt w hg (some ⟨hg, 0, none⟩) (Zs head)) (hO : OwnMx w base v R M) (hR : hg ∉ blks R) (hv : v.ownBlock ≠ some hg) (hm : M.length + 1 ≤ 1000000) :
    Calls Tryz.prog 51 #[.int .i64 (n : Int), .slice (some ⟨hg, 0, none⟩) n c, v] w fun e w' => ∃ v' R', e = .returned v' ∧ OwnMx w' base v' R' (M ++ [Zs head]) ∧ Adds v w R v' w' R' (some hg) := by
  obtain ⟨i9, hi9, hz90, hz91, hz92⟩ := info_parts info_row
  have HI := Lib.hid hI
  have HO := Lib.hid hO
  have HR := Lib.hid hR
  have HV := Lib.hid hv
  have HL := Lib.hid ((Zs_len head).trans hl)
  have hbs : base ≤ w.heap.size := by omega
  have HOW := Lib.hid hO.own
  clear hI hO hR hv hl
  go_enter Tryz.func51, Tryz.ntmps51
  have hnn : ((n : Int) == (n : Int)) = true := by simp
  go_wp2_with (at_builtin; refine wpList_append_own_at _ rfl _ _ 69 rfl base 24 i9 (.slice none 0 0) 1 24 Tryz.underlying69 hi9 hz90 hz91 hz92 rfl (by decide) _ _ _ rfl (HOW.out.alloc _) ⟨w.heap.size, 0, none⟩ 1 1 [.slice (some ⟨hg, 0, none⟩) n c] rfl rfl ?c1 ?c2 ?c3 ?c4 ?c5 ?_)
  case c1 => intro j u hj; exact Mem.cell_new w _ _ j u hj
  case c2 => intro u hu; simp at hu; subst hu; rfl
  case c3 => unfold maxLen; omega
  case c4 => omega
  case c5 => simp; omega
  intro v' w3 hown1 hgrow _ hob
  have hBA : Below w.heap.size w (w.alloc (.cells #[.slice (some ⟨hg, 0, none⟩) n c] 24)) := (Below.refl _ _).alloc (Nat.le_refl _) _
  have hob2 : v'.ownBlock = v.ownBlock ∨ ∃ z, v'.ownBlock = some z ∧ (w.alloc (.cells #[.slice (some ⟨hg, 0, none⟩) n c] 24)).heap.size ≤ z := by
    rcases hob with e | e
    · exact .inl e
    · exact .inr ⟨_, e, by first | exact Nat.le_refl _ | (rw [World.size_alloc]; exact Nat.le_refl _)⟩
  have hO5 : OwnMx w3 base v' (R ++ [(hg, c)]) (M ++ [Zs head]) := by
    refine OwnMx.next (HO.out.keeps hBA) hb (by simp; omega) (HI.out.keeps hBA) HR.out HV.out ?_ hgrow hob2
    rw [HL.out]; exact hown1
  have HA : Adds v w R v' w3 (R ++ [(hg, c)]) (some hg) := by
    refine ⟨?_, ?_, fun g hm => ?_⟩
    · have := only_grown hgrow
      exact (Only.of_below _ hBA).trans this
    · rcases hob2 with e | ⟨z, e, hz⟩
      · exact .inl e
      · exact .inr ⟨z, e, by rw [World.size_alloc] at hz; omega⟩
    · rw [show blks (R ++ [(hg, c)]) = blks R ++ [hg] by simp [blks], List.mem_append, List.mem_singleton] at hm
      rcases hm with h | rfl
      · exact .inl h
      · exact .inr (.inl rfl)
  have HO5 := Lib.hid hO5
  have HAA := Lib.hid HA
  clear hown1 hgrow hob hob2 hO5 HA
  go_wp2
  go_ret
  exact ⟨_, _, rfl, HO5.out, HAA.out⟩

end Go.Proofs.YtbkkdgmiokdbmaaGreat

/-! WALKS: spec's chapter 9: all lists of names: the lists that begin with a head. -/

namespace Go.Proofs.YtbkkdgmiokdbmaaGreat
open Go.RowKit
open Sets Nam

set_option maxRecDepth 100000 in
set_option maxHeartbeats 2000000 in
theorem l9All_any (n : Nat) (hn6 : n ≤ 6) (base : Nat) : ∀ (f : Nat) (head : List Nat) (l : Nat), head.length = l → l + f = n → ∀ (hg c : Nat) (v : Value) (R : List (Nat × Nat)) (M : Lin.Mat) (w : World), base ≤ hg → hg < w.heap.size → IntsAt w hg (some ⟨hg, 0, none⟩) (Zs head) → OwnMx w base v R M → hg ∉ blks R → v.ownBlock ≠ some hg → M.length + 6 ^ f ≤ 1000000 →
    Calls Tryz.prog 51 #[.int .i64 (n : Int), .slice (some ⟨hg, 0, none⟩) l c, v] w fun e w' => ∃ v' R', e = .returned v' ∧ OwnMx w' base v' R' (M ++ (allN n f head).map Zs) ∧ Adds v w R v' w' R' (some hg)
  | 0, head, l, hl, hf, hg, c, v, R, M, w, hb, hgs, hI, hO, hR, hv, hm => by
    obtain rfl : l = n := by omega
    exact l9All_leaf l head hl base hg c v R M w hb hgs hI hO hR hv hm
  | f + 1, head, l, hl, hf, hg, c, v, R, M, w, hb, hgs, hI, hO, hR, hv, hm => by
    obtain ⟨i0, hi, hz0, hz1, hz2⟩ := info_parts info_int
    have IH := Lib.hid (l9All_any n hn6 base f)
    have hln : l < n := by omega
    have hne : ((l : Int) == (n : Int)) = false := by rw [beq_eq_false_iff_ne]; omega
    have hZ : (Zs head).length = l := (Zs_len head).trans hl
    obtain ⟨p, hp⟩ : ∃ p, 6 ^ f = p := ⟨_, rfl⟩
    have hm2 : M.length + 6 * p ≤ 1000000 := by rw [Nat.pow_succ, hp] at hm; omega
    have HP := Lib.hid hp
    have HLEN := Lib.hid (fun k => allTo_len (f := f) (p := p) (fun h => by rw [← hp]; exact allN_len hn6 f h) head k)
    have HI := Lib.hid hI
    have HO := Lib.hid hO
    have HR := Lib.hid hR
    have HV := Lib.hid hv
    have HZ := Lib.hid hZ
    have HL := Lib.hid hl
    have hbs : base ≤ w.heap.size := by omega
    clear hI hO hR hv hl hZ hm hp
    go_enter Tryz.func51, Tryz.ntmps51
    go_wp2
    go_loopw [2, 7] (fun u i wr => ∃ (k : Nat) (R' : List (Nat × Nat)), k ≤ n ∧ i = .int .i64 (k : Int) ∧ OwnMx wr base u R' (M ++ (allTo n f head k).map Zs) ∧ Adds v w R u wr R' none) (fun _ i _ => n - (intOf i).toNat)
    case atStart => exact ⟨0, R, Nat.zero_le _, rfl, by rw [allTo_zero, List.map_nil, List.append_nil]; exact HO.out, Only.refl _ _, .inl rfl, fun g h => .inl h⟩
    case round =>
      obtain ⟨k, R', hk, rfl, hO, hA⟩ := hrel
      have HO2 := Lib.hid hO
      have HA := Lib.hid hA
      have hsz := hA.only.size
      have hIw : IntsAt wr hg (some ⟨hg, 0, none⟩) (Zs head) := HI.out.only hA.only (not_toList HV.out)
      have HIW := Lib.hid hIw
      clear hO hA hIw
      by_cases hlt : k < n
      · cases hq : head.contains k with
        | true =>
          have HE := Lib.hid (allTo_hit (n := n) (f := f) hq)
          have HQ : Hid ((Zs head).contains (k : Int) = true) := (Zs_has head k).trans hq
          clear hq
          go_wp2_with fail
          refine (l2Has_any _ _ (Zs head) l HZ.out (by omega) (k : Int) true HQ.out _ HIW.out.ints).mono ?_
          rintro e w2 ⟨rfl, rfl⟩
          go_wp2
          go_roundw
          case rel => exact ⟨k + 1, R', by omega, by go_num, by rw [HE.out]; exact HO2.out, HA.out⟩
          case measure => simp [intOf]; omega
        | false =>
          have HE := Lib.hid (allTo_miss (n := n) (f := f) hq)
          have HQ : Hid ((Zs head).contains (k : Int) = false) := (Zs_has head k).trans hq
          have hlk := HLEN.out k
          have hkp : k * p ≤ 5 * p := Nat.mul_le_mul_right _ (by omega)
          have HME : Hid ((M ++ (allTo n f head k).map Zs).length + 6 ^ f ≤ 1000000) := by
            have : (M ++ (allTo n f head k).map Zs).length + 6 ^ f ≤ 1000000 := by
              rw [List.length_append, List.length_map, HP.out]; omega
            exact this
          clear hq hlk hkp
          go_wp2_with fail
          refine (l2Has_any _ _ (Zs head) l HZ.out (by omega) (k : Int) false HQ.out _ HIW.out.ints).mono ?_
          rintro e w2 ⟨rfl, rfl⟩
          have hb1 : Below wr.heap.size wr (wr.alloc (.cells #[] 3)) := (Below.refl _ _).alloc (Nat.le_refl _) _
          have HN1 := Lib.hid (HIW.out.keeps hb1).ints
          have HO0 := Lib.hid (OwnInts.lit wr wr.heap.size [] (Nat.le_refl _) (by simp))
          have HB1 := Lib.hid hb1
          clear hb1
          unfold OwnInts at HO0
          go_wp2_with (at_builtin; refine wpList_append_own_at _ rfl _ _ 24 rfl wr.heap.size 3 i0 (.int .i64 0) 1 8 Tryz.underlying24 hi hz0 hz1 hz2 rfl (by decide) (.slice (some ⟨wr.heap.size, 0, none⟩) 0 0) 0 [] rfl HO0.out ⟨hg, 0, none⟩ l c ((Zs head).map (Value.int .i64)) rfl ?c0 (Ints.news HN1.out) (one_ints _) ?c3 ?c4 ?c5 ?_)
          case c0 => rw [List.length_map, HZ.out]; simp
          case c3 => unfold maxLen; omega
          case c4 => omega
          case c5 => simp
          intro v1 w3 hown1 hgrow1 _ _
          have hb3 : Below wr.heap.size wr w3 := HB1.out.grown hgrow1 (by simp) (fun g hg => by simp only [Value.ownBlock, Option.some.injEq] at hg; omega)
          have hsz3 := hb3.size
          have HO1 := Lib.hid hown1
          have HB3 := Lib.hid hb3
          clear hown1 hgrow1 hb3 HO0 HN1 HB1
          go_wp2_with (at_builtin; refine wpList_append_own_at _ rfl _ _ 24 rfl wr.heap.size 3 i0 (.int .i64 0) 1 8 Tryz.underlying24 hi hz0 hz1 hz2 rfl (by decide) v1 l ((Zs head).map (Value.int .i64)) rfl (HO1.out.alloc _) ⟨w3.heap.size, 0, none⟩ 1 1 [.int .i64 (k : Int)] rfl rfl ?c1 ?c2 ?c3 ?c4 ?c5 ?_)
          case c1 => intro j u hj; exact Mem.cell_new w3 _ _ j u hj
          case c2 => intro u hu; simp at hu; subst hu; rfl
          case c3 => unfold maxLen; omega
          case c4 => omega
          case c5 => simp; omega
          intro v2 w4 hown2 hgrow2 _ _
          obtain ⟨g2, cap2, rfl, -⟩ := hown2.form (by omega)
          have hb4 : Below wr.heap.size wr w4 := (HB3.out.alloc hsz3 _).grown hgrow2 (by simp; omega) (fun g hg => (HO1.out.lt g hg).1)
          have hO4 : OwnInts w4 wr.heap.size (.slice (some ⟨g2, 0, none⟩) (l + 1) cap2) (Zs (head ++ [k])) := by
            unfold OwnInts
            rw [Zs_next, List.length_append, List.map_append, HZ.out]
            exact hown2
          obtain ⟨q1, q2, q3, -⟩ := hO4.known
          have HB4 := Lib.hid hb4
          have hcall := IH.out (head ++ [k]) (l + 1) (by rw [List.length_append, HL.out]; rfl) (by omega) g2 cap2 u2 R' (M ++ (allTo n f head k).map Zs) w4 (by omega) q2 q3 (HO2.out.keeps hb4) (fun h => by have := (HO2.out.old h).2; omega) (fun e => by have := (HO2.out.own.lt g2 e).2; omega) HME.out
          have HC := Lib.hid hcall
          clear hown2 hgrow2 hO4 q3 hcall hb4 HB3 HO1
          go_wp2_with fail
          refine HC.out.mono ?_
          rintro e w5 ⟨v5, R5, rfl, hO5, hA5⟩
          have HO5 := Lib.hid hO5
          have HA5 : Hid (Adds v w R v5 w5 R5 none) := by
            have hx := HA.out
            have hb := HB4.out
            have hs4 := hb.size
            refine ⟨only_step hx.only hb hA5.only hx.own, ?_, fun g hg => ?_⟩
            · rcases hA5.own with e | ⟨z, e, hz⟩
              · rw [e]; exact hx.own
              · exact .inr ⟨z, e, by omega⟩
            · rcases hA5.rows g hg with h | h | h
              · exact hx.rows g h
              · cases h; exact .inr (.inr (by omega))
              · exact .inr (.inr (by omega))
          clear hO5 hA5
          go_wp2
          go_roundw
          case rel => exact ⟨k + 1, R5, by omega, by go_num, by rw [HE.out, List.map_append, ← List.append_assoc]; exact HO5.out, HA5.out⟩
          case measure => simp [intOf]; omega
      · have E : Hid (allTo n f head k = allN n (f + 1) head) := by
          have h1 : k = n := by omega
          have : allTo n f head k = allN n (f + 1) head := by rw [h1]; exact allTo_all n f head
          exact this
        go_wp2
        go_ret
        exact ⟨_, R', rfl, by rw [← E.out]; exact HO2.out, HA.out.only, HA.out.own, fun g h => (HA.out.rows g h).elim .inl (fun h => h.elim (fun h => by cases h) (fun h => .inr (.inr h)))⟩

end Go.Proofs.YtbkkdgmiokdbmaaGreat
