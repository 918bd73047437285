/-
  TEXTS of one claim, put together: WNamI3, WNamI4, Fill, WNamSA.
-/
import Derived.Test.YtbkkdgmiokdbmaaJg28
import Derived.Test.YtbkkdgmiokdbmaaJg23
import Derived.Test.YtbkkdgmiokdbmaaJg30
import Derived.Shelf.Abstract
import Derived.OwnWalkIn
import Derived.TacticsInMore
import Derived.LoopIn
import Derived.Deep.AppendLies
import Derived.ArgAppend
import Derived.Test.YtbkkdgmiokdbmaaHas
import Derived.Deep.DeepCutAuto
/-! WALKS: impl's chapter 9: all lists of names, one after the other: the lists that begin with a head. -/

namespace Go.Proofs.Ytbkkdgmiokdbmaa
open Go.RowKit
open Sets Nam

/-- append of one or more: in the row as it is, where there is room; else in a new row. -/
theorem run_append_case {P : Program} (w : World) (t ty : TypeId) (base : Nat) (e : TypeId) (i : TypeInfo) (z : Value) (size bytes : Nat) (ht : P.underlying t = some (.slice e)) (hi : P.info? e = some i) (hz : i.zero = some z)
    (hsize : i.size = size) (hby : i.bytes = bytes) (hzs : z.cells.size = size) (hsz : 0 < size)
    (v : Value) (n : Nat) (xs : List Value) (hown : w.ownsRow base e size v n xs)
    (ad : Addr) (m c : Nat) (news : List Value) (hl : news.length = m * size) (hnews : ∀ j u, news[j]? = some u → w.cell? (ad.add j) = some u) (h1 : ∀ u ∈ news, u.oneCell' = true)
    (hm : 0 < m) (h63 : n + m ≤ maxLen) (hbytes : (n + m) * bytes ≤ 140737488355328) (hbase : base ≤ w.heap.size) :
    ∃ g cap w', (Builtin.append_ #[t, t] ty #[v, .slice (some ad) m c]).run P w = .ok (.slice (some ⟨g, 0, none⟩) (n + m) cap) w' ∧
      w'.ownsRow base e size (.slice (some ⟨g, 0, none⟩) (n + m) cap) (n + m) (xs ++ news) ∧ ((v = .slice (some ⟨g, 0, none⟩) n cap ∧ w.grownBy w' (some g)) ∨ (w.heap.size ≤ g ∧ w.grownBy w' none)) ∧ g < w'.heap.size := by
  have hcopy := hown
  rcases hown.2 with ⟨rfl, rfl⟩ | ⟨g, cap, cur, rfl, hbg, hg, hnc, hcm, hcs, htake⟩
  · obtain ⟨g, cap, w', r1, r2, r3, r4, r5⟩ := run_append_lies (P := P) w t ty base e i z size bytes ht hi hz hsize hby hzs hsz _ _ xs hcopy ad m c news hl hnews h1 hm h63 hbytes hbase _ rfl
    rcases r4 with h | h
    · cases h
    · exact ⟨g, cap, w', r1, r2, .inr ⟨by omega, r3⟩, r5⟩
  · by_cases hroom : n + m ≤ cap
    · obtain ⟨w', r1, r2, r3⟩ := run_append_fits (P := P) w base t ty e i size ht hi hsize g n cap xs hcopy ad m c news hl hnews h1 hroom
      exact ⟨g, cap, w', r1, r2, .inl ⟨rfl, r3⟩, (World.ownsRow.lt r2 g rfl).2⟩
    · obtain ⟨v', w', r1, r2, r3⟩ := run_append_arg_grows (P := P) w t ty e i z size bytes ht hi hz hsize hby hzs hsz ⟨g, 0, none⟩ n cap xs hown.1 (World.ownsRow.cells (g := g) hcopy rfl) ad m c news hl hnews (by omega) h63 hbytes
      obtain ⟨g', cap', rfl, h2, h3⟩ := r2.form (by omega)
      refine ⟨g', cap', w', r1, ⟨r2.1, ?_⟩, .inr ⟨h2, r3⟩, h3⟩
      rcases r2.2 with h4 | ⟨g4, cap4, cur4, h5, h6, h7⟩
      · exact .inl h4
      · exact .inr ⟨g4, cap4, cur4, h5, by omega, h7⟩

/-- append, guarded or not, inside a fence. -/
theorem wpListIn_appendG {F : Fence} {n : Nat} {P : Program} (w : World) {ops : Array Oper} {rest : List Oper} {o : Oper} {a : Act} {Q : Exit → Act → World → Prop}
    (hg : Region.wanted o (yielded ops a.tmps) = true) (s x : Operand) (t : TypeId) (hop : o.op = Op.call { callee := Callee.builtin Builtin.append, args := #[s, x], argTypes := #[t, t] })
    (base : Nat) (e : TypeId) (i : TypeInfo) (z : Value) (size bytes : Nat) (h1 : P.underlying t = some (.slice e)) (h2 : P.info? e = some i) (h3 : i.zero = some z) (h4 : i.size = size) (h5 : i.bytes = bytes) (h6 : z.cells.size = size) (h7 : 0 < size)
    (v : Value) (k : Nat) (xs : List Value) (hs : a.eval s = v) (hown : w.ownsRow base e size v k xs) (ad : Addr) (m c : Nat) (news : List Value) (hx : a.eval x = .slice (some ad) m c) (hn : news.length = m * size)
    (hc : ∀ j u, news[j]? = some u → w.cell? (ad.add j) = some u) (h1c : ∀ u ∈ news, u.oneCell' = true) (hm : 0 < m) (b1 : k + m ≤ maxLen) (b2 : (k + m) * bytes ≤ 140737488355328) (b3 : base ≤ w.heap.size)
    (hK : ∀ g cap w', w'.ownsRow base e size (.slice (some ⟨g, 0, none⟩) (k + m) cap) (k + m) (xs ++ news) → ((v = .slice (some ⟨g, 0, none⟩) k cap ∧ w.grownBy w' (some g)) ∨ (w.heap.size ≤ g ∧ w.grownBy w' none)) → g < w'.heap.size → wpListIn F n P ops Q rest (a.put o.dst (.slice (some ⟨g, 0, none⟩) (k + m) cap)) w') :
    wpListIn F n P ops Q (o :: rest) a w := by
  refine wpListIn_step fun K hK' => ?_
  rw [if_pos hg]
  obtain ⟨g, cap, w', hrun, r1, r2, r3⟩ := run_append_case (P := P) w t o.type base e i z size bytes h1 h2 h3 h4 h5 h6 h7 v k xs hown ad m c news hn hc h1c hm b1 b2 b3
  unfold Oper.wpIn
  refine ⟨?_, ?_⟩
  · simp [Oper.about, hop, resolve, Target.leads, Sem.run_pure]
  · rw [Oper.semAt_plain F _ _ (by rw [hop]; intro c hc'; cases hc')]
    simp [execOp, hop, resolve, invoke, builtin, hs, hx, hrun, Result.andThen]
    exact hK' _ _ (hK g cap w' r1 r2 r3)

/-- The head of what is owned is owned. -/
theorem OwnInts.head {w : World} {base g c : Nat} {xs : List Int} {x : Int} (h : OwnInts w base (.slice (some ⟨g, 0, none⟩) (xs.length + 1) c) (xs ++ [x])) : OwnInts w base (.slice (some ⟨g, 0, none⟩) xs.length c) xs := by
  unfold OwnInts at *
  refine ⟨by simp, ?_⟩
  rcases h.2 with ⟨h0, _⟩ | ⟨g', cap, cur, hv, h1, hh, h2, h3, h4, h5⟩
  · cases h0
  · injection hv with e1 e2 e3
    injection e1 with e1
    injection e1 with e1 _ _
    subst e1
    subst e3
    rw [List.length_append] at h2 h5
    simp only [List.length_cons, List.length_nil, Nat.mul_one, Nat.zero_add] at h2 h5
    refine .inr ⟨g, c, cur, rfl, h1, hh, by omega, h3, h4, ?_⟩
    have h6 := congrArg (List.take xs.length) h5
    rw [List.take_take, Nat.min_eq_left (by omega), List.map_append, List.take_left' (by simp)] at h6
    rw [Nat.mul_one]
    exact h6

theorem OwnInts.row {w : World} {base : Nat} {v : Value} {xs : List Int} (h : OwnInts w base v xs) : Row w base v xs := by
  obtain ⟨a, c, g, h1, h2, h3, h4⟩ := h.atc
  exact ⟨a, c, g, h1, h2, h3, h4⟩

theorem allTo_pre (n f : Nat) (head : List Nat) (a : Nat) : ∀ d, ∃ rest, allTo n f head (a + d) = allTo n f head a ++ rest
  | 0 => ⟨[], (List.append_nil _).symm⟩
  | d + 1 => by
    obtain ⟨rest, h⟩ := allTo_pre n f head a d
    rw [← Nat.add_assoc]
    cases hh : head.contains (a + d) with
    | true => exact ⟨rest, by rw [allTo_hit hh, h]⟩
    | false => exact ⟨rest ++ allN n f (head ++ [a + d]), by rw [allTo_miss hh, h, List.append_assoc]⟩
theorem allTo_part {n f j : Nat} {head : List Nat} (hj : j < n) (h : head.contains j = false) : ∃ rest, allN n (f + 1) head = allTo n f head j ++ allN n f (head ++ [j]) ++ rest := by
  obtain ⟨rest, e⟩ := allTo_pre n f head (j + 1) (n - (j + 1))
  rw [show j + 1 + (n - (j + 1)) = n by omega, allTo_all, allTo_miss h] at e
  exact ⟨rest, e⟩
theorem at_part {NS : List (List Int)} {k : Nat} {A B C : List (List Nat)} (h : ∀ i, i < (A ++ B ++ C).length → NS[k + i]? = some (Zs ((A ++ B ++ C).getD i []))) : ∀ i, i < B.length → NS[k + A.length + i]? = some (Zs (B.getD i [])) := fun i hi => by
  rw [Nat.add_assoc, h (A.length + i) (by simp only [List.length_append]; omega)]
  rw [List.getD, List.append_assoc, List.getElem?_append_right (by omega), Nat.add_sub_cancel_left, List.getElem?_append_left hi]
  rfl

theorem Only.then {G G' : List Nat} {a b c : World} (h : Only G a b) (k : Only G' b c) (hG : ∀ x, x ∈ G' → x ∈ G ∨ a.heap.size ≤ x) : Only G a c :=
  ⟨k.os.trans h.os, k.tape.trans h.tape, k.output.trans h.output, Nat.le_trans h.size k.size, fun i hi hn => (k.block i (Nat.lt_of_lt_of_le hi h.size) fun hm => (hG i hm).elim hn fun h => by omega).trans (h.block i hi hn)⟩

theorem wd {k : Nat} : Fence.wide.depth.isSome = true → 1 ≤ k := fun h => by cases h
theorem inCall {P : Program} {n : Nat} {f : FuncId} {args : Array Value} {w : World} {R : Ending → World → Prop} (h : Calls P f args w R) : Fence.wide.fn f ∧ (Fence.wide.depth.isSome = true → 1 ≤ n) ∧ CallsIn Fence.wide (n - 1) P f args w R :=
  ⟨trivial, wd, callsIn_wide.2 h⟩

attribute [local go_sem] Oper.semAt_some

set_option maxRecDepth 100000 in
set_option maxHeartbeats 2000000 in
theorem complete_leaf (l : Nat) (G : List Nat) (base : Nat) (hl : l < base) (hG : ∀ x, x ∈ G → x < base) (J : Nat → List Nat → World → Prop) (NS : List (List Int))
    (hY : ∀ m k M W1 v xs, J k M W1 → NS[k]? = some xs → (∀ x, x ∈ M → base ≤ x ∧ x < W1.heap.size) → Row W1 base v xs →
      YieldAt Fence.wide m Try.prog l #[v] W1 fun e W' => e = .returned (.bool true) ∧ J (k + 1) M W' ∧ Only (l :: G) W1 W')
    (n : Nat) (head : List Nat) (hh : head.length = n) (m : Nat) (v : Value) (k : Nat) (M : List Nat) (W : World) (hO : OwnInts W base v (Zs head)) (hM : ∀ x, x ∈ M → base ≤ x ∧ x < W.heap.size) (hJ : J k M W) (hk : NS[k]? = some (Zs head)) :
    CallsIn Fence.wide m Try.prog 61 #[v, .int .i64 (n : Int), .func (.yield l) #[] #[]] W fun e W' => e = .returned (.bool true) ∧ J (k + 1) M W' ∧ OwnInts W' base v (Zs head) ∧ Only (l :: G) W W' := by
  obtain ⟨a, c, g, rfl, hc, hg, hi⟩ := hO.atc
  obtain ⟨fn, tmps, assign, body, hy, hR⟩ := hY (m - 1) k M W _ _ hJ hk hM hO.row
  have HO := Lib.hid hO
  have HLG : Hid (∀ g', (Value.slice a (Zs head).length c).ownBlock = some g' → g' ∉ l :: G) := fun g' e hm => by
    have h1 := (World.ownsRow.lt hO g' e).1
    rcases List.mem_cons.1 hm with rfl | hm
    · omega
    · have := hG g' hm; omega
  have hz : (Zs head).length = n := (Zs_len head).trans hh
  have HZ := Lib.hid hz
  rw [hz] at hy
  have heq : ((n : Int) == (n : Int)) = true := by simp
  clear hO hY hM hJ hk hc hi hz
  rw [HZ.out]
  refine callsIn_of_wp Try.func61 rfl trivial ?_ rfl
  simp only [Try.ntmps61, List.size_toArray, List.length_cons, List.length_nil, Nat.reduceAdd, Nat.reduceSub, Array.replicate_succ, Array.replicate_zero, List.push_toArray, List.append_toArray, List.nil_append, List.cons_append]
  gi_wp2
  refine ⟨wd, hR.mono ?_⟩
  rintro e W' ⟨rfl, hJ', ho⟩
  gi_wp2
  go_ret
  have h1 := HO.out.only ho HLG.out
  rw [HZ.out] at h1
  exact ⟨rfl, hJ', h1, ho⟩

set_option maxRecDepth 100000 in
set_option maxHeartbeats 4000000 in
/-- THE LISTS THAT BEGIN WITH head COME, ONE BY ONE. -/
theorem complete_any (l : Nat) (G : List Nat) (base : Nat) (hl : l < base) (hG : ∀ x, x ∈ G → x < base) (J : Nat → List Nat → World → Prop) (hBJ : Bears J) (NS : List (List Int))
    (hY : ∀ m k M W1 v xs, J k M W1 → NS[k]? = some xs → (∀ x, x ∈ M → base ≤ x ∧ x < W1.heap.size) → Row W1 base v xs →
      YieldAt Fence.wide m Try.prog l #[v] W1 fun e W' => e = .returned (.bool true) ∧ J (k + 1) M W' ∧ Only (l :: G) W1 W')
    (n : Nat) (hn6 : n ≤ 6) : ∀ (f : Nat) (head : List Nat), head.length + f = n → ∀ (m : Nat) (v : Value) (k : Nat) (M : List Nat) (W : World), OwnInts W base v (Zs head) → (∀ x, x ∈ M → base ≤ x ∧ x < W.heap.size) → (∀ g, v.ownBlock = some g → g ∈ M) → base ≤ W.heap.size → J k M W →
    (∀ i, i < (allN n f head).length → NS[k + i]? = some (Zs ((allN n f head).getD i []))) →
    CallsIn Fence.wide m Try.prog 61 #[v, .int .i64 (n : Int), .func (.yield l) #[] #[]] W fun e W' => e = .returned (.bool true) ∧ ∃ M', (∀ x, x ∈ M' → base ≤ x ∧ x < W'.heap.size) ∧ (∀ x, x ∈ M → x ∈ M') ∧ J (k + (allN n f head).length) M' W' ∧ OwnInts W' base v (Zs head) ∧ Only (v.ownBlock.toList ++ l :: G) W W'
  | 0, head, hh, m, v, k, M, W, hO, hM, hv, hb, hJ, hk => by
    refine (complete_leaf l G base hl hG J NS hY n head (by omega) m v k M W hO hM hJ (hk 0 (by show 0 < [head].length; simp))).mono ?_
    rintro e W' ⟨rfl, h1, h2, h3⟩
    exact ⟨rfl, M, fun x hx => ⟨(hM x hx).1, Nat.lt_of_lt_of_le (hM x hx).2 h3.size⟩, fun x hx => hx, h1, h2, h3.wider fun x hx => List.mem_append_right _ hx⟩
  | f + 1, head, hh, m, v, k, M, W, hO, hM, hv, hb, hJ, hk => by
    obtain ⟨i0, hi, hz0, hz1, hz2⟩ := info_parts info_int
    have IH := Lib.hid (complete_any l G base hl hG J hBJ NS hY n hn6 f)
    have hz : (Zs head).length = head.length := Zs_len head
    obtain ⟨q, hq⟩ : ∃ q, head.length = q := ⟨_, rfl⟩
    rw [hq] at hz
    have hqn : q < n := by omega
    have hqf : q + (f + 1) = n := by omega
    have hne : ((q : Int) == (n : Int)) = false := by rw [beq_eq_false_iff_ne]; omega
    obtain ⟨a, c, g, hva, hc, hg, -⟩ := hO.atc
    rw [hz] at hva hc
    have HVA := Lib.hid hva
    have HZ := Lib.hid hz
    have HQ := Lib.hid hq
    have HO := Lib.hid hO
    have HM := Lib.hid hM
    have HV := Lib.hid hv
    have HJ := Lib.hid hJ
    have HK := Lib.hid hk
    have HG := Lib.hid hG
    clear hY hO hM hv hJ hk hz hq hG hh hc
    have HW0 : Hid (∀ g', v.ownBlock = some g' → g' ∉ l :: G) := fun g' e hm => by
      have h1 := (World.ownsRow.lt HO.out g' e).1
      rcases List.mem_cons.1 hm with rfl | hm
      · omega
      · have := HG.out g' hm; omega
    subst hva
    clear HVA
    refine callsIn_of_wp Try.func61 rfl trivial ?_ rfl
    simp only [Try.ntmps61, List.size_toArray, List.length_cons, List.length_nil, Nat.reduceAdd, Nat.reduceSub, Array.replicate_succ, Array.replicate_zero, List.push_toArray, List.append_toArray, List.nil_append, List.cons_append]
    gi_wp2
    gi_loopw [16] (fun i wr => ∃ (j : Nat) (M' : List Nat), j ≤ n ∧ i = .int .i64 (j : Int) ∧ (∀ x, x ∈ M' → base ≤ x ∧ x < wr.heap.size) ∧ (∀ x, x ∈ M → x ∈ M') ∧ J (k + (allTo n f head j).length) M' wr ∧ OwnInts wr base (.slice a q c) (Zs head) ∧ Only ((Value.slice a q c).ownBlock.toList ++ l :: G) W wr) (fun i _ => n - (intOf i).toNat)
    case atStart => exact ⟨0, M, Nat.zero_le _, rfl, HM.out, fun x hx => hx, HJ.out, HO.out, Only.refl _ _⟩
    case round =>
      obtain ⟨j, M', hj, rfl, hM', hMM, hJ', hO', hW⟩ := hrel
      have HM' := Lib.hid hM'
      have HMM := Lib.hid hMM
      have HJ' := Lib.hid hJ'
      have HO' := Lib.hid hO'
      have HW := Lib.hid hW
      have hsz := hW.size
      have hbw : base ≤ wr.heap.size := by omega
      have hI : Ints wr a (Zs head) := by
        obtain ⟨a2, c2, g2, e2, _, _, h4⟩ := hO'.atc
        injection e2 with e2 _ _
        rw [e2]; exact h4.ints
      have HI := Lib.hid hI
      clear hM' hMM hJ' hO' hW hI
      by_cases hlt : j < n
      · cases hh : head.contains j with
        | true =>
          have HE := Lib.hid (allTo_hit (n := n) (f := f) hh)
          have HC : Hid ((Zs head).contains (j : Int) = true) := (Zs_has head j).trans hh
          clear hh
          gi_wp2_with fail
          refine inCall ((contains_b a c (Zs head) q HZ.out (by omega) (j : Int) true HC.out _ HI.out).mono ?_)
          rintro e w2 ⟨rfl, rfl⟩
          gi_wp2
          refine ⟨trivial, ?_⟩
          gi_wp2
          go_roundw
          case rel => exact ⟨j + 1, M', by omega, by go_num, HM'.out, HMM.out, by rw [HE.out]; exact HJ'.out, HO'.out, HW.out⟩
          case measure => simp [intOf]; omega
        | false =>
          have HE := Lib.hid (allTo_miss (n := n) (f := f) hh)
          have HC : Hid ((Zs head).contains (j : Int) = false) := (Zs_has head j).trans hh
          have HPART := Lib.hid (allTo_part (n := n) (f := f) hlt hh)
          clear hh
          gi_wp2_with fail
          refine inCall ((contains_b a c (Zs head) q HZ.out (by omega) (j : Int) false HC.out _ HI.out).mono ?_)
          rintro e w2 ⟨rfl, rfl⟩
          have HOW : Hid ((wr.alloc (.cells #[.int .i64 (j : Int)] 3)).ownsRow base 3 1 (.slice a q c) q ((Zs head).map (Value.int .i64))) := by
            have h := HO'.out.alloc (.cells #[.int .i64 (j : Int)] 3)
            unfold OwnInts at h
            rw [HZ.out] at h
            exact h
          gi_wp2_with (gi_at_builtin; refine wpListIn_appendG _ rfl _ _ 22 rfl base 3 i0 (.int .i64 0) 1 8 Try.underlying22 hi hz0 hz1 hz2 rfl (by decide) _ _ _ rfl HOW.out ⟨wr.heap.size, 0, none⟩ 1 1 [.int .i64 (j : Int)] rfl rfl ?c1 ?c2 (by decide) ?c3 ?c4 ?c5 ?_)
          case c1 => intro i u hj; exact Mem.cell_new wr _ _ i u hj
          case c2 => intro u hu; simp at hu; subst hu; rfl
          case c3 => unfold maxLen; omega
          case c4 => omega
          case c5 => simp; omega
          intro g2 cap2 w3 hown hcase hlt2
          have h4 : (Zs (head ++ [j])).length = q + 1 := by rw [Zs_len, List.length_append, HQ.out]; rfl
          have hO4 : OwnInts w3 base (.slice (some ⟨g2, 0, none⟩) (q + 1) cap2) (Zs (head ++ [j])) := by
            unfold OwnInts
            rw [h4, Zs_next, List.map_append]
            exact hown
          -- where the new row lies
          have hW3 : Only (Value.slice a q c).ownBlock.toList wr w3 := by
            rcases hcase with ⟨⟨e, _⟩, hg⟩ | ⟨_, hg⟩
            · refine (Only.new _ wr _).trans ((only_grown hg).wider fun x hx => ?_)
              rw [e]
              exact hx
            · exact (Only.new _ wr _).trans ((only_grown hg).wider fun x hx => by simp at hx)
          have hs3 := hW3.size
          obtain ⟨q1, -, -, -⟩ := hO4.known
          -- the blocks that are the iterator's own now
          have hM3 : ∀ x, x ∈ g2 :: M' → base ≤ x ∧ x < w3.heap.size := fun x hx => by
            rcases List.mem_cons.1 hx with rfl | hx
            · exact ⟨q1, hlt2⟩
            · have := HM'.out x hx; omega
          have hJ3 : J (k + (allTo n f head j).length) (g2 :: M') w3 := by
            refine hBJ _ M' (g2 :: M') wr w3 HJ'.out (hW3.wider fun x hx => ?_) fun x hx => ?_
            · refine List.mem_cons_of_mem _ (HMM.out x (HV.out x ?_))
              cases hb : (Value.slice a q c).ownBlock with
              | none => rw [hb] at hx; simp at hx
              | some y => rw [hb] at hx; simp at hx; rw [hx]
            · rcases List.mem_cons.1 hx with rfl | hx
              · rcases hcase with ⟨⟨e, _⟩, _⟩ | ⟨e, _⟩
                · exact .inl (HMM.out _ (HV.out _ (by rw [e]; rfl)))
                · exact .inr (by omega)
              · exact .inl hx
          obtain ⟨rest, hrest⟩ := HPART.out
          have hK2 := HK.out
          rw [hrest] at hK2
          have hcall := IH.out (head ++ [j]) (by rw [List.length_append, HQ.out]; show q + 1 + f = n; omega) (m - 1) _ (k + (allTo n f head j).length) (g2 :: M') w3 hO4 hM3 (fun g' e => by
            have e : some g2 = some g' := e
            injection e with e
            rw [← e]; exact List.mem_cons_self ..) (by omega) hJ3 (at_part hK2)
          have HCALL := Lib.hid hcall
          have HO4 := Lib.hid hO4
          have HW3 := Lib.hid hW3
          have HM3 := Lib.hid hM3
          have HCASE := Lib.hid hcase
          clear hcall hK2 hrest hO4 hW3 hM3 hJ3 hcase hown
          gi_wp2_with fail
          refine ⟨trivial, wd, ?_⟩
          refine HCALL.out.mono ?_
          rintro e w5 ⟨rfl, M5, hM5, hMM5, hJ5, hO5, hW5⟩
          have HM5 := Lib.hid hM5
          have HMM5 := Lib.hid hMM5
          have HJ5 := Lib.hid hJ5
          have HO5 := Lib.hid hO5
          have HW5 := Lib.hid hW5
          clear hM5 hMM5 hJ5 hO5 hW5
          gi_wp2
          go_roundw
          case rel =>
            have hO6 : OwnInts w5 base (.slice a q c) (Zs head) := by
              rcases HCASE.out with ⟨⟨e, e2⟩, _⟩ | ⟨e, hg⟩
              · have h := HO5.out
                rw [Zs_next, ← HZ.out, ← e2, ← e] at h
                rw [← HZ.out, e]
                rw [e] at h
                exact h.head
              · refine ((HO'.out.alloc _).only (only_grown hg) fun g' e1 hm => by simp at hm).only HW5.out fun g' e1 hm => ?_
                have h1 := (World.ownsRow.lt HO'.out g' e1).2
                rcases List.mem_append.1 hm with hm | hm
                · simp [Value.ownBlock] at hm; omega
                · exact HW0.out g' e1 hm
            refine ⟨j + 1, M5, by omega, by go_num, HM5.out, fun x hx => HMM5.out x (List.mem_cons_of_mem _ (HMM.out x hx)), ?_, hO6, ?_⟩
            · rw [HE.out, List.length_append, ← Nat.add_assoc]; exact HJ5.out
            · refine (HW.out.trans (HW3.out.wider fun x hx => List.mem_append_left _ hx)).then HW5.out fun x hx => ?_
              rcases List.mem_append.1 hx with hx | hx
              · have hx : x = g2 := by simpa [Value.ownBlock] using hx
                rcases HCASE.out with ⟨⟨e, _⟩, _⟩ | ⟨e, _⟩
                · left; rw [e, hx]; simp [Value.ownBlock]
                · right; omega
              · exact .inl (List.mem_append_right _ hx)
          case measure => simp [intOf]; omega
      · have E : Hid (allTo n f head j = allN n (f + 1) head) := by
          have h1 : j = n := by omega
          have : allTo n f head j = allN n (f + 1) head := by rw [h1]; exact allTo_all n f head
          exact this
        gi_wp2
        go_ret
        exact ⟨rfl, M', HM'.out, HMM.out, by rw [← E.out]; exact HJ'.out, HO'.out, HW.out⟩

end Go.Proofs.Ytbkkdgmiokdbmaa

/-! WALKS: impl's chapter 9: the iterator over all lists of names. -/

namespace Go.Proofs.Ytbkkdgmiokdbmaa
open Go.RowKit
open Sets Nam

/-- A box of one number. -/
def BoxI (w : World) (b : Nat) (x : Int) : Prop := b < w.heap.size ∧ w.cell? ⟨b, 0, none⟩ = some (.int .i64 x) ∧ w.frozen? ⟨b, 0, none⟩ = false
theorem BoxI.new (w : World) (x : Int) (t : TypeId) : BoxI (w.alloc (.cells #[.int .i64 x] t)) w.heap.size x := by
  have h := World.alloc_heap_new w (.cells #[.int .i64 x] t)
  exact ⟨by simp, by simp only [World.cell?, h]; rfl, by simp only [World.frozen?, h]; rfl⟩
theorem BoxI.only {w w' : World} {b : Nat} {x : Int} {G : List Nat} (h : BoxI w b x) (k : Only G w w') (hb : b ∉ G) : BoxI w' b x := by
  obtain ⟨h1, h2, h3⟩ := h
  have e := k.block b h1 hb
  exact ⟨Nat.lt_of_lt_of_le h1 k.size, by rw [World.cell?_of_block (w := w) e]; exact h2, by rw [World.frozen?_of_block (w := w) e]; exact h3⟩
theorem BoxI.set {w : World} {b : Nat} {x : Int} (h : BoxI w b x) (y : Int) : BoxI (w.setCell ⟨b, 0, none⟩ (.int .i64 y)) b y := by
  obtain ⟨h1, h2, h3⟩ := h
  exact ⟨by simpa [World.setCell] using h1, World.cell?_setCell_same' _ _ _ (by rw [h2]; rfl), by rw [World.frozen?_setCell]; exact h3⟩

attribute [local go_sem] Oper.semAt_some

set_option maxRecDepth 100000 in
set_option maxHeartbeats 1000000 in
theorem namesFor_any (n : Int) (w : World) : Calls Try.prog 45 #[.int .i64 n] w fun e w' => e = .returned (.func (.func 60) #[] #[.pointer (some ⟨w.heap.size, 0, none⟩)]) ∧ w' = w.alloc (.cells #[.int .i64 n] 3) := by
  go_enter Try.func45, Try.ntmps45
  go_wp2
  go_ret
  exact ⟨rfl, rfl⟩

set_option maxRecDepth 100000 in
set_option maxHeartbeats 1000000 in
theorem names_seq (n : Nat) (hn6 : n ≤ 6) (bn : Nat) :
    SeqO Try.prog 60 #[.pointer (some ⟨bn, 0, none⟩)] ((allNames n).map Zs) fun _ _ W => W.cell? ⟨bn, 0, none⟩ = some (.int .i64 (n : Int)) := by
  intro l G J W hbn hl hG hBJ hY h0 m
  have hcall := complete_any l G W.heap.size hl hG J hBJ ((allNames n).map Zs) hY n hn6 n [] (by simp) (m - 1) (.slice none 0 0) 0 [] W (OwnInts.nil _ _) (fun x hx => absurd hx List.not_mem_nil) (fun g e => by cases e) (Nat.le_refl _) h0 fun i hi => by
    rw [Nat.zero_add, List.getElem?_map, List.getD]
    show Option.map Zs (allN n n [])[i]? = _
    rw [List.getElem?_eq_getElem hi]
    rfl
  have HC := Lib.hid hcall
  clear hcall hY hBJ h0 hG
  show CallsIn Fence.wide m Try.prog 60 #[.func (.yield l) #[] #[], .pointer (some ⟨bn, 0, none⟩)] W _
  refine callsIn_of_wp Try.func60 rfl trivial ?_ rfl
  simp only [Try.ntmps60, List.size_toArray, List.length_cons, List.length_nil, Nat.reduceAdd, Nat.reduceSub, Array.replicate_succ, Array.replicate_zero, List.push_toArray, List.append_toArray, List.nil_append, List.cons_append]
  gi_wp2_with fail
  refine ⟨trivial, wd, ?_⟩
  refine HC.out.mono ?_
  rintro e w5 ⟨rfl, M5, hM5, _, hJ5, _, _⟩
  have HM5 := Lib.hid hM5
  have HJ5 := Lib.hid hJ5
  clear hM5 hJ5
  gi_wp2
  go_end0
  refine ⟨⟨_, rfl⟩, M5, ?_, fun x hx => (HM5.out x hx).1⟩
  have h := HJ5.out
  rw [Nat.zero_add] at h
  rw [List.length_map]
  exact h

end Go.Proofs.Ytbkkdgmiokdbmaa

/-! MEMORY: a box of two cells that is made empty and filled later. -/

namespace Go.Proofs.Ytbkkdgmiokdbmaa
open Go.RowKit

theorem Two.set0 {w : World} {b : Nat} {x y : Value} (h : Two w b x y) (z : Value) : Two (w.setCell ⟨b, 0, none⟩ z) b z y := by
  obtain ⟨h1, h2, h3, h4, h5⟩ := h
  refine ⟨by simp [World.setCell]; exact h1, World.cell?_setCell_same _ _ _ h2, ?_, by rw [World.frozen?_setCell]; exact h4, by rw [World.frozen?_setCell]; exact h5⟩
  rw [World.cell?_setCell_other _ _ _ _ (by simp)]; exact h3
theorem Two.fill {w : World} {b : Nat} {x y : Value} (h : Two w b x y) (x' y' : Value) : Two ((w.setCell ⟨b, 0, none⟩ x').setCell ⟨b, 1, none⟩ y') b x' y' := (h.set0 x').set1 y'
theorem IntsAt.fill {w : World} {g b : Nat} {a : Option Addr} {xs : List Int} (h : IntsAt w g a xs) (hne : g ≠ b) (x y : Value) : IntsAt ((w.setCell ⟨b, 0, none⟩ x).setCell ⟨b, 1, none⟩ y) g a xs := (h.set hne 0 x).set hne 1 y
theorem Two.z1 {w : World} {b : Nat} {x y : Value} (h : Two w b x y) : w.cell? ⟨b, 0, none⟩ = some x := h.2.1
theorem Two.z2 {w : World} {b : Nat} {x y : Value} (h : Two w b x y) : w.cell? ⟨b, 1, none⟩ = some y := h.2.2.1
theorem Two.z3 {w : World} {b : Nat} {x y : Value} (h : Two w b x y) : w.frozen? ⟨b, 0, none⟩ = false := h.2.2.2.1
theorem Two.z4 {w : World} {b : Nat} {x y : Value} (h : Two w b x y) : w.frozen? ⟨b, 1, none⟩ = false := h.2.2.2.2
theorem some_no {a : Addr} {c : Nat} (h : some a = none) : c = 0 := nomatch h
theorem size_fill (w : World) (p q : Addr) (x y : Value) : ((w.setCell p x).setCell q y).heap.size = w.heap.size := by simp [World.setCell]

end Go.Proofs.Ytbkkdgmiokdbmaa

/-! WALKS: spec's chapter 9: CanonicalComplex. -/

namespace Go.Proofs.Ytbkkdgmiokdbmaa
open Go.RowKit
open Sets Nam

/-- CanonicalComplex. -/
def canonCO (n : Int) (xs : List Int) : Option (Int × List Int) := if isC n xs = true then some (n, canonL n.toNat xs) else none
theorem canonCO_no {n : Int} {xs : List Int} (h : isC n xs = false) : canonCO n xs = none := by unfold canonCO; rw [if_neg (by rw [h]; simp)]
theorem canonCO_yes {n : Int} {xs : List Int} (h : isC n xs = true) : canonCO n xs = some (n, canonL n.toNat xs) := by unfold canonCO; rw [if_pos h]

set_option maxRecDepth 100000 in
set_option maxHeartbeats 1000000 in
theorem specCanon_any (n : Int) (a : Option Addr) (c : Nat) (xs : List Int) (hlen : xs.length ≤ 1099511627776) (w : World) (h : Ints w a xs) :
    Calls Try.prog 21 #[cx n (.slice a xs.length c)] w fun e w' => ∃ v, e = .returned (.tuple #[cx (oN (canonCO n xs)) v, .bool (canonCO n xs).isSome]) ∧ HasInts w' w.heap.size v (oL (canonCO n xs)) ∧ Below w.heap.size w w' := by
  have hb0 : Below w.heap.size w ((w.alloc (Obj.cells #[Value.int IntKind.i64 n, Value.slice a xs.length c] 31)).alloc (Obj.cells #[Value.int IntKind.i64 0, Value.slice none 0 0] 31)) := ((Below.refl _ _).alloc (Nat.le_refl _) _).alloc (by simp) _
  have htc := (Two.new w (.int .i64 n) (.slice a xs.length c) 31).alloc (.cells #[.int .i64 0, .slice none 0 0] 31)
  have htr := Two.new (w.alloc (.cells #[.int .i64 n, .slice a xs.length c] 31)) (.int .i64 0) (.slice none 0 0) 31
  rw [World.size_alloc] at htr
  obtain ⟨br, hbr⟩ : ∃ br, w.heap.size + 1 = br := ⟨_, rfl⟩
  rw [hbr] at htr
  have hwb : w.heap.size < br := by omega
  have TC := Lib.hid htc
  have TR := Lib.hid htr
  have H0 := Lib.hid h
  have HH := Lib.hid (h.keeps hb0)
  have HB0 := Lib.hid hb0
  have HBR := Lib.hid hbr
  clear h htr hb0 htc hbr
  obtain ⟨t0, t1, t2, _, _⟩ := TC.out
  cases hC : isC n xs with
  | false =>
    have HC := Lib.hid hC
    rw [canonCO_no hC]
    clear hC
    go_enter Try.func21, Try.ntmps21
    go_wp2_with fail
    refine (specIsC_b n _ _ xs false HC.out hlen _ HH.out).mono ?_
    rintro e w1 ⟨rfl, hb1⟩
    try rw [HBR.out]
    obtain ⟨r0, r1, r2, r3, r4⟩ := TR.out.keeps hb1
    have HB1 : Hid (Below w.heap.size w w1) := HB0.out.trans (hb1.mono HB0.out.size)
    have hs1 := HB1.out.size
    clear hb1 t0 t1 t2
    go_wp2
    refine ret_cx2 br rfl rfl rfl (x := .int .i64 0) (y := .slice none 0 0) (by go_simp) (by go_simp) rfl ?_
    exact ⟨_, rfl, HasInts.nil _ _ (by first | (simp [World.setCell]; omega) | omega), by first | exact (HB1.out.setCell (by dsimp only; omega) _).setCell (by dsimp only; omega) _ | exact HB1.out⟩
  | true =>
    have HC := Lib.hid hC
    have HOK := Lib.hid (isC_ok hC)
    have hl64 : xs.length ≤ 64 := isC_le hC
    rw [canonCO_yes hC]
    obtain ⟨m, rfl, hm1, hm6⟩ := isC_cast hC
    rw [Int.toNat_natCast]
    clear hC
    go_enter Try.func21, Try.ntmps21
    go_wp2_with fail
    refine (specIsC_b (m : Int) _ _ xs true HC.out hlen _ HH.out).mono ?_
    rintro e w1 ⟨rfl, hb1⟩
    try rw [HBR.out]
    have HB1 : Hid (Below w.heap.size w w1) := HB0.out.trans (hb1.mono HB0.out.size)
    have HI1 := Lib.hid (HH.out.keeps hb1)
    have TC1 := Lib.hid (TC.out.keeps hb1)
    have TR1 := Lib.hid (TR.out.keeps hb1)
    have hs1 := HB1.out.size
    have hbr1 := TR1.out.1
    clear t0 t1 t2 hb1 HH TC TR HB0
    obtain ⟨t0, t1, t2, _, _⟩ := TC1.out
    go_wp2_with fail
    refine (l3Copy_any (m : Int) a c xs hlen _ HI1.out).mono ?_
    rintro e w2 ⟨v, rfl, hO2, hb2⟩
    obtain ⟨a2, c2, g2, rfl, hc2, hg2, hI2, _⟩ := OwnInts.ata hO2 hb2.size
    have hb3 : Below w2.heap.size w2 (w2.alloc (Obj.cells #[Value.int IntKind.i64 (m : Int), Value.slice a2 xs.length c2] 31)) := (Below.refl _ _).alloc (Nat.le_refl _) _
    have hg2n : xs = [] ∨ g2 < w2.heap.size := by
      cases xs with
      | nil => exact .inl rfl
      | cons x t => exact .inr (hI2 0 (by simp)).2.1
    have hsb := hb2.size
    have htb := Two.new w2 (.int .i64 0) (.slice none 0 0) 31
    obtain ⟨z0, z1, z2, z3, z4⟩ := htb
    have HTB : Hid (Two (w2.alloc (Obj.cells #[Value.int IntKind.i64 (m : Int), Value.slice a2 xs.length c2] 31)) w2.heap.size (.int .i64 (m : Int)) (.slice a2 xs.length c2)) := Two.new w2 _ _ _
    have TC3 := Lib.hid ((TC1.out.keeps hb2).keeps hb3)
    have TR3 := Lib.hid ((TR1.out.keeps hb2).keeps hb3)
    have HI3 := Lib.hid ((HI1.out.keeps hb2).keeps hb3)
    have HIB := Lib.hid (hI2.keeps hb3)
    have HB3 : Hid (Below w.heap.size w (w2.alloc (Obj.cells #[Value.int IntKind.i64 (m : Int), Value.slice a2 xs.length c2] 31))) := (HB1.out.trans (hb2.mono hs1)).trans (hb3.mono (by omega))
    have hs3 : (w2.alloc (Obj.cells #[Value.int IntKind.i64 (m : Int), Value.slice a2 xs.length c2] 31)).heap.size = w2.heap.size + 1 := by simp
    clear hO2 hb2 hb3 hI2 t0 t1 t2 HB1 HI1 TC1 TR1
    go_upto_region 4 with fail
    generalize (w2.alloc (Obj.cells #[Value.int IntKind.i64 (m : Int), Value.slice a2 xs.length c2] 31)) = w3 at *
    have HS3 := Lib.hid hs3
    clear hs3
    have hsz3 := HB3.out.size
    obtain ⟨t0, t1, t2, _, _⟩ := TC3.out
    clear z0 z1 z2 z3 z4
    go_wp2_with fail
    with_reducible refine (l9All_start m hm6 w3).mono ?_
    rintro e w4 ⟨v4, R4, rfl, hM4, hb4⟩
    have hs3 := HS3.out
    have hlM : ((allNames m).map Zs).length = (allNames m).length := List.length_map ..
    obtain ⟨N, hNN⟩ : ∃ N, (allNames m).length = N := ⟨_, rfl⟩
    obtain ⟨go, ao, co, hv4, hgo, hMX⟩ := hM4.mx
    rw [hlM, hNN] at hgo hv4
    subst hv4
    have hrows := fun i (hi : i < (allNames m).length) => (hM4.rows i (by rw [hlM]; exact hi)).1
    have HROWS := Lib.hid hrows
    have HGO := Lib.hid hgo
    have HMX := Lib.hid hMX
    have TC4 := Lib.hid (TC3.out.keeps hb4)
    have TR4 := Lib.hid (TR3.out.keeps hb4)
    have HTB4 := Lib.hid (HTB.out.keeps hb4)
    have HI4 := Lib.hid (HI3.out.keeps hb4)
    have HIB4 := Lib.hid (HIB.out.keeps hb4)
    have HB4 : Hid (Below w.heap.size w w4) := HB3.out.trans (hb4.mono hsz3)
    have hsz4 := hb4.size
    have hN := allNames_len hm6
    obtain ⟨gb, hgb⟩ : ∃ gb, w2.heap.size = gb := ⟨_, rfl⟩
    rw [hgb] at hs3 hg2n HTB4 hsb
    rw [hNN] at hN
    have HNN := Lib.hid hNN
    have HGB := Lib.hid hgb
    have HLM := Lib.hid (hlM.trans hNN)
    have HS3B := Lib.hid hs3
    clear hs3 HS3
    clear hgb hNN hlM t0 t1 t2 hM4 hMX hrows hgo hb4 TC3 TR3 HTB HI3 HIB HB3
    go_wp2
    try rw [HGB.out]
    have hgbr : br < gb := by omega
    go_loopw [6] (fun i wr => ∃ (k g : Nat) (ab : Option Addr) (cb : Nat), k ≤ N ∧ i = .int .i64 (k : Int) ∧ Two wr gb (.int .i64 (m : Int)) (.slice ab xs.length cb) ∧ IntsAt wr g ab (Nam.leastOf xs ((allNames m).take k) xs) ∧ w1.heap.size ≤ g ∧ (xs = [] ∨ g ≠ gb) ∧ xs.length ≤ cb ∧ Only [gb] w4 wr) (fun i _ => N - (intOf i).toNat)
    case atStart => exact ⟨0, g2, a2, c2, Nat.zero_le _, rfl, HTB4.out, HIB4.out, hg2, hg2n.imp id (fun h => by omega), hc2, Only.refl _ _⟩
    case round =>
      obtain ⟨k, g, ab, cb, hk, rfl, hTBk, hIk, hgk, hgn, hcb, hOn⟩ := hrel
      have hsz5 := hOn.size
      have HON := Lib.hid hOn
      have HTBK := Lib.hid hTBk
      have hgbk := hTBk.1
      have HIK := Lib.hid hIk
      have HTCK := Lib.hid (two_only TC4.out hOn (by simp; omega))
      have HTRK := Lib.hid (two_only TR4.out hOn (by simp; omega))
      have HBK : Hid (Below w.heap.size w wr) := HB4.out.trans (hOn.below (fun g hg => by simp at hg; omega) (by omega))
      have HIAK := Lib.hid (H0.out.keeps HBK.out)
      have hszk := HBK.out.size
      clear hOn hTBk hIk
      by_cases hlt : k < N
      · have hNk : k < (allNames m).length := by rw [HNN.out]; exact hlt
        have hNs := all_at hNk
        obtain ⟨ns, hns⟩ : ∃ ns, (allNames m).getD k [] = ns := ⟨_, rfl⟩
        rw [hns] at hNs
        have hgo := HGO.out (by omega)
        have hnl : (Zs ns).length = m := (Zs_len ns).trans hNs.len
        have hrow := names_row (allNames m) k hNk
        rw [hns] at hrow
        have hkM : k < ((allNames m).map Zs).length := by rw [HLM.out]; exact hlt
        have hs3 := HS3B.out
        have hcell : wr.cell? ⟨go, k, none⟩ = some (.slice (some ⟨blk R4 k, 0, none⟩) m (room R4 k)) := by
          have h1 := HMX.out.cell hkM
          rw [hrow, hnl] at h1
          rw [World.cell?_of_block (w := w4) (HON.out.block go hgo.2 (by simp; omega))]
          exact h1
        have hao : ao = some ⟨go, 0, none⟩ := (HMX.out.out k hkM).1
        have hr2 : IntsAt wr (blk R4 k) (some ⟨blk R4 k, 0, none⟩) (Zs ns) := by
          have h1 := (HMX.out.rows k hkM).2
          rw [hrow] at h1
          exact h1.only HON.out (by have := HROWS.out k hNk; simp; omega)
        have HR2 := Lib.hid hr2.ints
        have HNS := Lib.hid hns
        have HNS0 := Lib.hid hNs
        subst hao
        obtain ⟨t0, t1, t2, _, _⟩ := HTCK.out
        clear hNk hNs hns hgo hnl hrow hkM hr2 hs3
        have hbx : Below wr.heap.size wr ((wr.alloc (Obj.cells #[Value.int IntKind.i64 0, Value.slice none 0 0] 31)).drew) := ((Below.refl _ _).alloc (Nat.le_refl _) _).drew
        have HTX : Hid (Two ((wr.alloc (Obj.cells #[Value.int IntKind.i64 0, Value.slice none 0 0] 31)).drew) wr.heap.size (.int .i64 0) (.slice none 0 0)) := (Two.new wr _ _ _).drew
        have HCALL := Lib.hid (l9Complex_row hm1 hm6 a c HC.out (some ⟨blk R4 k, 0, none⟩) (room R4 k) HNS0.out ((wr.alloc (Obj.cells #[Value.int IntKind.i64 0, Value.slice none 0 0] 31)).drew) (HIAK.out.keeps hbx) (HR2.out.keeps hbx))
        have HCALLB := Lib.hid (l9Complex_row hm1 hm6 a c HC.out (some ⟨blk R4 k, 0, none⟩) (room R4 k) HNS0.out wr.drew HIAK.out HR2.out)
        have HBX := Lib.hid hbx
        have hszx : ((wr.alloc (Obj.cells #[Value.int IntKind.i64 0, Value.slice none 0 0] 31)).drew).heap.size = wr.heap.size + 1 := by simp [World.drew]
        have HSX := Lib.hid hszx
        have hcell2 : (wr.alloc (Obj.cells #[Value.int IntKind.i64 0, Value.slice none 0 0] 31)).cell? ⟨go, k, none⟩ = some (.slice (some ⟨blk R4 k, 0, none⟩) m (room R4 k)) := by
          have hb := (Below.refl wr.heap.size wr).alloc (Nat.le_refl _) (Obj.cells #[Value.int IntKind.i64 0, Value.slice none 0 0] 31)
          have h1 := (HGO.out (by omega)).2
          rw [hb.cell (p := ⟨go, k, none⟩) (by dsimp only; omega)]; exact hcell
        obtain ⟨s0, s1, s2, _, _⟩ := HTCK.out.alloc (Obj.cells #[Value.int IntKind.i64 0, Value.slice none 0 0] 31)
        clear hbx hszx
        go_wp2_with fail
        go_region_law (first | (go_simp; go_at_call 38; refine HCALL.out.mono ?_; rintro e w6 ⟨a6, c6, g6, rfl, hc6, hg6, hI6, hb6⟩; obtain ⟨x0, x1, x2, x3, x4⟩ := HTX.out.keeps hb6) | (go_simp; go_at_call 38; refine HCALLB.out.mono ?_; rintro e w6 ⟨a6, c6, g6, rfl, hc6, hg6, hI6, hb6⟩; have hx := Two.new w6 (.int .i64 0) (.slice none 0 0) 31; obtain ⟨x0, x1, x2, x3, x4⟩ := hx) | fail "arm")
        all_goals
          first
          | (have F : Below wr.heap.size wr ((w6.setCell ⟨wr.heap.size, 0, none⟩ (.int .i64 (m : Int))).setCell ⟨wr.heap.size, 1, none⟩ (.slice a6 xs.length c6)) ∧ Two ((w6.setCell ⟨wr.heap.size, 0, none⟩ (.int .i64 (m : Int))).setCell ⟨wr.heap.size, 1, none⟩ (.slice a6 xs.length c6)) wr.heap.size (.int .i64 (m : Int)) (.slice a6 xs.length c6) ∧ IntsAt ((w6.setCell ⟨wr.heap.size, 0, none⟩ (.int .i64 (m : Int))).setCell ⟨wr.heap.size, 1, none⟩ (.slice a6 xs.length c6)) g6 a6 (renL ns xs) ∧ wr.heap.size ≤ g6 := by
               have h1 := HSX.out
               exact ⟨((HBX.out.trans (hb6.mono (by omega))).setCell (Nat.le_refl _) _).setCell (Nat.le_refl _) _, (HTX.out.keeps hb6).fill _ _, hI6.only (G := [wr.heap.size]) ((Only.set [wr.heap.size] w6 0 (by simp) _).trans (Only.set [wr.heap.size] _ 1 (by simp) _)) (by simp; omega), by omega⟩
             generalize ((w6.setCell ⟨wr.heap.size, 0, none⟩ (.int .i64 (m : Int))).setCell ⟨wr.heap.size, 1, none⟩ (.slice a6 xs.length c6)) = w7 at *)
          | (have F : Below wr.heap.size wr (w6.alloc (Obj.cells #[Value.int IntKind.i64 (m : Int), Value.slice a6 xs.length c6] 31)) ∧ Two (w6.alloc (Obj.cells #[Value.int IntKind.i64 (m : Int), Value.slice a6 xs.length c6] 31)) w6.heap.size (.int .i64 (m : Int)) (.slice a6 xs.length c6) ∧ IntsAt (w6.alloc (Obj.cells #[Value.int IntKind.i64 (m : Int), Value.slice a6 xs.length c6] 31)) g6 a6 (renL ns xs) ∧ wr.heap.size ≤ g6 := by
               have hb : Below wr.heap.size wr.drew w6 := hb6
               exact ⟨((Below.refl wr.heap.size wr).drew.trans hb).alloc hb.size _, Two.new w6 _ _ _, hI6.keeps ((Below.refl _ _).alloc (Nat.le_refl _) _), hg6⟩
             generalize (w6.alloc (Obj.cells #[Value.int IntKind.i64 (m : Int), Value.slice a6 xs.length c6] 31)) = w7 at *)
          obtain ⟨hB7, hT7, hI7, hg7⟩ := F
          have hlb := least_len HC.out k
          have hlr := renL_length HNS0.out HC.out
          obtain ⟨lb, hlbe⟩ : ∃ lb, lessL (renL ns xs) (Nam.leastOf xs ((allNames m).take k) xs) = lb := ⟨_, rfl⟩
          have hless := l9Less_any a6 c6 (renL ns xs) ab cb (Nam.leastOf xs ((allNames m).take k) xs) (by omega) lb hlbe w7 hI7.ints (HIK.out.keeps hB7).ints
          rw [hlb, hlr] at hless
          have hnext := least_next xs (allNames m) k (by rw [HNN.out]; exact hlt) xs
          rw [HNS.out, hlbe] at hnext
          have HLESS := Lib.hid hless
          have HNEXT := Lib.hid hnext
          have HIB7 := Lib.hid (HIK.out.keeps hB7)
          have HTB7 := Lib.hid (HTBK.out.keeps hB7)
          have HT7 := Lib.hid hT7
          have HI7 := Lib.hid hI7
          have HB7 := Lib.hid hB7
          have hs7 := hB7.size
          obtain ⟨y0, y1, y2, y3, y4⟩ := hT7
          obtain ⟨z0, z1, z2, z3, z4⟩ := HTB7.out
          clear hB7 hI7 hlb hlr hlbe hless hnext x0 x1 x2 x3 x4 hb6 hI6
          go_wp2_with fail
          with_reducible refine HLESS.out.mono ?_
          rintro e w8 ⟨rfl, nq, rfl⟩
          have hb8 := Mem.below_drewN w7 nq
          have HI8 := Lib.hid (HI7.out.keeps hb8)
          have HIB8 := Lib.hid (HIB7.out.keeps hb8)
          have HT8 := Lib.hid (HT7.out.keeps hb8)
          have HTB8 := Lib.hid (HTB7.out.keeps hb8)
          have HB8 : Hid (Below wr.heap.size wr (w7.drewN nq)) := HB7.out.trans (hb8.mono hs7)
          clear y0 y1 y2 y3 y4 z0 z1 z2 z3 z4 hb8
          generalize w7.drewN nq = w8 at *
          obtain ⟨y0, y1, y2, y3, y4⟩ := HT8.out
          obtain ⟨z0, z1, z2, z3, z4⟩ := HTB8.out
          cases lb with
          | true =>
            go_wp2
            go_roundw
            case rel =>
              refine ⟨k + 1, g6, a6, c6, by omega, by go_num, HTB8.out.fill _ _, ?_, by omega, .inr (by omega), hc6, ?_⟩
              · rw [HNEXT.out]
                exact HI8.out.only (G := [gb]) ((Only.set [gb] w8 0 (by simp) _).trans (Only.set [gb] _ 1 (by simp) _)) (by simp; omega)
              · exact (HON.out.trans (Only.of_below [gb] HB8.out)).trans ((Only.set [gb] w8 0 (by simp) _).trans (Only.set [gb] _ 1 (by simp) _))
            case measure => simp [intOf]; omega
          | false =>
            go_wp2
            go_roundw
            case rel => exact ⟨k + 1, g, ab, cb, by omega, by go_num, HTB8.out, by rw [HNEXT.out]; exact HIB8.out, hgk, hgn, hcb, HON.out.trans (Only.of_below [gb] HB8.out)⟩
            case measure => simp [intOf]; omega
      · have HE : Hid (Nam.leastOf xs ((allNames m).take k) xs = canonL m xs) := by
          have h1 : k = (allNames m).length := by rw [HNN.out]; omega
          have : Nam.leastOf xs ((allNames m).take k) xs = canonL m xs := by rw [h1, List.take_length]; rfl
          exact this
        have hcl := canon_length HC.out
        have HCL := Lib.hid hcl
        have HIC : Hid (IntsAt wr g ab (canonL m xs)) := by
          have h := HIK.out
          rw [HE.out] at h; exact h
        obtain ⟨z0, z1, z2, z3, z4⟩ := HTBK.out
        obtain ⟨r0, r1, r2, r3, r4⟩ := HTRK.out
        clear hcl
        go_wp2
        refine ret_cx2 br rfl rfl rfl (x := .int .i64 (m : Int)) (y := .slice ab xs.length cb) (by go_simp) (by go_simp) rfl ?_
        have hcl := HCL.out
        have hws : ((wr.setCell ⟨br, 0, none⟩ (.int .i64 (m : Int))).setCell ⟨br, 1, none⟩ (.slice ab xs.length cb)).heap.size = wr.heap.size := by simp [World.setCell]
        refine ⟨_, rfl, ?_, (HBK.out.setCell (by dsimp only; omega) _).setCell (by dsimp only; omega) _⟩
        show HasInts _ w.heap.size _ (canonL m xs)
        by_cases hx : xs = []
        · have h0 : canonL m xs = [] := List.eq_nil_of_length_eq_zero (by rw [hcl, hx]; rfl)
          refine ⟨ab, cb, w.heap.size, by rw [hcl], by rw [hcl]; exact hcb, Nat.le_refl _, by rw [h0]; exact fun j hj => absurd hj (Nat.not_lt_zero _), .inl (by rw [hws]; omega)⟩
        · have h1 : 0 < (canonL m xs).length := by
            rw [hcl]; exact List.length_pos_iff.2 hx
          have h2 := (HIC.out 0 h1).2.1
          refine ⟨ab, cb, g, by rw [hcl], by rw [hcl]; exact hcb, by omega, ?_, .inl (by rw [hws]; exact h2)⟩
          exact HIC.out.only (G := [br]) ((Only.set [br] wr 0 (by simp) _).trans (Only.set [br] _ 1 (by simp) _)) (by simp; omega)

end Go.Proofs.Ytbkkdgmiokdbmaa
