/-
  WALKS of chapter 6 by impl: the library's Repeat of one complex.
-/
import Derived.Test.YthobncbggaggjaaJg42
import Derived.Test.YthobncbggaggjaaShelfM
import Derived.Laws.CopyRow
import Derived.Laws.CopyOwn
namespace Go.Proofs.Ythobncbggaggjaa
open Go.RowKit
open Sets Lin Hom Join

/-- copy of rows whose elements take sz cells each. -/
theorem run_copyS {P : Program} (w : World) (dT sT ty elem : TypeId) (sz g o dLen dCap : Nat) (a : Addr) (sLen sCap : Nat) (cur : Array Value) (t : TypeId) (cs : List Value)
    (hu : P.underlying dT = some (.slice elem)) (hs : (P.info? elem).map (·.size) = some sz) (hg : w.heap[g]? = some (.cells cur t (0, 0))) (hn : cs.length = Nat.min sLen dLen * sz)
    (hsrc : ∀ j v, cs[j]? = some v → w.cell? (a.add j) = some v) (hfit : o + cs.length ≤ cur.size) (h1 : ∀ v ∈ cs, v.oneCell' = true) :
    (Builtin.copy_ #[dT, sT] ty #[.slice (some ⟨g, o, none⟩) dLen dCap, .slice (some a) sLen sCap]).run P w =
      .ok (goInt (Nat.min sLen dLen)) (w.setRow g (cur.toList.take o ++ cs ++ cur.toList.drop (o + cs.length)).toArray) := by
  have hl := run_loadCells_list (P := P) w a cs hsrc
  have hst := run_storeCells_at P g o t cs 0 cur w hg (by simpa using hfit) h1
  cases hq : P.info? elem with
  | none => simp [hq] at hs
  | some i =>
    have hi : i.size = sz := by simpa [hq] using hs
    simp [Builtin.copy_, run_underlying hu, Builtin.lenOf, Builtin.firstCells, sizeOf, typeInfo, hq, hi, ← hn, hl, hst]

theorem wpList_copyS {P : Program} {w : World} {ops : Array Oper} {rest : List Oper} {o : Oper} {a : Act} {Q : Exit → Act → World → Prop} (hgd : o.guard = none) (d s : Operand) (dT sT : TypeId)
    (ho : o.op = .call { callee := .builtin .copy, args := #[d, s], argTypes := #[dT, sT] }) (elem : TypeId) (hu : P.underlying dT = some (.slice elem)) (sz : Nat) (hsz : (P.info? elem).map (·.size) = some sz)
    (g off dLen dCap : Nat) (ad : Addr) (sLen sCap : Nat) (hd : a.eval d = .slice (some ⟨g, off, none⟩) dLen dCap) (hs : a.eval s = .slice (some ad) sLen sCap)
    (cur : List Value) (t : TypeId) (hg : w.heap[g]? = some (.cells cur.toArray t (0, 0))) (cs : List Value) (hn : cs.length = Nat.min sLen dLen * sz)
    (hsrc : ∀ j v, cs[j]? = some v → w.cell? (ad.add j) = some v) (hfit : off + cs.length ≤ cur.length) (h1 : ∀ v ∈ cs, v.oneCell' = true)
    (B : Nat) (w0 : World) (hb : Below B w0 w) (hBg : B ≤ g)
    (h : ∀ w', Hid (w'.heap[g]? = some (.cells (cur.take off ++ (cs ++ cur.drop (off + cs.length))).toArray t (0, 0))) → Below B w0 w' → wpList P ops Q rest (a.put o.dst (goInt (Nat.min sLen dLen))) w') :
    wpList P ops Q (o :: rest) a w := by
  have hrun := run_copyS (P := P) w dT sT o.type elem sz g off dLen dCap ad sLen sCap cur.toArray t cs hu hsz hg hn hsrc (by simpa using hfit) h1
  refine wpList_plain hgd fun K hK => ?_
  unfold Oper.wp
  simp [execOp, ho, resolve, invoke, builtin, hd, hs, hrun, Result.andThen]
  exact hK _ _ (h _ (show _ = _ from setRow_heap w g _ _ t _ hg) (below_setRow hb hBg _))
theorem step_copyS {P : Program} {ops : Array Oper} {o : Oper} {a : Act} {w : World} {K : Act → World → Prop} {Q : Exit → Act → World → Prop} {E : Prop} (hgd : o.guard = none) (d s : Operand) (dT sT : TypeId)
    (ho : o.op = .call { callee := .builtin .copy, args := #[d, s], argTypes := #[dT, sT] }) (elem : TypeId) (hu : P.underlying dT = some (.slice elem)) (sz : Nat) (hsz : (P.info? elem).map (·.size) = some sz)
    (g off dLen dCap : Nat) (ad : Addr) (sLen sCap : Nat) (hd : a.eval d = .slice (some ⟨g, off, none⟩) dLen dCap) (hs : a.eval s = .slice (some ad) sLen sCap)
    (cur : List Value) (t : TypeId) (hg : w.heap[g]? = some (.cells cur.toArray t (0, 0))) (cs : List Value) (hn : cs.length = Nat.min sLen dLen * sz)
    (hsrc : ∀ j v, cs[j]? = some v → w.cell? (ad.add j) = some v) (hfit : off + cs.length ≤ cur.length) (h1 : ∀ v ∈ cs, v.oneCell' = true)
    (B : Nat) (w0 : World) (hb : Below B w0 w) (hBg : B ≤ g)
    (h : ∀ w', Hid (w'.heap[g]? = some (.cells (cur.take off ++ (cs ++ cur.drop (off + cs.length))).toArray t (0, 0))) → Below B w0 w' → K (a.put o.dst (goInt (Nat.min sLen dLen))) w') :
    if Region.wanted o (yielded ops a.tmps) = true then Oper.wp P o a w K Q else E := by
  have hw : Region.wanted o (yielded ops a.tmps) = true := by simp [Region.wanted, hgd]
  rw [if_pos hw]
  have hrun := run_copyS (P := P) w dT sT o.type elem sz g off dLen dCap ad sLen sCap cur.toArray t cs hu hsz hg hn hsrc (by simpa using hfit) h1
  unfold Oper.wp
  simp [execOp, ho, resolve, invoke, builtin, hd, hs, hrun, Result.andThen]
  exact h _ (show _ = _ from setRow_heap w g _ _ t _ hg) (below_setRow hb hBg _)
theorem info_cx : (Try.prog.info? 26).map (fun i => (i.zero, i.size, i.bytes)) = some (some (.agg #[.int .i64 0, .slice none 0 0]), 2, 32) := by kernel_rfl
theorem size_cx : (Try.prog.info? 26).map (·.size) = some 2 := by kernel_rfl
theorem row_setRow {w : World} {g : Nat} {old : Array Value} {t : TypeId} (h : w.heap[g]? = some (.cells old t (0, 0))) (cs : Array Value) : (w.setRow g cs).heap[g]? = some (.cells cs t (0, 0)) := setRow_heap w g old cs t _ h
theorem cells_add {w : World} {g : Nat} {cs : Array Value} {t : TypeId} (h : w.heap[g]? = some (.cells cs t (0, 0))) (j : Nat) (v : Value) (hj : cs[j]? = some v) : w.cell? ((⟨g, 0, none⟩ : Addr).add j) = some v := by
  have e : (⟨g, 0, none⟩ : Addr).add j = ⟨g, j, none⟩ := by unfold Addr.add; split <;> simp_all
  rw [e]; simp [World.cell?, h, hj]

set_option maxRecDepth 100000 in
set_option maxHeartbeats 4000000 in
theorem repeat1_any (n : Int) (a : Option Addr) (l c : Nat) (V : World) :
    Calls Try.prog 53 #[.slice (some ⟨V.heap.size, 0, none⟩) 1 1, .int .i64 1] (V.alloc (.cells #[.int .i64 n, .slice a l c] 26)) fun e w' => e = .returned (.slice (some ⟨V.heap.size + 1, 0, none⟩) 1 1) ∧ w'.heap[V.heap.size + 1]? = some (.cells #[.int .i64 n, .slice a l c] 26 (0, 0)) ∧ Below V.heap.size V w' := by
  obtain ⟨i9, hi9, hz90, hz91, hz92⟩ := info_parts info_cx
  obtain ⟨U, hU⟩ : ∃ U, V.alloc (.cells #[.int .i64 n, .slice a l c] 26) = U := ⟨_, rfl⟩
  have hus : U.heap.size = V.heap.size + 1 := by rw [← hU]; simp
  have hub : Below V.heap.size V U := by rw [← hU]; exact (Below.refl _ _).alloc (Nat.le_refl _) _
  have huc : U.heap[V.heap.size]? = some (.cells #[.int .i64 n, .slice a l c] 26 (0, 0)) := by rw [← hU]; exact heap_alloc_new V _
  rw [hU]
  rw [← hus]
  have HUC := Lib.hid huc
  have HUB := Lib.hid hub
  have HUS := Lib.hid hus
  clear hU huc hub hus
  go_enter Try.func53, Try.ntmps53
  go_wp2_with (first | (go_at_call 78; refine (Try.bits_Mul 1 1 (by decide) (by decide) _).mono ?_; rintro e w1 ⟨rfl, hw⟩; replace hw := hw.symm; subst hw) | (at_make; refine wpList_make_full _ rfl _ _ 61 rfl U.heap.size 26 i9 (.agg #[.int .i64 0, .slice none 0 0]) 2 Try.underlying61 hi9 hz90 hz91 _ _ _ _ 1 rfl rfl rfl rfl ?c1 ?c2 ?c3 ?_))
  case c1 => omega
  case c2 => unfold maxLen; omega
  case c3 => exact Nat.le_refl _
  intro w1 hown hgrow
  have hm : w1.heap[U.heap.size]? = some (.cells #[.int .i64 0, .slice none 0 0] 26 (0, 0)) := by
    rcases hown.2 with ⟨hv, _⟩ | ⟨g, cap, cur, hv, _, hh, _, _, hcs, htk⟩
    · cases hv
    · cases hv
      have e : cur = #[.int .i64 0, .slice none 0 0] := by
        rw [List.take_of_length_le (by rw [Array.length_toList]; omega)] at htk
        apply Array.toList_inj.1
        rw [htk]
        simp [madeCells]
        rfl
      rw [hh, e]
  have hb1 := Mem.below_of_none hgrow
  have HM := Lib.hid hm
  have HB1 := Lib.hid hb1
  have HS := Lib.hid (hb1.block V.heap.size (by rw [HUS.out]; exact Nat.lt_succ_self _))
  clear hown hgrow hm hb1
  have hq1 : ([.int .i64 n, .slice a l c] : List Value).length = Nat.min 1 1 * 2 := rfl
  have hq2 : ∀ j v, ([.int .i64 n, .slice a l c] : List Value)[j]? = some v → w1.cell? ((⟨V.heap.size, 0, none⟩ : Addr).add j) = some v := fun j v hj => cells_add (HS.out.trans HUC.out) j v (by simpa using hj)
  have hq3 : 0 + ([.int .i64 n, .slice a l c] : List Value).length ≤ ([.int .i64 0, .slice none 0 0] : List Value).length := by simp
  have hq4 : ∀ v ∈ ([.int .i64 n, .slice a l c] : List Value), v.oneCell' = true := by simp [Value.oneCell']
  have HQ1 := Lib.hid hq1
  have HQ2 := Lib.hid hq2
  have HQ3 := Lib.hid hq3
  have HQ4 := Lib.hid hq4
  clear hq1 hq2 hq3 hq4
  go_wp2_with (with_reducible refine wpList_copyS (o := ⟨some 33, _, _, _, _, _⟩) rfl (.tmp 31) (.tmp 32) 61 61 rfl 26 Try.underlying61 2 size_cx U.heap.size 0 1 1 ⟨V.heap.size, 0, none⟩ 1 1 rfl rfl [.int .i64 0, .slice none 0 0] 26 HM.out [.int .i64 n, .slice a l c] HQ1.out HQ2.out HQ3.out HQ4.out U.heap.size U HB1.out (Nat.le_refl _) ?_)
  intro w2 hg2 hb2
  have HG2 : Hid (w2.heap[U.heap.size]? = some (.cells #[.int .i64 n, .slice a l c] 26 (0, 0))) := hg2
  have HB2 := Lib.hid hb2
  clear hg2 hb2 HM HB1 HS
  go_wp2
  go_loopw [8] (fun m wr => ((m = .int .i64 1 ∧ wr.heap[U.heap.size]? = some (.cells #[.int .i64 n, .slice a l c] 26 (0, 0)))) ∧ Below U.heap.size U wr) (fun m _ => 1 - (intOf m).toNat)
  case atStart => exact ⟨⟨rfl, HG2.out⟩, HB2.out⟩
  case round =>
    clear HG2 HB2
    obtain ⟨hc, hb⟩ := hrel
    have HB := Lib.hid hb
    clear hb
    obtain ⟨wo, rfl⟩ : ∃ wo : World, wo = wr := ⟨_, rfl⟩
    rcases hc with ⟨rfl, hg⟩
    · have HG := Lib.hid hg
      clear hg
      go_wp2
      go_ret
      exact ⟨rfl, HG.out, HUB.out.trans (HB.out.mono HUB.out.size)⟩

set_option maxRecDepth 100000 in
set_option maxHeartbeats 4000000 in
theorem repeat2_any (n : Int) (a : Option Addr) (l c : Nat) (V : World) :
    Calls Try.prog 53 #[.slice (some ⟨V.heap.size, 0, none⟩) 1 1, .int .i64 2] (V.alloc (.cells #[.int .i64 n, .slice a l c] 26)) fun e w' => e = .returned (.slice (some ⟨V.heap.size + 1, 0, none⟩) 2 2) ∧ w'.heap[V.heap.size + 1]? = some (.cells #[.int .i64 n, .slice a l c, .int .i64 n, .slice a l c] 26 (0, 0)) ∧ Below V.heap.size V w' := by
  obtain ⟨i9, hi9, hz90, hz91, hz92⟩ := info_parts info_cx
  obtain ⟨U, hU⟩ : ∃ U, V.alloc (.cells #[.int .i64 n, .slice a l c] 26) = U := ⟨_, rfl⟩
  have hus : U.heap.size = V.heap.size + 1 := by rw [← hU]; simp
  have hub : Below V.heap.size V U := by rw [← hU]; exact (Below.refl _ _).alloc (Nat.le_refl _) _
  have huc : U.heap[V.heap.size]? = some (.cells #[.int .i64 n, .slice a l c] 26 (0, 0)) := by rw [← hU]; exact heap_alloc_new V _
  rw [hU]
  rw [← hus]
  have HUC := Lib.hid huc
  have HUB := Lib.hid hub
  have HUS := Lib.hid hus
  clear hU huc hub hus
  go_enter Try.func53, Try.ntmps53
  go_wp2_with (first | (go_at_call 78; refine (Try.bits_Mul 1 2 (by decide) (by decide) _).mono ?_; rintro e w1 ⟨rfl, hw⟩; replace hw := hw.symm; subst hw) | (at_make; refine wpList_make_full _ rfl _ _ 61 rfl U.heap.size 26 i9 (.agg #[.int .i64 0, .slice none 0 0]) 2 Try.underlying61 hi9 hz90 hz91 _ _ _ _ 2 rfl rfl rfl rfl ?c1 ?c2 ?c3 ?_))
  case c1 => omega
  case c2 => unfold maxLen; omega
  case c3 => exact Nat.le_refl _
  intro w1 hown hgrow
  have hm : w1.heap[U.heap.size]? = some (.cells #[.int .i64 0, .slice none 0 0, .int .i64 0, .slice none 0 0] 26 (0, 0)) := by
    rcases hown.2 with ⟨hv, _⟩ | ⟨g, cap, cur, hv, _, hh, _, _, hcs, htk⟩
    · cases hv
    · cases hv
      have e : cur = #[.int .i64 0, .slice none 0 0, .int .i64 0, .slice none 0 0] := by
        rw [List.take_of_length_le (by rw [Array.length_toList]; omega)] at htk
        apply Array.toList_inj.1
        rw [htk]
        simp [madeCells]
        rfl
      rw [hh, e]
  have hb1 := Mem.below_of_none hgrow
  have HM := Lib.hid hm
  have HB1 := Lib.hid hb1
  have HS := Lib.hid (hb1.block V.heap.size (by rw [HUS.out]; exact Nat.lt_succ_self _))
  clear hown hgrow hm hb1
  have hq1 : ([.int .i64 n, .slice a l c] : List Value).length = Nat.min 1 2 * 2 := rfl
  have hq2 : ∀ j v, ([.int .i64 n, .slice a l c] : List Value)[j]? = some v → w1.cell? ((⟨V.heap.size, 0, none⟩ : Addr).add j) = some v := fun j v hj => cells_add (HS.out.trans HUC.out) j v (by simpa using hj)
  have hq3 : 0 + ([.int .i64 n, .slice a l c] : List Value).length ≤ ([.int .i64 0, .slice none 0 0, .int .i64 0, .slice none 0 0] : List Value).length := by simp
  have hq4 : ∀ v ∈ ([.int .i64 n, .slice a l c] : List Value), v.oneCell' = true := by simp [Value.oneCell']
  have HQ1 := Lib.hid hq1
  have HQ2 := Lib.hid hq2
  have HQ3 := Lib.hid hq3
  have HQ4 := Lib.hid hq4
  clear hq1 hq2 hq3 hq4
  go_wp2_with (with_reducible refine wpList_copyS (o := ⟨some 33, _, _, _, _, _⟩) rfl (.tmp 31) (.tmp 32) 61 61 rfl 26 Try.underlying61 2 size_cx U.heap.size 0 2 2 ⟨V.heap.size, 0, none⟩ 1 1 rfl rfl [.int .i64 0, .slice none 0 0, .int .i64 0, .slice none 0 0] 26 HM.out [.int .i64 n, .slice a l c] HQ1.out HQ2.out HQ3.out HQ4.out U.heap.size U HB1.out (Nat.le_refl _) ?_)
  intro w2 hg2 hb2
  have HG2 : Hid (w2.heap[U.heap.size]? = some (.cells #[.int .i64 n, .slice a l c, .int .i64 0, .slice none 0 0] 26 (0, 0))) := hg2
  have HB2 := Lib.hid hb2
  clear hg2 hb2 HM HB1 HS
  go_wp2
  go_loopw [8] (fun m wr => ((m = .int .i64 1 ∧ wr.heap[U.heap.size]? = some (.cells #[.int .i64 n, .slice a l c, .int .i64 0, .slice none 0 0] 26 (0, 0))) ∨ (m = .int .i64 2 ∧ wr.heap[U.heap.size]? = some (.cells #[.int .i64 n, .slice a l c, .int .i64 n, .slice a l c] 26 (0, 0)))) ∧ Below U.heap.size U wr) (fun m _ => 2 - (intOf m).toNat)
  case atStart => exact ⟨.inl ⟨rfl, HG2.out⟩, HB2.out⟩
  case round =>
    clear HG2 HB2
    obtain ⟨hc, hb⟩ := hrel
    have HB := Lib.hid hb
    clear hb
    obtain ⟨wo, rfl⟩ : ∃ wo : World, wo = wr := ⟨_, rfl⟩
    rcases hc with ⟨rfl, hg⟩ | ⟨rfl, hg⟩
    · have HG := Lib.hid hg
      clear hg
      go_wp2_with fail
      have hq1 : ([.int .i64 n, .slice a l c] : List Value).length = Nat.min 1 1 * 2 := rfl
      have hq2 : ∀ j v, ([.int .i64 n, .slice a l c] : List Value)[j]? = some v → wo.drew.cell? ((⟨U.heap.size, 0, none⟩ : Addr).add j) = some v := fun j v hj => cells_add (w := wo.drew) (show wo.drew.heap[U.heap.size]? = _ from HG.out) j v (by rcases j with _ | _ | j <;> simp_all)
      have hq3 : 2 + ([.int .i64 n, .slice a l c] : List Value).length ≤ ([.int .i64 n, .slice a l c, .int .i64 0, .slice none 0 0] : List Value).length := by simp
      have hq4 : ∀ v ∈ ([.int .i64 n, .slice a l c] : List Value), v.oneCell' = true := by simp [Value.oneCell']
      have hq5 : wo.drew.heap[U.heap.size]? = some (.cells ([.int .i64 n, .slice a l c, .int .i64 0, .slice none 0 0] : List Value).toArray 26 (0, 0)) := HG.out
      have hrun : (Builtin.copy_ #[61, 61] 3 #[.slice (some ⟨U.heap.size, 2, none⟩) 1 1, .slice (some ⟨U.heap.size, 0, none⟩) 1 2]).run Try.prog wo.drew = .ok (.int .i64 1) (wo.drew.setRow U.heap.size #[.int .i64 n, .slice a l c, .int .i64 n, .slice a l c]) :=
        run_copyS (P := Try.prog) wo.drew 61 61 3 26 2 U.heap.size 2 1 1 ⟨U.heap.size, 0, none⟩ 1 2 #[.int .i64 n, .slice a l c, .int .i64 0, .slice none 0 0] 26 [.int .i64 n, .slice a l c] Try.underlying61 size_cx hq5 hq1 hq2 (by simp) hq4
      have hnew : Below U.heap.size U (wo.drew.setRow U.heap.size #[.int .i64 n, .slice a l c, .int .i64 n, .slice a l c]) := below_setRow HB.out.drew (Nat.le_refl _) _
      have hng := setRow_heap wo.drew U.heap.size _ #[.int .i64 n, .slice a l c, .int .i64 n, .slice a l c] _ _ hq5
      have HNB := Lib.hid hnew
      have HNG := Lib.hid hng
      clear hq1 hq2 hq3 hq4 hq5 hnew hng
      go_region
      all_goals
        go_wp2
        go_roundw
        case rel => exact ⟨.inr ⟨rfl, HNG.out⟩, HNB.out⟩
        case measure => simp [intOf]
    · have HG := Lib.hid hg
      clear hg
      go_wp2
      go_ret
      exact ⟨rfl, HG.out, HUB.out.trans (HB.out.mono HUB.out.size)⟩

set_option maxRecDepth 100000 in
set_option maxHeartbeats 4000000 in
theorem repeat3_any (n : Int) (a : Option Addr) (l c : Nat) (V : World) :
    Calls Try.prog 53 #[.slice (some ⟨V.heap.size, 0, none⟩) 1 1, .int .i64 3] (V.alloc (.cells #[.int .i64 n, .slice a l c] 26)) fun e w' => e = .returned (.slice (some ⟨V.heap.size + 1, 0, none⟩) 3 3) ∧ w'.heap[V.heap.size + 1]? = some (.cells #[.int .i64 n, .slice a l c, .int .i64 n, .slice a l c, .int .i64 n, .slice a l c] 26 (0, 0)) ∧ Below V.heap.size V w' := by
  obtain ⟨i9, hi9, hz90, hz91, hz92⟩ := info_parts info_cx
  obtain ⟨U, hU⟩ : ∃ U, V.alloc (.cells #[.int .i64 n, .slice a l c] 26) = U := ⟨_, rfl⟩
  have hus : U.heap.size = V.heap.size + 1 := by rw [← hU]; simp
  have hub : Below V.heap.size V U := by rw [← hU]; exact (Below.refl _ _).alloc (Nat.le_refl _) _
  have huc : U.heap[V.heap.size]? = some (.cells #[.int .i64 n, .slice a l c] 26 (0, 0)) := by rw [← hU]; exact heap_alloc_new V _
  rw [hU]
  rw [← hus]
  have HUC := Lib.hid huc
  have HUB := Lib.hid hub
  have HUS := Lib.hid hus
  clear hU huc hub hus
  go_enter Try.func53, Try.ntmps53
  go_wp2_with (first | (go_at_call 78; refine (Try.bits_Mul 1 3 (by decide) (by decide) _).mono ?_; rintro e w1 ⟨rfl, hw⟩; replace hw := hw.symm; subst hw) | (at_make; refine wpList_make_full _ rfl _ _ 61 rfl U.heap.size 26 i9 (.agg #[.int .i64 0, .slice none 0 0]) 2 Try.underlying61 hi9 hz90 hz91 _ _ _ _ 3 rfl rfl rfl rfl ?c1 ?c2 ?c3 ?_))
  case c1 => omega
  case c2 => unfold maxLen; omega
  case c3 => exact Nat.le_refl _
  intro w1 hown hgrow
  have hm : w1.heap[U.heap.size]? = some (.cells #[.int .i64 0, .slice none 0 0, .int .i64 0, .slice none 0 0, .int .i64 0, .slice none 0 0] 26 (0, 0)) := by
    rcases hown.2 with ⟨hv, _⟩ | ⟨g, cap, cur, hv, _, hh, _, _, hcs, htk⟩
    · cases hv
    · cases hv
      have e : cur = #[.int .i64 0, .slice none 0 0, .int .i64 0, .slice none 0 0, .int .i64 0, .slice none 0 0] := by
        rw [List.take_of_length_le (by rw [Array.length_toList]; omega)] at htk
        apply Array.toList_inj.1
        rw [htk]
        simp [madeCells]
        rfl
      rw [hh, e]
  have hb1 := Mem.below_of_none hgrow
  have HM := Lib.hid hm
  have HB1 := Lib.hid hb1
  have HS := Lib.hid (hb1.block V.heap.size (by rw [HUS.out]; exact Nat.lt_succ_self _))
  clear hown hgrow hm hb1
  have hq1 : ([.int .i64 n, .slice a l c] : List Value).length = Nat.min 1 3 * 2 := rfl
  have hq2 : ∀ j v, ([.int .i64 n, .slice a l c] : List Value)[j]? = some v → w1.cell? ((⟨V.heap.size, 0, none⟩ : Addr).add j) = some v := fun j v hj => cells_add (HS.out.trans HUC.out) j v (by simpa using hj)
  have hq3 : 0 + ([.int .i64 n, .slice a l c] : List Value).length ≤ ([.int .i64 0, .slice none 0 0, .int .i64 0, .slice none 0 0, .int .i64 0, .slice none 0 0] : List Value).length := by simp
  have hq4 : ∀ v ∈ ([.int .i64 n, .slice a l c] : List Value), v.oneCell' = true := by simp [Value.oneCell']
  have HQ1 := Lib.hid hq1
  have HQ2 := Lib.hid hq2
  have HQ3 := Lib.hid hq3
  have HQ4 := Lib.hid hq4
  clear hq1 hq2 hq3 hq4
  go_wp2_with (with_reducible refine wpList_copyS (o := ⟨some 33, _, _, _, _, _⟩) rfl (.tmp 31) (.tmp 32) 61 61 rfl 26 Try.underlying61 2 size_cx U.heap.size 0 3 3 ⟨V.heap.size, 0, none⟩ 1 1 rfl rfl [.int .i64 0, .slice none 0 0, .int .i64 0, .slice none 0 0, .int .i64 0, .slice none 0 0] 26 HM.out [.int .i64 n, .slice a l c] HQ1.out HQ2.out HQ3.out HQ4.out U.heap.size U HB1.out (Nat.le_refl _) ?_)
  intro w2 hg2 hb2
  have HG2 : Hid (w2.heap[U.heap.size]? = some (.cells #[.int .i64 n, .slice a l c, .int .i64 0, .slice none 0 0, .int .i64 0, .slice none 0 0] 26 (0, 0))) := hg2
  have HB2 := Lib.hid hb2
  clear hg2 hb2 HM HB1 HS
  go_wp2
  go_loopw [8] (fun m wr => ((m = .int .i64 1 ∧ wr.heap[U.heap.size]? = some (.cells #[.int .i64 n, .slice a l c, .int .i64 0, .slice none 0 0, .int .i64 0, .slice none 0 0] 26 (0, 0))) ∨ (m = .int .i64 2 ∧ wr.heap[U.heap.size]? = some (.cells #[.int .i64 n, .slice a l c, .int .i64 n, .slice a l c, .int .i64 0, .slice none 0 0] 26 (0, 0))) ∨ (m = .int .i64 3 ∧ wr.heap[U.heap.size]? = some (.cells #[.int .i64 n, .slice a l c, .int .i64 n, .slice a l c, .int .i64 n, .slice a l c] 26 (0, 0)))) ∧ Below U.heap.size U wr) (fun m _ => 3 - (intOf m).toNat)
  case atStart => exact ⟨.inl ⟨rfl, HG2.out⟩, HB2.out⟩
  case round =>
    clear HG2 HB2
    obtain ⟨hc, hb⟩ := hrel
    have HB := Lib.hid hb
    clear hb
    obtain ⟨wo, rfl⟩ : ∃ wo : World, wo = wr := ⟨_, rfl⟩
    rcases hc with ⟨rfl, hg⟩ | ⟨rfl, hg⟩ | ⟨rfl, hg⟩
    · have HG := Lib.hid hg
      clear hg
      go_wp2_with fail
      have hq1 : ([.int .i64 n, .slice a l c] : List Value).length = Nat.min 1 2 * 2 := rfl
      have hq2 : ∀ j v, ([.int .i64 n, .slice a l c] : List Value)[j]? = some v → wo.drew.cell? ((⟨U.heap.size, 0, none⟩ : Addr).add j) = some v := fun j v hj => cells_add (w := wo.drew) (show wo.drew.heap[U.heap.size]? = _ from HG.out) j v (by rcases j with _ | _ | j <;> simp_all)
      have hq3 : 2 + ([.int .i64 n, .slice a l c] : List Value).length ≤ ([.int .i64 n, .slice a l c, .int .i64 0, .slice none 0 0, .int .i64 0, .slice none 0 0] : List Value).length := by simp
      have hq4 : ∀ v ∈ ([.int .i64 n, .slice a l c] : List Value), v.oneCell' = true := by simp [Value.oneCell']
      have hq5 : wo.drew.heap[U.heap.size]? = some (.cells ([.int .i64 n, .slice a l c, .int .i64 0, .slice none 0 0, .int .i64 0, .slice none 0 0] : List Value).toArray 26 (0, 0)) := HG.out
      have hrun : (Builtin.copy_ #[61, 61] 3 #[.slice (some ⟨U.heap.size, 2, none⟩) 2 2, .slice (some ⟨U.heap.size, 0, none⟩) 1 3]).run Try.prog wo.drew = .ok (.int .i64 1) (wo.drew.setRow U.heap.size #[.int .i64 n, .slice a l c, .int .i64 n, .slice a l c, .int .i64 0, .slice none 0 0]) :=
        run_copyS (P := Try.prog) wo.drew 61 61 3 26 2 U.heap.size 2 2 2 ⟨U.heap.size, 0, none⟩ 1 3 #[.int .i64 n, .slice a l c, .int .i64 0, .slice none 0 0, .int .i64 0, .slice none 0 0] 26 [.int .i64 n, .slice a l c] Try.underlying61 size_cx hq5 hq1 hq2 (by simp) hq4
      have hnew : Below U.heap.size U (wo.drew.setRow U.heap.size #[.int .i64 n, .slice a l c, .int .i64 n, .slice a l c, .int .i64 0, .slice none 0 0]) := below_setRow HB.out.drew (Nat.le_refl _) _
      have hng := setRow_heap wo.drew U.heap.size _ #[.int .i64 n, .slice a l c, .int .i64 n, .slice a l c, .int .i64 0, .slice none 0 0] _ _ hq5
      have HNB := Lib.hid hnew
      have HNG := Lib.hid hng
      clear hq1 hq2 hq3 hq4 hq5 hnew hng
      go_region
      all_goals
        go_wp2
        go_roundw
        case rel => exact ⟨.inr (.inl ⟨rfl, HNG.out⟩), HNB.out⟩
        case measure => simp [intOf]
    · have HG := Lib.hid hg
      clear hg
      go_wp2_with fail
      have hq1 : ([.int .i64 n, .slice a l c] : List Value).length = Nat.min 2 1 * 2 := rfl
      have hq2 : ∀ j v, ([.int .i64 n, .slice a l c] : List Value)[j]? = some v → wo.drew.cell? ((⟨U.heap.size, 0, none⟩ : Addr).add j) = some v := fun j v hj => cells_add (w := wo.drew) (show wo.drew.heap[U.heap.size]? = _ from HG.out) j v (by rcases j with _ | _ | j <;> simp_all)
      have hq3 : 4 + ([.int .i64 n, .slice a l c] : List Value).length ≤ ([.int .i64 n, .slice a l c, .int .i64 n, .slice a l c, .int .i64 0, .slice none 0 0] : List Value).length := by simp
      have hq4 : ∀ v ∈ ([.int .i64 n, .slice a l c] : List Value), v.oneCell' = true := by simp [Value.oneCell']
      have hq5 : wo.drew.heap[U.heap.size]? = some (.cells ([.int .i64 n, .slice a l c, .int .i64 n, .slice a l c, .int .i64 0, .slice none 0 0] : List Value).toArray 26 (0, 0)) := HG.out
      have hrun : (Builtin.copy_ #[61, 61] 3 #[.slice (some ⟨U.heap.size, 4, none⟩) 1 1, .slice (some ⟨U.heap.size, 0, none⟩) 2 3]).run Try.prog wo.drew = .ok (.int .i64 1) (wo.drew.setRow U.heap.size #[.int .i64 n, .slice a l c, .int .i64 n, .slice a l c, .int .i64 n, .slice a l c]) :=
        run_copyS (P := Try.prog) wo.drew 61 61 3 26 2 U.heap.size 4 1 1 ⟨U.heap.size, 0, none⟩ 2 3 #[.int .i64 n, .slice a l c, .int .i64 n, .slice a l c, .int .i64 0, .slice none 0 0] 26 [.int .i64 n, .slice a l c] Try.underlying61 size_cx hq5 hq1 hq2 (by simp) hq4
      have hnew : Below U.heap.size U (wo.drew.setRow U.heap.size #[.int .i64 n, .slice a l c, .int .i64 n, .slice a l c, .int .i64 n, .slice a l c]) := below_setRow HB.out.drew (Nat.le_refl _) _
      have hng := setRow_heap wo.drew U.heap.size _ #[.int .i64 n, .slice a l c, .int .i64 n, .slice a l c, .int .i64 n, .slice a l c] _ _ hq5
      have HNB := Lib.hid hnew
      have HNG := Lib.hid hng
      clear hq1 hq2 hq3 hq4 hq5 hnew hng
      go_region
      all_goals
        go_wp2
        go_roundw
        case rel => exact ⟨.inr (.inr ⟨rfl, HNG.out⟩), HNB.out⟩
        case measure => simp [intOf]
    · have HG := Lib.hid hg
      clear hg
      go_wp2
      go_ret
      exact ⟨rfl, HG.out, HUB.out.trans (HB.out.mono HUB.out.size)⟩

end Go.Proofs.Ythobncbggaggjaa
