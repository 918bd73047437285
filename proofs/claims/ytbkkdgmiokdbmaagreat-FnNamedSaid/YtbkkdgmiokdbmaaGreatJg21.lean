/-
  TEXTS of one claim, put together: WNamS8, WNamS9, WNamI3, WNamI4.
-/
import Derived.Test.YtbkkdgmiokdbmaaGreatJg20
import Derived.Test.YtbkkdgmiokdbmaaGreatJg3
import Derived.Test.YtbkkdgmiokdbmaaGreatJg18
import Derived.Shelf.Abstract
import Derived.OwnWalkIn
import Derived.TacticsInMore
import Derived.LoopIn
import Derived.Deep.AppendLies
import Derived.ArgAppend
/-! WALKS: spec's l3Copy. -/

namespace Go.Proofs.YtbkkdgmiokdbmaaGreat
open Go.RowKit
open Sets Nam

theorem run_append_noneN {P : Program} {w : World} (base : Nat) (t ty e : TypeId) (i : TypeInfo) (size : Nat) (ht : P.underlying t = some (.slice e)) (hi : P.info? e = some i)
    (v : Value) (n : Nat) (xs : List Value) (hown : w.ownsRow base e size v n xs) (c : Nat) :
    (Builtin.append_ #[t, t] ty #[v, .slice none 0 c]).run P w = .ok v w := by
  rcases hown.2 with ⟨rfl, rfl⟩ | ⟨g, cap, cur, rfl, _, _, hnc, _⟩
  · simp [Builtin.append_, run_underlying ht, sizeOf, typeInfo, hi, Builtin.lenOf, Builtin.firstCells]
  · simp [Builtin.append_, run_underlying ht, sizeOf, typeInfo, hi, Builtin.lenOf, Builtin.firstCells, hnc, storeCells]
/-- append of a slice that lies anywhere or is nil, whatever its room, at a step of a region that draws. -/
theorem step_append_srcN {P : Program} (w : World) {ops : Array Oper} {o : Oper} {a : Act} {K : Act → World → Prop} {Q : Exit → Act → World → Prop} {E : Prop} (hgd : o.guard = none) (s x : Operand) (t : TypeId)
    (ho : o.op = .call { callee := .builtin .append, args := #[s, x], argTypes := #[t, t] })
    (base : Nat) (e : TypeId) (i : TypeInfo) (z : Value) (ht : P.underlying t = some (.slice e)) (hi : P.info? e = some i) (hz : i.zero = some z)
    (hsize : i.size = 1) (hby : i.bytes = 8) (hzs : z.cells.size = 1)
    (v : Value) (n : Nat) (xs : List Value) (hs : a.eval s = v) (hown : w.ownsRow base e 1 v n xs)
    (src : Option Addr) (c : Nat) (ys : List Int) (hx : a.eval x = .slice src ys.length c) (hys : Ints w src ys)
    (h63 : n + ys.length ≤ maxLen) (hbytes : (n + ys.length) * 8 ≤ 140737488355328) (hbase : base ≤ w.heap.size)
    (h : ∀ v' w', w'.ownsRow base e 1 v' (n + ys.length) (xs ++ ys.map (Value.int .i64)) → w.grownBy w' v.ownBlock → K (a.put o.dst v') w') :
    if Region.wanted o (yielded ops a.tmps) = true then Oper.wp P o a w K Q else E := by
  have hw : Region.wanted o (yielded ops a.tmps) = true := by simp [Region.wanted, hgd]
  rw [if_pos hw]
  cases src with
  | some ad => exact wp_append_own w s x t ho base e i z 1 8 ht hi hz hsize hby hzs (by decide) v n xs hs hown ad ys.length c (ys.map (Value.int .i64)) hx (by simp) (Ints.news hys) (one_ints ys) h63 hbytes hbase fun v' w' h2 h3 _ => h v' w' h2 h3
  | none =>
    have hyn := hys.none_nil
    subst hyn
    have hrun := run_append_noneN (P := P) (w := w) base t o.type e i 1 ht hi v n xs hown c
    have hk := h v w (by simpa using hown) (World.grownBy.refl w _)
    have hx2 : a.eval x = .slice none 0 c := hx
    unfold Oper.wp execOp
    simp only [ho, resolve, invoke, builtin, Sem.run_bind, Sem.run_pure, Result.andThen_ok, List.map_toArray, List.map_cons, List.map_nil, hs, hx2, hrun]
    exact hk

set_option maxRecDepth 100000 in
set_option maxHeartbeats 2000000 in
theorem l3Copy_any (n : Int) (a : Option Addr) (c : Nat) (xs : List Int) (hlen : xs.length ≤ 1099511627776) (w : World) (h : Ints w a xs) :
    Calls Tryz.prog 50 #[cx n (.slice a xs.length c)] w fun e w' => ∃ v, e = .returned (cx n v) ∧ OwnInts w' w.heap.size v xs ∧ Below w.heap.size w w' := by
  obtain ⟨i0, hi, hz0, hz1, hz2⟩ := info_parts info_int
  have hb0 : Below w.heap.size w ((w.alloc (Obj.cells #[Value.int IntKind.i64 n, Value.slice a xs.length c] 26)).alloc (Obj.cells #[Value.int IntKind.i64 0, Value.slice none 0 0] 26)) := ((Below.refl _ _).alloc (Nat.le_refl _) _).alloc (by simp) _
  have htc := (Two.new w (.int .i64 n) (.slice a xs.length c) 26).alloc (.cells #[.int .i64 0, .slice none 0 0] 26)
  have htr := Two.new (w.alloc (.cells #[.int .i64 n, .slice a xs.length c] 26)) (.int .i64 0) (.slice none 0 0) 26
  rw [World.size_alloc] at htr
  have HH0 := h.keeps hb0
  go_enter Tryz.func50, Tryz.ntmps50
  go_wp2_with fail
  obtain ⟨br, hbr⟩ : ∃ br, w.heap.size + 1 = br := ⟨_, rfl⟩
  rw [hbr] at htr
  have hwb : w.heap.size < br := by omega
  generalize ((w.alloc (Obj.cells #[Value.int IntKind.i64 n, Value.slice a xs.length c] 26)).alloc (Obj.cells #[Value.int IntKind.i64 0, Value.slice none 0 0] 26)) = V at *
  have TAv := Lib.hid htc
  have TRv := Lib.hid htr
  have HXv := Lib.hid HH0
  have HBVv := Lib.hid hb0
  have hvs := hb0.size
  have hbv := htr.1
  clear htc htr HH0 hb0 h
  try rw [hbr]
  clear hbr
  obtain ⟨e0, e1, e2, e3, e4⟩ := TAv.out
  have hba : Below V.heap.size V (V.alloc (.cells #[] 3)) := (Below.refl _ _).alloc (Nat.le_refl _) _
  have HO0 : Hid ((V.alloc (.cells #[] 3)).ownsRow V.heap.size 3 1 (.slice (some ⟨V.heap.size, 0, none⟩) 0 0) 0 []) := Lib.hid (OwnInts.lit V V.heap.size [] (Nat.le_refl _) (by simp))
  have HBA := Lib.hid hba
  clear hba
  have KEEP : ∀ w' : World, Below V.heap.size V w' → w'.cell? ⟨w.heap.size, 0, none⟩ = some (.int .i64 n) ∧ w'.cell? ⟨w.heap.size, 1, none⟩ = some (.slice a xs.length c) := fun w' hb => ⟨(TAv.out.keeps hb).2.1, (TAv.out.keeps hb).2.2.1⟩
  have hbA : Below V.heap.size V ((V.alloc (.cells #[] 3)).drew) := HBA.out.drew
  have KS : ∀ (W : World) (x y : Value), (W.cell? ⟨w.heap.size, 0, none⟩ = some (.int .i64 n) ∧ W.cell? ⟨w.heap.size, 1, none⟩ = some (.slice a xs.length c)) → (((W.setCell ⟨br, 0, none⟩ x).setCell ⟨br, 1, none⟩ y).cell? ⟨w.heap.size, 0, none⟩ = some (.int .i64 n) ∧ ((W.setCell ⟨br, 0, none⟩ x).setCell ⟨br, 1, none⟩ y).cell? ⟨w.heap.size, 1, none⟩ = some (.slice a xs.length c)) := fun W x y ⟨h1, h2⟩ => by
    have q1 : w.heap.size ≠ br := by omega
    refine ⟨?_, ?_⟩ <;> (rw [World.cell?_setCell_far _ _ _ _ (Ne.symm q1), World.cell?_setCell_far _ _ _ _ (Ne.symm q1)]; assumption)
  have HBD : Hid (Below V.heap.size V V.drew) := Lib.hid (Below.refl _ _).drew
  go_region_held3 (fun w' => w'.cell? ⟨w.heap.size, 0, none⟩ = some (.int .i64 n) ∧ w'.cell? ⟨w.heap.size, 1, none⟩ = some (.slice a xs.length c))
    (first | exact KS _ _ _ (KEEP _ hb3) | exact KEEP _ hb3 | exact KEEP _ hbA | exact KEEP _ HBD.out | exact KEEP _ HBA.out | fail "keep")
    ((first
      | (refine step_append_srcN _ (by rfl) _ _ _ (by rfl) V.heap.size 3 i0 (.int .i64 0) Tryz.underlying24 hi hz0 hz1 hz2 rfl (.slice (some ⟨V.heap.size, 0, none⟩) 0 0) 0 [] (by rfl) HO0.out.drew a c xs (by rfl) (HXv.out.keeps hbA) (by unfold maxLen; omega) (by omega) (by simp) ?_; intro v1 w3 hown1 hgrow1
         have hb3 : Below V.heap.size V w3 := hbA.grown hgrow1 (by simp) (fun g hg => (HO0.out.lt g hg).1)
         have hs3 := hb3.size
         have hO3 : OwnInts w3 V.heap.size v1 xs := (by unfold OwnInts; have h := hown1; rw [Nat.zero_add, List.nil_append] at h; exact h)
         obtain ⟨a2, c2x, g2, rfl, _⟩ := OwnInts.atc hO3
         obtain ⟨r0, r1, r2, r3, r4⟩ := TRv.out.keeps hb3)
      | fail "arm"))
  have HO2 := Lib.hid hO3
  have HB6 : Hid (Below w.heap.size w w3) := HBVv.out.trans (hb3.mono hvs)
  clear hO3 hown1 hgrow1
  go_wp2
  refine ret_cx br rfl rfl (x := .int .i64 n) (y := .slice a2 xs.length c2x) (by go_simp) (by go_simp) rfl ?_
  exact ⟨_, rfl, (OwnInts.set (OwnInts.set HO2.out _ _ _ (by omega)) _ _ _ (by omega)).lower (by omega), (HB6.out.setCell (by dsimp only; omega) _).setCell (by dsimp only; omega) _⟩

end Go.Proofs.YtbkkdgmiokdbmaaGreat

/-! WALKS: spec's chapter 9: CanonicalComplex: helpers. -/

namespace Go.Proofs.YtbkkdgmiokdbmaaGreat
open Go.RowKit
open Sets Nam

theorem two_only {w w' : World} {G : List Nat} {b : Nat} {x y : Value} (h : Two w b x y) (k : Only G w w') (hb : b ∉ G) : Two w' b x y := by
  obtain ⟨h0, h1, h2, h3, h4⟩ := h
  have e := k.block b h0 hb
  refine ⟨Nat.lt_of_lt_of_le h0 k.size, ?_, ?_, ?_, ?_⟩
  · rw [World.cell?_of_block (w := w) e]; exact h1
  · rw [World.cell?_of_block (w := w) e]; exact h2
  · rw [World.frozen?_of_block (w := w) e]; exact h3
  · rw [World.frozen?_of_block (w := w) e]; exact h4

theorem l9All_start (n : Nat) (hn6 : n ≤ 6) (w : World) :
    Calls Tryz.prog 51 #[.int .i64 (n : Int), .slice (some ⟨w.heap.size, 0, none⟩) 0 0, .slice (some ⟨w.heap.size + 1, 0, none⟩) 0 0] ((w.alloc (.cells #[] 3)).alloc (.cells #[] 24)) fun e w' => ∃ v' R', e = .returned v' ∧ OwnMx w' w.heap.size v' R' ((allNames n).map Zs) ∧ Below w.heap.size w w' := by
  have hs : (w.alloc (.cells #[] 3)).heap.size = w.heap.size + 1 := by simp
  have hM := OwnMx.lit (w.alloc (.cells #[] 3)) w.heap.size (by omega)
  rw [hs] at hM
  have hB : Below w.heap.size w ((w.alloc (.cells #[] 3)).alloc (.cells #[] 24)) := ((Below.refl _ _).alloc (Nat.le_refl _) _).alloc (by omega) _
  have hp : 6 ^ n ≤ 46656 := Nat.pow_le_pow_right (by decide) hn6
  refine (l9All_any n hn6 w.heap.size n [] 0 rfl (by omega) w.heap.size 0 (.slice (some ⟨w.heap.size + 1, 0, none⟩) 0 0) [] [] _ (Nat.le_refl _) (by simp; omega) (fun j hj => absurd hj (Nat.not_lt_zero _)) hM (by simp) (by simp [Value.ownBlock]) (by simp only [List.length_nil]; omega)).mono ?_
  rintro e w' ⟨v', R', he, hO, hA⟩
  refine ⟨v', R', he, hO, hB.trans ?_⟩
  have := hA.only
  exact this.below (fun g hg => by simp [Value.ownBlock] at hg; omega) (by simp; omega)

theorem names_row (L : List (List Nat)) (k : Nat) (h : k < L.length) : Lin.row (L.map Zs) k = Zs (L.getD k []) := by
  unfold Lin.row
  simp only [List.getD, List.getElem?_map, List.getElem?_eq_getElem h]; rfl
theorem Nms.of_names {n : Nat} (h1 : 1 ≤ n) (h6 : n ≤ 6) {ns : List Nat} (h : Names n ns) : Nms n (Zs ns) := by
  refine ⟨(Zs_len ns).trans h.len, h1, h6, by rw [toN_Zs]; exact h, fun i hi => ?_⟩
  have hlt : i < ns.length := by rw [h.len]; exact hi
  have e : (Zs ns).getD i 0 = ((pt ns i : Nat) : Int) := by
    unfold Zs pt
    simp only [List.getD, List.getElem?_map, List.getElem?_eq_getElem hlt]; rfl
  exact ⟨pt ns i, e, h.lt hi, by rw [toN_Zs]⟩
theorem all_at {n k : Nat} (h : k < (allNames n).length) : Names n ((allNames n).getD k []) := by
  rw [← mem_allNames, List.getD, List.getElem?_eq_getElem h]; exact List.getElem_mem h
theorem least_next (xs : List Int) (L : List (List Nat)) (k : Nat) (h : k < L.length) (best : List Int) : leastOf xs (L.take (k + 1)) best = if lessL (renL (L.getD k []) xs) (leastOf xs (L.take k) best) = true then renL (L.getD k []) xs else leastOf xs (L.take k) best := by
  unfold leastOf
  rw [List.take_add_one, List.foldl_append, List.getD, List.getElem?_eq_getElem h]; rfl
theorem allNames_len {n : Nat} (h : n ≤ 6) : (allNames n).length ≤ 46656 := Nat.le_trans (allN_len h n []) (Nat.pow_le_pow_right (by decide) h)
theorem least_len {n : Nat} {xs : List Int} (hc : isC n xs = true) (k : Nat) : (leastOf xs ((allNames n).take k) xs).length = xs.length :=
  (leastOf_spec xs ((allNames n).take k) xs rfl (fun ns h => renL_length ((mem_allNames n ns).1 (List.mem_of_mem_take h)) hc)).2.1

theorem l9Complex_row {m : Nat} (hm1 : 1 ≤ m) (hm6 : m ≤ 6) (a : Option Addr) (c : Nat) {xs : List Int} (hC : isC (m : Int) xs = true) (b : Option Addr) (c2 : Nat) {ns : List Nat} (hN : Names m ns) (W : World) (h : Ints W a xs) (hb : Ints W b (Zs ns)) :
    Calls Tryz.prog 39 #[cx (m : Int) (.slice a xs.length c), .slice b m c2] W fun e w' => ∃ a6 c6 g6, e = .returned (cx (m : Int) (.slice a6 xs.length c6)) ∧ xs.length ≤ c6 ∧ W.heap.size ≤ g6 ∧ IntsAt w' g6 a6 (renL ns xs) ∧ Below W.heap.size W w' := by
  refine (l9Complex_any (m : Int) a c xs b c2 (Zs ns) m (Nms.of_names hm1 hm6 hN) (isC_ok hC) (isC_le hC) W h hb).mono ?_
  rintro e w' ⟨v, he, hO, hB⟩
  obtain ⟨a6, c6, g6, hv, hc, hg, hI, _⟩ := OwnInts.ata hO hB.size
  rw [toN_Zs] at hv hc hI
  rw [renL_length hN hC] at hv hc
  exact ⟨a6, c6, g6, by rw [he, hv], hc, hg, hI, hB⟩

end Go.Proofs.YtbkkdgmiokdbmaaGreat

/-! WALKS: impl's chapter 9: all lists of names, one after the other: the lists that begin with a head. -/

namespace Go.Proofs.YtbkkdgmiokdbmaaGreat
open Go.RowKit
open Sets Nam

/-- append of one or more: in the row as it is, where there is room; else in a new row. -/
theorem run_append_case {P : Program} (w : World) (t ty : TypeId) (base : Nat) (e : TypeId) (i : TypeInfo) (z : Value) (size bytes : Nat) (ht : P.underlying t = some (.slice e)) (hi : P.info? e = some i) (hz : i.zero = some z)
    (hsize : i.size = size) (hby : i.bytes = bytes) (hzs : z.cells.size = size) (hsz : 0 < size)
    (v : Value) (n : Nat) (xs : List Value) (hown : w.ownsRow base e size v n xs)
    (ad : Addr) (m c : Nat) (news : List Value) (hl : news.length = m * size) (hnews : ∀ j u, news[j]? = some u → w.cell? (ad.add j) = some u) (h1 : ∀ u ∈ news, u.oneCell' = true)
    (hm : 0 < m) (h63 : n + m ≤ maxLen) (hbytes : (n + m) * bytes ≤ 140737488355328) (hbase : base ≤ w.heap.size) :
    ∃ g cap w', (Builtin.append_ #[t, t] ty #[v, .slice (some ad) m c]).run P w = .ok (.slice (some ⟨g, 0, none⟩) (n + m) cap) w' ∧
      w'.ownsRow base e size (.slice (some ⟨g, 0, none⟩) (n + m) cap) (n + m) (xs ++ news) ∧ ((v = .slice (some ⟨g, 0, none⟩) n cap ∧ w.grownBy w' (some g)) ∨ (w.heap.size ≤ g ∧ w.grownBy w' none)) ∧ g < w'.heap.size := by
  have hcopy := hown
  rcases hown.2 with ⟨rfl, rfl⟩ | ⟨g, cap, cur, rfl, hbg, hg, hnc, hcm, hcs, htake⟩
  · obtain ⟨g, cap, w', r1, r2, r3, r4, r5⟩ := run_append_lies (P := P) w t ty base e i z size bytes ht hi hz hsize hby hzs hsz _ _ xs hcopy ad m c news hl hnews h1 hm h63 hbytes hbase _ rfl
    rcases r4 with h | h
    · cases h
    · exact ⟨g, cap, w', r1, r2, .inr ⟨by omega, r3⟩, r5⟩
  · by_cases hroom : n + m ≤ cap
    · obtain ⟨w', r1, r2, r3⟩ := run_append_fits (P := P) w base t ty e i size ht hi hsize g n cap xs hcopy ad m c news hl hnews h1 hroom
      exact ⟨g, cap, w', r1, r2, .inl ⟨rfl, r3⟩, (World.ownsRow.lt r2 g rfl).2⟩
    · obtain ⟨v', w', r1, r2, r3⟩ := run_append_arg_grows (P := P) w t ty e i z size bytes ht hi hz hsize hby hzs hsz ⟨g, 0, none⟩ n cap xs hown.1 (World.ownsRow.cells (g := g) hcopy rfl) ad m c news hl hnews (by omega) h63 hbytes
      obtain ⟨g', cap', rfl, h2, h3⟩ := r2.form (by omega)
      refine ⟨g', cap', w', r1, ⟨r2.1, ?_⟩, .inr ⟨h2, r3⟩, h3⟩
      rcases r2.2 with h4 | ⟨g4, cap4, cur4, h5, h6, h7⟩
      · exact .inl h4
      · exact .inr ⟨g4, cap4, cur4, h5, by omega, h7⟩

/-- append, guarded or not, inside a fence. -/
theorem wpListIn_appendG {F : Fence} {n : Nat} {P : Program} (w : World) {ops : Array Oper} {rest : List Oper} {o : Oper} {a : Act} {Q : Exit → Act → World → Prop}
    (hg : Region.wanted o (yielded ops a.tmps) = true) (s x : Operand) (t : TypeId) (hop : o.op = Op.call { callee := Callee.builtin Builtin.append, args := #[s, x], argTypes := #[t, t] })
    (base : Nat) (e : TypeId) (i : TypeInfo) (z : Value) (size bytes : Nat) (h1 : P.underlying t = some (.slice e)) (h2 : P.info? e = some i) (h3 : i.zero = some z) (h4 : i.size = size) (h5 : i.bytes = bytes) (h6 : z.cells.size = size) (h7 : 0 < size)
    (v : Value) (k : Nat) (xs : List Value) (hs : a.eval s = v) (hown : w.ownsRow base e size v k xs) (ad : Addr) (m c : Nat) (news : List Value) (hx : a.eval x = .slice (some ad) m c) (hn : news.length = m * size)
    (hc : ∀ j u, news[j]? = some u → w.cell? (ad.add j) = some u) (h1c : ∀ u ∈ news, u.oneCell' = true) (hm : 0 < m) (b1 : k + m ≤ maxLen) (b2 : (k + m) * bytes ≤ 140737488355328) (b3 : base ≤ w.heap.size)
    (hK : ∀ g cap w', w'.ownsRow base e size (.slice (some ⟨g, 0, none⟩) (k + m) cap) (k + m) (xs ++ news) → ((v = .slice (some ⟨g, 0, none⟩) k cap ∧ w.grownBy w' (some g)) ∨ (w.heap.size ≤ g ∧ w.grownBy w' none)) → g < w'.heap.size → wpListIn F n P ops Q rest (a.put o.dst (.slice (some ⟨g, 0, none⟩) (k + m) cap)) w') :
    wpListIn F n P ops Q (o :: rest) a w := by
  refine wpListIn_step fun K hK' => ?_
  rw [if_pos hg]
  obtain ⟨g, cap, w', hrun, r1, r2, r3⟩ := run_append_case (P := P) w t o.type base e i z size bytes h1 h2 h3 h4 h5 h6 h7 v k xs hown ad m c news hn hc h1c hm b1 b2 b3
  unfold Oper.wpIn
  refine ⟨?_, ?_⟩
  · simp [Oper.about, hop, resolve, Target.leads, Sem.run_pure]
  · rw [Oper.semAt_plain F _ _ (by rw [hop]; intro c hc'; cases hc')]
    simp [execOp, hop, resolve, invoke, builtin, hs, hx, hrun, Result.andThen]
    exact hK' _ _ (hK g cap w' r1 r2 r3)

/-- The head of what is owned is owned. -/
theorem OwnInts.head {w : World} {base g c : Nat} {xs : List Int} {x : Int} (h : OwnInts w base (.slice (some ⟨g, 0, none⟩) (xs.length + 1) c) (xs ++ [x])) : OwnInts w base (.slice (some ⟨g, 0, none⟩) xs.length c) xs := by
  unfold OwnInts at *
  refine ⟨by simp, ?_⟩
  rcases h.2 with ⟨h0, _⟩ | ⟨g', cap, cur, hv, h1, hh, h2, h3, h4, h5⟩
  · cases h0
  · injection hv with e1 e2 e3
    injection e1 with e1
    injection e1 with e1 _ _
    subst e1
    subst e3
    rw [List.length_append] at h2 h5
    simp only [List.length_cons, List.length_nil, Nat.mul_one, Nat.zero_add] at h2 h5
    refine .inr ⟨g, c, cur, rfl, h1, hh, by omega, h3, h4, ?_⟩
    have h6 := congrArg (List.take xs.length) h5
    rw [List.take_take, Nat.min_eq_left (by omega), List.map_append, List.take_left' (by simp)] at h6
    rw [Nat.mul_one]
    exact h6

theorem OwnInts.row {w : World} {base : Nat} {v : Value} {xs : List Int} (h : OwnInts w base v xs) : Row w base v xs := by
  obtain ⟨a, c, g, h1, h2, h3, h4⟩ := h.atc
  exact ⟨a, c, g, h1, h2, h3, h4⟩

theorem allTo_pre (n f : Nat) (head : List Nat) (a : Nat) : ∀ d, ∃ rest, allTo n f head (a + d) = allTo n f head a ++ rest
  | 0 => ⟨[], (List.append_nil _).symm⟩
  | d + 1 => by
    obtain ⟨rest, h⟩ := allTo_pre n f head a d
    rw [← Nat.add_assoc]
    cases hh : head.contains (a + d) with
    | true => exact ⟨rest, by rw [allTo_hit hh, h]⟩
    | false => exact ⟨rest ++ allN n f (head ++ [a + d]), by rw [allTo_miss hh, h, List.append_assoc]⟩
theorem allTo_part {n f j : Nat} {head : List Nat} (hj : j < n) (h : head.contains j = false) : ∃ rest, allN n (f + 1) head = allTo n f head j ++ allN n f (head ++ [j]) ++ rest := by
  obtain ⟨rest, e⟩ := allTo_pre n f head (j + 1) (n - (j + 1))
  rw [show j + 1 + (n - (j + 1)) = n by omega, allTo_all, allTo_miss h] at e
  exact ⟨rest, e⟩
theorem at_part {NS : List (List Int)} {k : Nat} {A B C : List (List Nat)} (h : ∀ i, i < (A ++ B ++ C).length → NS[k + i]? = some (Zs ((A ++ B ++ C).getD i []))) : ∀ i, i < B.length → NS[k + A.length + i]? = some (Zs (B.getD i [])) := fun i hi => by
  rw [Nat.add_assoc, h (A.length + i) (by simp only [List.length_append]; omega)]
  rw [List.getD, List.append_assoc, List.getElem?_append_right (by omega), Nat.add_sub_cancel_left, List.getElem?_append_left hi]
  rfl

theorem Only.then {G G' : List Nat} {a b c : World} (h : Only G a b) (k : Only G' b c) (hG : ∀ x, x ∈ G' → x ∈ G ∨ a.heap.size ≤ x) : Only G a c :=
  ⟨k.os.trans h.os, k.tape.trans h.tape, k.output.trans h.output, Nat.le_trans h.size k.size, fun i hi hn => (k.block i (Nat.lt_of_lt_of_le hi h.size) fun hm => (hG i hm).elim hn fun h => by omega).trans (h.block i hi hn)⟩

theorem wd {k : Nat} : Fence.wide.depth.isSome = true → 1 ≤ k := fun h => by cases h
theorem inCall {P : Program} {n : Nat} {f : FuncId} {args : Array Value} {w : World} {R : Ending → World → Prop} (h : Calls P f args w R) : Fence.wide.fn f ∧ (Fence.wide.depth.isSome = true → 1 ≤ n) ∧ CallsIn Fence.wide (n - 1) P f args w R :=
  ⟨trivial, wd, callsIn_wide.2 h⟩

attribute [local go_sem] Oper.semAt_some

set_option maxRecDepth 100000 in
set_option maxHeartbeats 2000000 in
theorem complete_leaf (l : Nat) (G : List Nat) (base : Nat) (hl : l < base) (hG : ∀ x, x ∈ G → x < base) (J : Nat → List Nat → World → Prop) (NS : List (List Int))
    (hY : ∀ m k M W1 v xs, J k M W1 → NS[k]? = some xs → (∀ x, x ∈ M → base ≤ x ∧ x < W1.heap.size) → Row W1 base v xs →
      YieldAt Fence.wide m Tryz.prog l #[v] W1 fun e W' => e = .returned (.bool true) ∧ J (k + 1) M W' ∧ Only (l :: G) W1 W')
    (n : Nat) (head : List Nat) (hh : head.length = n) (m : Nat) (v : Value) (k : Nat) (M : List Nat) (W : World) (hO : OwnInts W base v (Zs head)) (hM : ∀ x, x ∈ M → base ≤ x ∧ x < W.heap.size) (hJ : J k M W) (hk : NS[k]? = some (Zs head)) :
    CallsIn Fence.wide m Tryz.prog 75 #[v, .int .i64 (n : Int), .func (.yield l) #[] #[]] W fun e W' => e = .returned (.bool true) ∧ J (k + 1) M W' ∧ OwnInts W' base v (Zs head) ∧ Only (l :: G) W W' := by
  obtain ⟨a, c, g, rfl, hc, hg, hi⟩ := hO.atc
  obtain ⟨fn, tmps, assign, body, hy, hR⟩ := hY (m - 1) k M W _ _ hJ hk hM hO.row
  have HO := Lib.hid hO
  have HLG : Hid (∀ g', (Value.slice a (Zs head).length c).ownBlock = some g' → g' ∉ l :: G) := fun g' e hm => by
    have h1 := (World.ownsRow.lt hO g' e).1
    rcases List.mem_cons.1 hm with rfl | hm
    · omega
    · have := hG g' hm; omega
  have hz : (Zs head).length = n := (Zs_len head).trans hh
  have HZ := Lib.hid hz
  rw [hz] at hy
  have heq : ((n : Int) == (n : Int)) = true := by simp
  clear hO hY hM hJ hk hc hi hz
  rw [HZ.out]
  refine callsIn_of_wp Tryz.func75 rfl trivial ?_ rfl
  simp only [Tryz.ntmps75, List.size_toArray, List.length_cons, List.length_nil, Nat.reduceAdd, Nat.reduceSub, Array.replicate_succ, Array.replicate_zero, List.push_toArray, List.append_toArray, List.nil_append, List.cons_append]
  gi_wp2
  refine ⟨wd, hR.mono ?_⟩
  rintro e W' ⟨rfl, hJ', ho⟩
  gi_wp2
  go_ret
  have h1 := HO.out.only ho HLG.out
  rw [HZ.out] at h1
  exact ⟨rfl, hJ', h1, ho⟩

set_option maxRecDepth 100000 in
set_option maxHeartbeats 4000000 in
/-- THE LISTS THAT BEGIN WITH head COME, ONE BY ONE. -/
theorem complete_any (l : Nat) (G : List Nat) (base : Nat) (hl : l < base) (hG : ∀ x, x ∈ G → x < base) (J : Nat → List Nat → World → Prop) (hBJ : Bears J) (NS : List (List Int))
    (hY : ∀ m k M W1 v xs, J k M W1 → NS[k]? = some xs → (∀ x, x ∈ M → base ≤ x ∧ x < W1.heap.size) → Row W1 base v xs →
      YieldAt Fence.wide m Tryz.prog l #[v] W1 fun e W' => e = .returned (.bool true) ∧ J (k + 1) M W' ∧ Only (l :: G) W1 W')
    (n : Nat) (hn6 : n ≤ 6) : ∀ (f : Nat) (head : List Nat), head.length + f = n → ∀ (m : Nat) (v : Value) (k : Nat) (M : List Nat) (W : World), OwnInts W base v (Zs head) → (∀ x, x ∈ M → base ≤ x ∧ x < W.heap.size) → (∀ g, v.ownBlock = some g → g ∈ M) → base ≤ W.heap.size → J k M W →
    (∀ i, i < (allN n f head).length → NS[k + i]? = some (Zs ((allN n f head).getD i []))) →
    CallsIn Fence.wide m Tryz.prog 75 #[v, .int .i64 (n : Int), .func (.yield l) #[] #[]] W fun e W' => e = .returned (.bool true) ∧ ∃ M', (∀ x, x ∈ M' → base ≤ x ∧ x < W'.heap.size) ∧ (∀ x, x ∈ M → x ∈ M') ∧ J (k + (allN n f head).length) M' W' ∧ OwnInts W' base v (Zs head) ∧ Only (v.ownBlock.toList ++ l :: G) W W'
  | 0, head, hh, m, v, k, M, W, hO, hM, hv, hb, hJ, hk => by
    refine (complete_leaf l G base hl hG J NS hY n head (by omega) m v k M W hO hM hJ (hk 0 (by show 0 < [head].length; simp))).mono ?_
    rintro e W' ⟨rfl, h1, h2, h3⟩
    exact ⟨rfl, M, fun x hx => ⟨(hM x hx).1, Nat.lt_of_lt_of_le (hM x hx).2 h3.size⟩, fun x hx => hx, h1, h2, h3.wider fun x hx => List.mem_append_right _ hx⟩
  | f + 1, head, hh, m, v, k, M, W, hO, hM, hv, hb, hJ, hk => by
    obtain ⟨i0, hi, hz0, hz1, hz2⟩ := info_parts info_int
    have IH := Lib.hid (complete_any l G base hl hG J hBJ NS hY n hn6 f)
    have hz : (Zs head).length = head.length := Zs_len head
    obtain ⟨q, hq⟩ : ∃ q, head.length = q := ⟨_, rfl⟩
    rw [hq] at hz
    have hqn : q < n := by omega
    have hqf : q + (f + 1) = n := by omega
    have hne : ((q : Int) == (n : Int)) = false := by rw [beq_eq_false_iff_ne]; omega
    obtain ⟨a, c, g, hva, hc, hg, -⟩ := hO.atc
    rw [hz] at hva hc
    have HVA := Lib.hid hva
    have HZ := Lib.hid hz
    have HQ := Lib.hid hq
    have HO := Lib.hid hO
    have HM := Lib.hid hM
    have HV := Lib.hid hv
    have HJ := Lib.hid hJ
    have HK := Lib.hid hk
    have HG := Lib.hid hG
    clear hY hO hM hv hJ hk hz hq hG hh hc
    have HW0 : Hid (∀ g', v.ownBlock = some g' → g' ∉ l :: G) := fun g' e hm => by
      have h1 := (World.ownsRow.lt HO.out g' e).1
      rcases List.mem_cons.1 hm with rfl | hm
      · omega
      · have := HG.out g' hm; omega
    subst hva
    clear HVA
    refine callsIn_of_wp Tryz.func75 rfl trivial ?_ rfl
    simp only [Tryz.ntmps75, List.size_toArray, List.length_cons, List.length_nil, Nat.reduceAdd, Nat.reduceSub, Array.replicate_succ, Array.replicate_zero, List.push_toArray, List.append_toArray, List.nil_append, List.cons_append]
    gi_wp2
    gi_loopw [16] (fun i wr => ∃ (j : Nat) (M' : List Nat), j ≤ n ∧ i = .int .i64 (j : Int) ∧ (∀ x, x ∈ M' → base ≤ x ∧ x < wr.heap.size) ∧ (∀ x, x ∈ M → x ∈ M') ∧ J (k + (allTo n f head j).length) M' wr ∧ OwnInts wr base (.slice a q c) (Zs head) ∧ Only ((Value.slice a q c).ownBlock.toList ++ l :: G) W wr) (fun i _ => n - (intOf i).toNat)
    case atStart => exact ⟨0, M, Nat.zero_le _, rfl, HM.out, fun x hx => hx, HJ.out, HO.out, Only.refl _ _⟩
    case round =>
      obtain ⟨j, M', hj, rfl, hM', hMM, hJ', hO', hW⟩ := hrel
      have HM' := Lib.hid hM'
      have HMM := Lib.hid hMM
      have HJ' := Lib.hid hJ'
      have HO' := Lib.hid hO'
      have HW := Lib.hid hW
      have hsz := hW.size
      have hbw : base ≤ wr.heap.size := by omega
      have hI : Ints wr a (Zs head) := by
        obtain ⟨a2, c2, g2, e2, _, _, h4⟩ := hO'.atc
        injection e2 with e2 _ _
        rw [e2]; exact h4.ints
      have HI := Lib.hid hI
      clear hM' hMM hJ' hO' hW hI
      by_cases hlt : j < n
      · cases hh : head.contains j with
        | true =>
          have HE := Lib.hid (allTo_hit (n := n) (f := f) hh)
          have HC : Hid ((Zs head).contains (j : Int) = true) := (Zs_has head j).trans hh
          clear hh
          gi_wp2_with fail
          refine inCall ((contains_b a c (Zs head) q HZ.out (by omega) (j : Int) true HC.out _ HI.out).mono ?_)
          rintro e w2 ⟨rfl, rfl⟩
          gi_wp2
          refine ⟨trivial, ?_⟩
          gi_wp2
          go_roundw
          case rel => exact ⟨j + 1, M', by omega, by go_num, HM'.out, HMM.out, by rw [HE.out]; exact HJ'.out, HO'.out, HW.out⟩
          case measure => simp [intOf]; omega
        | false =>
          have HE := Lib.hid (allTo_miss (n := n) (f := f) hh)
          have HC : Hid ((Zs head).contains (j : Int) = false) := (Zs_has head j).trans hh
          have HPART := Lib.hid (allTo_part (n := n) (f := f) hlt hh)
          clear hh
          gi_wp2_with fail
          refine inCall ((contains_b a c (Zs head) q HZ.out (by omega) (j : Int) false HC.out _ HI.out).mono ?_)
          rintro e w2 ⟨rfl, rfl⟩
          have HOW : Hid ((wr.alloc (.cells #[.int .i64 (j : Int)] 3)).ownsRow base 3 1 (.slice a q c) q ((Zs head).map (Value.int .i64))) := by
            have h := HO'.out.alloc (.cells #[.int .i64 (j : Int)] 3)
            unfold OwnInts at h
            rw [HZ.out] at h
            exact h
          gi_wp2_with (gi_at_builtin; refine wpListIn_appendG _ rfl _ _ 24 rfl base 3 i0 (.int .i64 0) 1 8 Tryz.underlying24 hi hz0 hz1 hz2 rfl (by decide) _ _ _ rfl HOW.out ⟨wr.heap.size, 0, none⟩ 1 1 [.int .i64 (j : Int)] rfl rfl ?c1 ?c2 (by decide) ?c3 ?c4 ?c5 ?_)
          case c1 => intro i u hj; exact Mem.cell_new wr _ _ i u hj
          case c2 => intro u hu; simp at hu; subst hu; rfl
          case c3 => unfold maxLen; omega
          case c4 => omega
          case c5 => simp; omega
          intro g2 cap2 w3 hown hcase hlt2
          have h4 : (Zs (head ++ [j])).length = q + 1 := by rw [Zs_len, List.length_append, HQ.out]; rfl
          have hO4 : OwnInts w3 base (.slice (some ⟨g2, 0, none⟩) (q + 1) cap2) (Zs (head ++ [j])) := by
            unfold OwnInts
            rw [h4, Zs_next, List.map_append]
            exact hown
          -- where the new row lies
          have hW3 : Only (Value.slice a q c).ownBlock.toList wr w3 := by
            rcases hcase with ⟨⟨e, _⟩, hg⟩ | ⟨_, hg⟩
            · refine (Only.new _ wr _).trans ((only_grown hg).wider fun x hx => ?_)
              rw [e]
              exact hx
            · exact (Only.new _ wr _).trans ((only_grown hg).wider fun x hx => by simp at hx)
          have hs3 := hW3.size
          obtain ⟨q1, -, -, -⟩ := hO4.known
          -- the blocks that are the iterator's own now
          have hM3 : ∀ x, x ∈ g2 :: M' → base ≤ x ∧ x < w3.heap.size := fun x hx => by
            rcases List.mem_cons.1 hx with rfl | hx
            · exact ⟨q1, hlt2⟩
            · have := HM'.out x hx; omega
          have hJ3 : J (k + (allTo n f head j).length) (g2 :: M') w3 := by
            refine hBJ _ M' (g2 :: M') wr w3 HJ'.out (hW3.wider fun x hx => ?_) fun x hx => ?_
            · refine List.mem_cons_of_mem _ (HMM.out x (HV.out x ?_))
              cases hb : (Value.slice a q c).ownBlock with
              | none => rw [hb] at hx; simp at hx
              | some y => rw [hb] at hx; simp at hx; rw [hx]
            · rcases List.mem_cons.1 hx with rfl | hx
              · rcases hcase with ⟨⟨e, _⟩, _⟩ | ⟨e, _⟩
                · exact .inl (HMM.out _ (HV.out _ (by rw [e]; rfl)))
                · exact .inr (by omega)
              · exact .inl hx
          obtain ⟨rest, hrest⟩ := HPART.out
          have hK2 := HK.out
          rw [hrest] at hK2
          have hcall := IH.out (head ++ [j]) (by rw [List.length_append, HQ.out]; show q + 1 + f = n; omega) (m - 1) _ (k + (allTo n f head j).length) (g2 :: M') w3 hO4 hM3 (fun g' e => by
            have e : some g2 = some g' := e
            injection e with e
            rw [← e]; exact List.mem_cons_self ..) (by omega) hJ3 (at_part hK2)
          have HCALL := Lib.hid hcall
          have HO4 := Lib.hid hO4
          have HW3 := Lib.hid hW3
          have HM3 := Lib.hid hM3
          have HCASE := Lib.hid hcase
          clear hcall hK2 hrest hO4 hW3 hM3 hJ3 hcase hown
          gi_wp2_with fail
          refine ⟨trivial, wd, ?_⟩
          refine HCALL.out.mono ?_
          rintro e w5 ⟨rfl, M5, hM5, hMM5, hJ5, hO5, hW5⟩
          have HM5 := Lib.hid hM5
          have HMM5 := Lib.hid hMM5
          have HJ5 := Lib.hid hJ5
          have HO5 := Lib.hid hO5
          have HW5 := Lib.hid hW5
          clear hM5 hMM5 hJ5 hO5 hW5
          gi_wp2
          go_roundw
          case rel =>
            have hO6 : OwnInts w5 base (.slice a q c) (Zs head) := by
              rcases HCASE.out with ⟨⟨e, e2⟩, _⟩ | ⟨e, hg⟩
              · have h := HO5.out
                rw [Zs_next, ← HZ.out, ← e2, ← e] at h
                rw [← HZ.out, e]
                rw [e] at h
                exact h.head
              · refine ((HO'.out.alloc _).only (only_grown hg) fun g' e1 hm => by simp at hm).only HW5.out fun g' e1 hm => ?_
                have h1 := (World.ownsRow.lt HO'.out g' e1).2
                rcases List.mem_append.1 hm with hm | hm
                · simp [Value.ownBlock] at hm; omega
                · exact HW0.out g' e1 hm
            refine ⟨j + 1, M5, by omega, by go_num, HM5.out, fun x hx => HMM5.out x (List.mem_cons_of_mem _ (HMM.out x hx)), ?_, hO6, ?_⟩
            · rw [HE.out, List.length_append, ← Nat.add_assoc]; exact HJ5.out
            · refine (HW.out.trans (HW3.out.wider fun x hx => List.mem_append_left _ hx)).then HW5.out fun x hx => ?_
              rcases List.mem_append.1 hx with hx | hx
              · have hx : x = g2 := by simpa [Value.ownBlock] using hx
                rcases HCASE.out with ⟨⟨e, _⟩, _⟩ | ⟨e, _⟩
                · left; rw [e, hx]; simp [Value.ownBlock]
                · right; omega
              · exact .inl (List.mem_append_right _ hx)
          case measure => simp [intOf]; omega
      · have E : Hid (allTo n f head j = allN n (f + 1) head) := by
          have h1 : j = n := by omega
          have : allTo n f head j = allN n (f + 1) head := by rw [h1]; exact allTo_all n f head
          exact this
        gi_wp2
        go_ret
        exact ⟨rfl, M', HM'.out, HMM.out, by rw [← E.out]; exact HJ'.out, HO'.out, HW.out⟩

end Go.Proofs.YtbkkdgmiokdbmaaGreat

/-! WALKS: impl's chapter 9: the iterator over all lists of names. -/

namespace Go.Proofs.YtbkkdgmiokdbmaaGreat
open Go.RowKit
open Sets Nam

/-- A box of one number. -/
def BoxI (w : World) (b : Nat) (x : Int) : Prop := b < w.heap.size ∧ w.cell? ⟨b, 0, none⟩ = some (.int .i64 x) ∧ w.frozen? ⟨b, 0, none⟩ = false
theorem BoxI.new (w : World) (x : Int) (t : TypeId) : BoxI (w.alloc (.cells #[.int .i64 x] t)) w.heap.size x := by
  have h := World.alloc_heap_new w (.cells #[.int .i64 x] t)
  exact ⟨by simp, by simp only [World.cell?, h]; rfl, by simp only [World.frozen?, h]; rfl⟩
theorem BoxI.only {w w' : World} {b : Nat} {x : Int} {G : List Nat} (h : BoxI w b x) (k : Only G w w') (hb : b ∉ G) : BoxI w' b x := by
  obtain ⟨h1, h2, h3⟩ := h
  have e := k.block b h1 hb
  exact ⟨Nat.lt_of_lt_of_le h1 k.size, by rw [World.cell?_of_block (w := w) e]; exact h2, by rw [World.frozen?_of_block (w := w) e]; exact h3⟩
theorem BoxI.set {w : World} {b : Nat} {x : Int} (h : BoxI w b x) (y : Int) : BoxI (w.setCell ⟨b, 0, none⟩ (.int .i64 y)) b y := by
  obtain ⟨h1, h2, h3⟩ := h
  exact ⟨by simpa [World.setCell] using h1, World.cell?_setCell_same' _ _ _ (by rw [h2]; rfl), by rw [World.frozen?_setCell]; exact h3⟩

attribute [local go_sem] Oper.semAt_some

set_option maxRecDepth 100000 in
set_option maxHeartbeats 1000000 in
theorem namesFor_any (n : Int) (w : World) : Calls Tryz.prog 48 #[.int .i64 n] w fun e w' => e = .returned (.func (.func 74) #[] #[.pointer (some ⟨w.heap.size, 0, none⟩)]) ∧ w' = w.alloc (.cells #[.int .i64 n] 3) := by
  go_enter Tryz.func48, Tryz.ntmps48
  go_wp2
  go_ret
  exact ⟨rfl, rfl⟩

set_option maxRecDepth 100000 in
set_option maxHeartbeats 1000000 in
theorem names_seq (n : Nat) (hn6 : n ≤ 6) (bn : Nat) :
    SeqO Tryz.prog 74 #[.pointer (some ⟨bn, 0, none⟩)] ((allNames n).map Zs) fun _ _ W => W.cell? ⟨bn, 0, none⟩ = some (.int .i64 (n : Int)) := by
  intro l G J W hbn hl hG hBJ hY h0 m
  have hcall := complete_any l G W.heap.size hl hG J hBJ ((allNames n).map Zs) hY n hn6 n [] (by simp) (m - 1) (.slice none 0 0) 0 [] W (OwnInts.nil _ _) (fun x hx => absurd hx List.not_mem_nil) (fun g e => by cases e) (Nat.le_refl _) h0 fun i hi => by
    rw [Nat.zero_add, List.getElem?_map, List.getD]
    show Option.map Zs (allN n n [])[i]? = _
    rw [List.getElem?_eq_getElem hi]
    rfl
  have HC := Lib.hid hcall
  clear hcall hY hBJ h0 hG
  show CallsIn Fence.wide m Tryz.prog 74 #[.func (.yield l) #[] #[], .pointer (some ⟨bn, 0, none⟩)] W _
  refine callsIn_of_wp Tryz.func74 rfl trivial ?_ rfl
  simp only [Tryz.ntmps74, List.size_toArray, List.length_cons, List.length_nil, Nat.reduceAdd, Nat.reduceSub, Array.replicate_succ, Array.replicate_zero, List.push_toArray, List.append_toArray, List.nil_append, List.cons_append]
  gi_wp2_with fail
  refine ⟨trivial, wd, ?_⟩
  refine HC.out.mono ?_
  rintro e w5 ⟨rfl, M5, hM5, _, hJ5, _, _⟩
  have HM5 := Lib.hid hM5
  have HJ5 := Lib.hid hJ5
  clear hM5 hJ5
  gi_wp2
  go_end0
  refine ⟨⟨_, rfl⟩, M5, ?_, fun x hx => (HM5.out x hx).1⟩
  have h := HJ5.out
  rw [Nat.zero_add] at h
  rw [List.length_map]
  exact h

end Go.Proofs.YtbkkdgmiokdbmaaGreat
