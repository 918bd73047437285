/-
  TEXTS of one claim, put together: HlD, MatP, WMatI1, WMatI2.
-/
import Derived.Test.YtenpcjmhlnalcaaJg19
import Derived.Test.YtenpcjmhlnalcaaJg22
import Derived.Test.YtenpcjmhlnalcaaCntLaw
import Derived.Test.YtenpcjmhlnalcaaJg5
import Derived.Laws.MakeOwn
import Derived.Test.YtenpcjmhlnalcaaJg18
import Derived.Test.YtenpcjmhlnalcaaJg10
import Derived.Deep.RegionLaw
import Derived.Deep.AppendLies
import Derived.Laws.Cover3
/-! HOLES of a complex, as a list: the signed sum is the Euler number; what chapter 14's law says of them. -/

namespace Go.Proofs.Ytenpcjmhlnalcaa
open Sets Lin Join

namespace Hom

theorem holL_at (p : Nat) (n : Int) (xs : List Int) (k : Nat) (h : k < top (faces n xs)) : (holL p n xs).getD k 0 = hol p (inF xs) k := by
  unfold holL
  simp [List.getD, h]
theorem rk_top {p : Nat} (hP : IsP p) {q : Nat → Bool} (hq : Down q) : rk p q (top (ord q)) = 0 := by
  have h := (card_cyc hP hq (top (ord q))).2
  have hJ : J q (top (ord q)) = [] := by
    rw [List.eq_nil_iff_forall_not_mem]
    intro s hs
    obtain ⟨h1, h2, h3⟩ := (mem_J q _ s).1 hs
    have := top_ge (ord q) (s : Int) ((mem_ord q _).2 ⟨s, rfl, h1, h3⟩)
    rw [Int.toNat_natCast] at this
    omega
  rw [hJ] at h
  simpa using h
theorem sgn_off (m : Nat) (a b c d : Int) (h : d = a - b - c) : Go.Proofs.Ytenpcjmhlnalcaa.sgn m d = Go.Proofs.Ytenpcjmhlnalcaa.sgn m a - Go.Proofs.Ytenpcjmhlnalcaa.sgn m b + Go.Proofs.Ytenpcjmhlnalcaa.sgn (m + 1) c := by
  unfold Go.Proofs.Ytenpcjmhlnalcaa.sgn
  by_cases e : m % 2 = 1
  · rw [if_pos e, if_pos e, if_pos e, if_neg (by omega)]; omega
  · rw [if_neg e, if_neg e, if_neg e, if_pos (by omega)]; omega
theorem signed_step {p : Nat} {n : Int} {xs : List Int} (h : isC n xs = true) : ∀ m, m ≤ top (faces n xs) → ssumK (holL p n xs) m = ssumK (counts (faces n xs)) m + Go.Proofs.Ytenpcjmhlnalcaa.sgn m (rk p (inF xs) m : Int)
  | 0, _ => by
    have : rk p (inF xs) 0 = 0 := rfl
    rw [this]; rfl
  | m + 1, hm => by
    have ih := signed_step (p := p) h m (by omega)
    have e1 := holL_at p n xs m (by omega)
    have e2 := counts_at (faces n xs) m (by omega)
    have e3 : cnt m (faces n xs) = fN (inF xs) m := by rw [faces_ord h]; exact cnt_ord _ _
    show ssumK (holL p n xs) m + Go.Proofs.Ytenpcjmhlnalcaa.sgn m ((holL p n xs).getD m 0) = ssumK (counts (faces n xs)) m + Go.Proofs.Ytenpcjmhlnalcaa.sgn m ((counts (faces n xs)).getD m 0) + _
    rw [e1, e2, e3, ih, sgn_off m (fN (inF xs) m) (rk p (inF xs) m) (rk p (inF xs) (m + 1)) (hol p (inF xs) m) rfl]
    omega
/-- THE SIGNED SUM OF HOLES IS THE EULER NUMBER. -/
theorem holL_signed {p : Nat} (hP : IsP p) {n : Int} {xs : List Int} (h : isC n xs = true) : ssumK (holL p n xs) (holL p n xs).length = eul (faces n xs) := by
  rw [holL_length, signed_step h _ (Nat.le_refl _)]
  have e : rk p (inF xs) (top (faces n xs)) = 0 := by rw [faces_ord h]; exact rk_top hP (inF_down xs)
  rw [e, ← counts_signed, counts_length]
  unfold Go.Proofs.Ytenpcjmhlnalcaa.sgn
  split <;> simp

theorem bit_some : ∀ v : Fin 64, pc v.val ≠ 0 → ∃ z : Fin 6, sub (2 ^ z.val) v.val = true := by decide +kernel
theorem point_of_top {n : Int} {xs : List Int} (h : isC n xs = true) (h1 : 1 < top (faces n xs)) : ∃ s, s < 64 ∧ pc s = 1 ∧ inF xs s = true := by
  obtain ⟨x, hx, ht⟩ := top_hit (faces n xs) (by omega)
  rw [faces_ord h] at hx
  obtain ⟨v, rfl, hv, hq⟩ := (mem_ord _ _).1 hx
  rw [Int.toNat_natCast] at ht
  obtain ⟨z, hz⟩ := bit_some ⟨v, hv⟩ (by show pc v ≠ 0; omega)
  obtain ⟨b1, b2⟩ := bit_one z
  exact ⟨_, b1, b2, inF_down xs _ v b1 hv hz hq⟩
theorem holL_first {p : Nat} (hP : IsP p) {n : Int} {xs : List Int} (h : isC n xs = true) (h1 : 1 < top (faces n xs)) : (holL p n xs).getD 0 0 = 0 ∧ (holL p n xs).getD 1 0 = (partsN (inF xs) : Int) - 1 := by
  obtain ⟨s, h64, hs, hq⟩ := point_of_top h h1
  rw [holL_at p n xs 0 (by omega), holL_at p n xs 1 h1]
  exact ⟨hol_zero hP (inF_down xs) h64 hs hq, hol_parts hP (inF_down xs) h64 hs hq⟩
theorem holL_empty {p : Nat} (hP : IsP p) {n : Int} {xs : List Int} (h : isC n xs = true) (h1 : top (faces n xs) = 1) : (holL p n xs).getD 0 0 = 1 := by
  rw [holL_at p n xs 0 (by omega)]
  have hx : xs ≠ [] := by
    rintro rfl
    have e := faces_ord h
    have : ord (inF []) = [] := by rw [List.eq_nil_iff_forall_not_mem]; intro x hx; obtain ⟨v, _, _, hq⟩ := (mem_ord _ _).1 hx; simp [inF] at hq
    rw [e, this] at h1
    simp [top] at h1
  have e := rk_top hP (inF_down xs)
  rw [← faces_ord h, h1] at e
  have e2 : fN (inF xs) 0 = 1 := by unfold fN; rw [J_zero (inF_zero hx)]; rfl
  have e3 : rk p (inF xs) 0 = 0 := rfl
  show (fN (inF xs) 0 : Int) - rk p (inF xs) 0 - rk p (inF xs) 1 = 1
  omega
theorem holL_pos {p : Nat} (hP : IsP p) (n : Int) (xs : List Int) (k : Nat) (h : k < (holL p n xs).length) : 0 ≤ (holL p n xs).getD k 0 := by
  rw [holL_length] at h
  rw [holL_at p n xs k h]
  exact hol_nonneg hP (inF_down xs) k

/-! ### cones -/

theorem fold_bits (i : Nat) : ∀ (xs : List Int) (a : Nat), (xs.foldl (fun a x => a &&& x.toNat) a).testBit i = true → a.testBit i = true ∧ ∀ x ∈ xs, x.toNat.testBit i = true
  | [], a, h => ⟨h, fun x hx => by simp at hx⟩
  | y :: xs, a, h => by
    obtain ⟨h1, h2⟩ := fold_bits i xs (a &&& y.toNat) h
    rw [Nat.testBit_and, Bool.and_eq_true] at h1
    refine ⟨h1.1, fun x hx => ?_⟩
    rcases List.mem_cons.1 hx with rfl | hx
    · exact h1.2
    · exact h2 x hx
theorem sub_test {v x : Nat} (h : x.testBit v = true) : sub (2 ^ v) x = true := by
  unfold sub
  rw [beq_iff_eq]
  refine Nat.eq_of_testBit_eq fun i => ?_
  rw [Nat.testBit_and, Nat.testBit_two_pow]
  by_cases e : v = i
  · subst e; simp [h]
  · simp [e]
theorem bit_in : ∀ P : Fin 64, P.val ≠ 0 → ∃ v : Fin 6, P.val.testBit v.val = true := by decide +kernel
theorem fold_lt (xs : List Int) : xs.foldl (fun a x => a &&& x.toNat) 63 < 64 := by
  have H : ∀ (xs : List Int) (a : Nat), a < 64 → xs.foldl (fun a x => a &&& x.toNat) a < 64 := by
    intro xs
    induction xs with
    | nil => intro a h; exact h
    | cons x xs ih => intro a h; exact ih _ (Nat.lt_of_le_of_lt Nat.and_le_left h)
  exact H xs 63 (by omega)
theorem cone_apex {n : Int} {xs : List Int} (hc : conePts n xs ≠ 0) : isC n xs = true ∧ xs ≠ [] ∧ ∃ v : Fin 6, ∀ s, s < 64 → inF xs s = true → inF xs (s ||| 2 ^ v.val) = true := by
  unfold conePts at hc
  split at hc
  · rename_i h
    obtain ⟨v, hv⟩ := bit_in ⟨_, fold_lt xs⟩ hc
    refine ⟨h.1, h.2, v, fun s _ hs => ?_⟩
    unfold inF at hs ⊢
    rw [List.any_eq_true] at hs ⊢
    obtain ⟨f, hf, hfs⟩ := hs
    exact ⟨f, hf, sub_or hfs (sub_test ((fold_bits v.val xs 63 hv).2 f hf))⟩
  · exact absurd rfl hc
theorem holL_none {p : Nat} (hP : IsP p) {n : Int} {xs : List Int} (hc : conePts n xs ≠ 0) : ∀ x, x ∈ holL p n xs → x = 0 := by
  obtain ⟨_, _, v, hv⟩ := cone_apex hc
  intro x hx
  unfold holL at hx
  obtain ⟨k, _, rfl⟩ := List.mem_map.1 hx
  exact cone_none hP (inF_down xs) v hv k

end Hom
end Go.Proofs.Ytenpcjmhlnalcaa

/-! MEMORY: a matrix behind a pointer (a box that holds a slice of rows of its own). -/

namespace Go.Proofs.Ytenpcjmhlnalcaa
open Go.RowKit

/-- The box P holds the matrix M, whose rows lie in the blocks R. -/
structure MP (w : World) (base P : Nat) (v : Value) (R : List (Nat × Nat)) (M : Lin.Mat) : Prop where
  cell : w.cell? ⟨P, 0, none⟩ = some v
  soft : w.frozen? ⟨P, 0, none⟩ = false
  low : base ≤ P
  lt : P < w.heap.size
  own : OwnMx w base v R M
  off : v.ownBlock ≠ some P
  offR : P ∉ blks R

theorem MP.keeps {w w' : World} {base P : Nat} {v : Value} {R : List (Nat × Nat)} {M : Lin.Mat} (h : MP w base P v R M) (hb : Below w.heap.size w w') : MP w' base P v R M :=
  ⟨by rw [hb.cell (p := ⟨P, 0, none⟩) h.lt]; exact h.cell, by rw [hb.frozen (p := ⟨P, 0, none⟩) h.lt]; exact h.soft, h.low, Nat.lt_of_lt_of_le h.lt hb.size, h.own.keeps hb, h.off, h.offR⟩
theorem MP.lower {w : World} {base b P : Nat} {v : Value} {R : List (Nat × Nat)} {M : Lin.Mat} (h : MP w base P v R M) (hb : b ≤ base) : MP w b P v R M :=
  ⟨h.cell, h.soft, Nat.le_trans hb h.low, h.lt, h.own.lower hb, h.off, h.offR⟩
theorem OwnMx.nil (w : World) (base : Nat) : OwnMx w base (.slice none 0 0) [] [] :=
  ⟨World.ownsRow_nil _ _ _ _, rfl, by simp, fun i hi => absurd hi (Nat.not_lt_zero _), fun _ _ => by simp⟩
theorem MP.new (w : World) (base : Nat) (hb : base ≤ w.heap.size) (t : TypeId) : MP (w.alloc (.cells #[.slice none 0 0] t)) base w.heap.size (.slice none 0 0) [] [] := by
  refine ⟨?_, ?_, hb, by simp, OwnMx.nil _ _, by simp [Value.ownBlock], by simp⟩
  · rw [World.cell?_alloc_new w _ t 0]; rfl
  · exact World.frozen?_alloc_new w _ _ _

/-- A row is appended and the box is written: what the box then holds. -/
theorem MP.next {w w3 : World} {base P : Nat} {v : Value} {R : List (Nat × Nat)} {M : Lin.Mat} (h : MP w base P v R M) {g c g2 cap : Nat} {r : List Int} (hg : base ≤ g) (hlt : g < w.heap.size) (hr : IntsAt w g (some ⟨g, 0, none⟩) r) (hn : g ∉ blks R) (hv : v.ownBlock ≠ some g) (hP : g ≠ P)
    (ho : w3.ownsRow base 22 1 (.slice (some ⟨g2, 0, none⟩) (M.length + 1) cap) (M.length + 1) (vals R M ++ [.slice (some ⟨g, 0, none⟩) r.length c])) (hgr : w.grownBy w3 v.ownBlock) (hb : v.ownBlock = some g2 ∨ g2 = w.heap.size) :
    MP (w3.setCell ⟨P, 0, none⟩ (.slice (some ⟨g2, 0, none⟩) (M.length + 1) cap)) base P (.slice (some ⟨g2, 0, none⟩) (M.length + 1) cap) (R ++ [(g, c)]) (M ++ [r]) := by
  have hO := OwnMx.next (v' := .slice (some ⟨g2, 0, none⟩) (M.length + 1) cap) h.own hg hlt hr hn hv ho hgr (by
    rcases hb with e | e
    · exact .inl (by rw [e]; rfl)
    · exact .inr ⟨g2, rfl, by omega⟩)
  have hne : v.ownBlock ≠ some P := h.off
  have hblk := hgr.block P h.lt (fun e => hne e.symm)
  have hc3 : w3.cell? ⟨P, 0, none⟩ = some v := by rw [World.cell?_of_block (w := w) hblk]; exact h.cell
  have hg2 : g2 ≠ P := by
    rcases hb with e | e
    · intro e2; exact hne (by rw [e, e2])
    · have := h.lt; omega
  have hPR : P ∉ blks (R ++ [(g, c)]) := by
    rw [show blks (R ++ [(g, c)]) = blks R ++ [g] by simp [blks], List.mem_append, List.mem_singleton]
    rintro (hm | e)
    · exact h.offR hm
    · exact hP e.symm
  have hon : Only [P] w3 (w3.setCell ⟨P, 0, none⟩ (.slice (some ⟨g2, 0, none⟩) (M.length + 1) cap)) := Only.set _ _ _ (by simp) _
  refine ⟨World.cell?_setCell_same _ _ _ hc3, by rw [World.frozen?_setCell, World.frozen?_of_block (w := w) hblk]; exact h.soft, h.low, by have := hgr.size; have := h.lt; simp [World.setCell]; omega, ?_, by simp only [Value.ownBlock, ne_eq, Option.some.injEq]; exact hg2, hPR⟩
  refine ⟨?_, hO.len, hO.nodup, fun i hi => ?_, hO.apart⟩
  · refine World.ownsRow.kept (row := some P) hO.own ⟨hon.os, hon.tape, hon.output, hon.size, fun k hk hne => hon.block k hk (fun hm => hne (by simp at hm; rw [hm]))⟩ (.inr fun e => ?_)
    simp only [Value.ownBlock, Option.some.injEq] at e
    omega
  · obtain ⟨q1, q2, q3⟩ := hO.rows i hi
    refine ⟨q1, by simpa [World.setCell] using q2, q3.only hon ?_⟩
    rw [List.mem_singleton]
    intro e
    exact hPR (by rw [← e]; exact blk_mem (by rw [hO.len]; exact hi))

theorem box_after {w wo w1 : World} {P : Nat} {v : Value} (hc : w.cell? ⟨P, 0, none⟩ = some v) (hf : w.frozen? ⟨P, 0, none⟩ = false) (hlt : P < w.heap.size) (hb : Below w.heap.size w wo) (hg : wo.grownBy w1 v.ownBlock) (hoff : v.ownBlock ≠ some P) : w1.cell? ⟨P, 0, none⟩ = some v ∧ w1.frozen? ⟨P, 0, none⟩ = false := by
  have e1 := hb.block P hlt
  have e2 := hg.block P (Nat.lt_of_lt_of_le hlt hb.size) (fun e => hoff e.symm)
  exact ⟨by rw [World.cell?_of_block (w := w) (e2.trans e1)]; exact hc, by rw [World.frozen?_of_block (w := w) (e2.trans e1)]; exact hf⟩
theorem below_two {w : World} (o o2 : Obj) : Below w.heap.size w ((w.alloc o).alloc o2).drew := by
  have h : Below w.heap.size w ((w.alloc o).alloc o2) := ((Below.refl _ _).alloc (Nat.le_refl _) _).alloc (by simp) _
  exact ⟨h.os, h.tape, h.output, h.size, h.block⟩

/-- make([]int, n). -/
theorem make_ints (n : Nat) (hn : n ≤ 1099511627776) (W : World) : (Instr.makeSlice 22 (.int .i64 (n : Int)) (.int .i64 (n : Int))).run Try.prog W = .ok (.slice (some ⟨W.heap.size, 0, none⟩) n n) (W.alloc (.cells ((List.replicate n (0 : Int)).map (Value.int .i64)).toArray 3)) := by
  obtain ⟨i0, hi, hz0, hz1, hz2⟩ := info_parts info_int
  have h := run_make W 22 3 i0 (.int .i64 0) Try.underlying22 hi hz0 .i64 .i64 n n (by omega) (Int.le_refl _) (by rw [hz2]; omega) (by omega)
  have e : madeCells (Value.int IntKind.i64 0).cells (n * 1) = ((List.replicate n (0 : Int)).map (Value.int .i64)).toArray := by
    apply Array.ext'
    rw [List.map_replicate, ← toList_madeCells_one, Nat.mul_one]
    rfl
  rw [h, hz1, Int.toNat_natCast, e]

theorem made_row (W : World) (n : Nat) (hn : n ≤ 1099511627776) : IntsAt (W.alloc (.cells ((List.replicate n (0 : Int)).map (Value.int .i64)).toArray 3)) W.heap.size (some ⟨W.heap.size, 0, none⟩) (List.replicate n 0) := by
  have h := OwnInts.lit W W.heap.size (List.replicate n 0) (Nat.le_refl _) (by rw [List.length_replicate]; omega)
  exact (OwnInts.known h).2.2.1

end Go.Proofs.Ytenpcjmhlnalcaa

/-! WALKS of chapter 13 (impl): a row cloned; the height and the width of a matrix; the matrix of zeros. -/

namespace Go.Proofs.Ytenpcjmhlnalcaa
open Go.RowKit

theorem eqlM_nil (a : Option Addr) (l c : Nat) (w : World) : (binOp .eql 22 (.slice a l c) (.slice none 0 0)).run Try.prog w = .ok (.bool a.isNone) w := by
  unfold binOp
  simp [run_equal_slice_nil w 22 3 a l c Try.underlying22, Result.andThen]

attribute [local go_sem ↓] eqlM_nil

theorem Ints.newsP {w : World} {ad : Addr} {xs : List Int} (h : Ints w (some ad) xs) : ∀ (j : Nat) u, (xs.map (Value.int .i64))[j]? = some u → w.cell? (ad.add j) = some u := fun j u hu => by
  have hj : j < (xs.map (Value.int .i64)).length := (List.getElem?_eq_some_iff.1 hu).1
  rw [List.length_map] at hj
  rw [ints_cell xs j hj] at hu
  cases hu
  obtain ⟨b, o, e, hc⟩ := h j hj
  cases e
  have e1 : (⟨b, o, none⟩ : Addr).add j = ⟨b, o + j, none⟩ := by unfold Addr.add; split <;> simp_all
  rw [e1]; exact hc
theorem Ints.nilM {w : World} {xs : List Int} (h : Ints w none xs) : xs = [] := by
  rcases Nat.eq_zero_or_pos xs.length with e | e
  · exact List.eq_nil_of_length_eq_zero e
  · obtain ⟨_, _, e, _⟩ := h 0 e; cases e
theorem one_intsP (xs : List Int) : ∀ u ∈ xs.map (Value.int .i64), u.oneCell' = true := by
  intro u hu; obtain ⟨x, _, rfl⟩ := List.mem_map.1 hu; rfl
theorem run_append_noneM {P : Program} {w : World} (base : Nat) (t ty e : TypeId) (i : TypeInfo) (size : Nat) (ht : P.underlying t = some (.slice e)) (hi : P.info? e = some i)
    (v : Value) (n : Nat) (xs : List Value) (hown : w.ownsRow base e size v n xs) (c : Nat) :
    (Builtin.append_ #[t, t] ty #[v, .slice none 0 c]).run P w = .ok v w := by
  rcases hown.2 with ⟨rfl, rfl⟩ | ⟨g, cap, cur, rfl, _, _, hnc, _⟩
  · simp [Builtin.append_, run_underlying ht, sizeOf, typeInfo, hi, Builtin.lenOf, Builtin.firstCells]
  · simp [Builtin.append_, run_underlying ht, sizeOf, typeInfo, hi, Builtin.lenOf, Builtin.firstCells, hnc, storeCells]
/-- append of a slice that lies anywhere or is nil. -/
theorem wpList_append_srcM {P : Program} {ops : Array Oper} {rest : List Oper} {o : Oper} {a : Act} {w : World} {Q : Exit → Act → World → Prop} (hgd : o.guard = none) (s x : Operand) (t : TypeId)
    (ho : o.op = .call { callee := .builtin .append, args := #[s, x], argTypes := #[t, t] })
    (base : Nat) (e : TypeId) (i : TypeInfo) (z : Value) (ht : P.underlying t = some (.slice e)) (hi : P.info? e = some i) (hz : i.zero = some z)
    (hsize : i.size = 1) (hby : i.bytes = 8) (hzs : z.cells.size = 1)
    (v : Value) (n : Nat) (xs : List Value) (hs : a.eval s = v) (hown : w.ownsRow base e 1 v n xs)
    (src : Option Addr) (c : Nat) (ys : List Int) (hx : a.eval x = .slice src ys.length c) (hys : Ints w src ys)
    (h63 : n + ys.length ≤ maxLen) (hbytes : (n + ys.length) * 8 ≤ 140737488355328) (hbase : base ≤ w.heap.size)
    (h : ∀ v' w', w'.ownsRow base e 1 v' (n + ys.length) (xs ++ ys.map (Value.int .i64)) → w.grownBy w' v.ownBlock → wpList P ops Q rest (a.put o.dst v') w') :
    wpList P ops Q (o :: rest) a w := by
  cases src with
  | some ad => exact wpList_append_own w hgd s x t ho base e i z 1 8 ht hi hz hsize hby hzs (by decide) v n xs hs hown ad ys.length c (ys.map (Value.int .i64)) hx (by simp) (Ints.newsP hys) (one_intsP ys) h63 hbytes hbase fun v' w' h2 h3 _ => h v' w' h2 h3
  | none =>
    have hyn := hys.nilM
    subst hyn
    have hrun := run_append_noneM (P := P) (w := w) base t o.type e i 1 ht hi v n xs hown c
    have hk := h v w (by simpa using hown) (World.grownBy.refl w _)
    have hx2 : a.eval x = .slice none 0 c := hx
    refine wpList_plain hgd fun K hK => ?_
    unfold Oper.wp execOp
    simp only [ho, resolve, invoke, builtin, Sem.run_bind, Sem.run_pure, Result.andThen_ok, List.map_toArray, List.map_cons, List.map_nil, hs, hx2, hrun]
    exact hK _ _ hk

set_option maxRecDepth 100000 in
set_option maxHeartbeats 2000000 in
theorem cloneS_any (ad : Addr) (c : Nat) (xs : List Int) (hlen : xs.length ≤ 1099511627776) (w : World) (h : Ints w (some ad) xs) :
    Calls Try.prog 78 #[.slice (some ad) xs.length c] w fun e w' => ∃ g cc, e = .returned (.slice (some ⟨g, 0, none⟩) xs.length cc) ∧ OwnInts w' w.heap.size (.slice (some ⟨g, 0, none⟩) xs.length cc) xs ∧ Below w.heap.size w w' := by
  obtain ⟨i0, hi, hz0, hz1, hz2⟩ := info_parts info_int
  have hb1 : Below w.heap.size w (w.alloc (.cells #[] 3)) := (Below.refl _ _).alloc (Nat.le_refl _) _
  have HN1 := Lib.hid (h.keeps hb1)
  have HO0 := Lib.hid (OwnInts.lit w w.heap.size [] (Nat.le_refl _) (by simp))
  have HB1 := Lib.hid hb1
  clear hb1 h
  unfold OwnInts at HO0
  go_enter Try.func78, Try.ntmps78
  go_wp2_with (at_builtin; refine wpList_append_own_at _ rfl _ _ 22 rfl w.heap.size 3 i0 (.int .i64 0) 1 8 Try.underlying22 hi hz0 hz1 hz2 rfl (by decide) (.slice (some ⟨w.heap.size, 0, none⟩) 0 0) 0 [] rfl HO0.out ad xs.length c (xs.map (Value.int .i64)) rfl ?c0 (Ints.newsP HN1.out) (one_intsP _) ?c3 ?c4 ?c5 ?_)
  case c0 => rw [List.length_map]; simp
  case c3 => unfold maxLen; omega
  case c4 => omega
  case c5 => simp
  intro v1 w3 hown1 hgrow1 _ hob
  have hb3 : Below w.heap.size w w3 := HB1.out.grown hgrow1 (by simp) (fun g hg => by simp only [Value.ownBlock, Option.some.injEq] at hg; omega)
  have hO3 : OwnInts w3 w.heap.size v1 xs := by
    unfold OwnInts
    have h := hown1
    exact h
  obtain ⟨g, cc, rfl⟩ : ∃ g cc, v1 = .slice (some ⟨g, 0, none⟩) xs.length cc := by
    rcases hown1.2 with ⟨hv, _⟩ | ⟨g, cap, cur, hv, _⟩
    · rw [hv] at hob
      rcases hob with e | e <;> cases e
    · exact ⟨g, cap, by rw [hv]⟩
  have HO3 := Lib.hid hO3
  have HB3 := Lib.hid hb3
  clear hown1 hgrow1 hO3 hb3 hob
  go_wp2
  go_ret
  exact ⟨g, cc, rfl, HO3.out, HB3.out⟩

set_option maxRecDepth 100000 in
set_option maxHeartbeats 2000000 in
theorem height_any {base P : Nat} {v : Value} {R : List (Nat × Nat)} {M : Lin.Mat} (w : World) (h : MP w base P v R M) :
    Calls Try.prog 82 #[.pointer (some ⟨P, 0, none⟩)] w fun e w' => e = .returned (.int .i64 (M.length : Int)) ∧ w = w' := by
  obtain ⟨go, ao, co, rfl, -⟩ := h.own.mx
  have hc := h.cell
  clear h
  go_enter Try.func82, Try.ntmps82
  go_wp2
  go_ret
  exact ⟨rfl, rfl⟩

set_option maxRecDepth 100000 in
set_option maxHeartbeats 2000000 in
theorem width_any {base P : Nat} {v : Value} {R : List (Nat × Nat)} {M : Lin.Mat} (w : World) (h : MP w base P v R M) :
    Calls Try.prog 61 #[.pointer (some ⟨P, 0, none⟩)] w fun e w' => e = .returned (.int .i64 (Lin.wid M : Int)) ∧ w = w' := by
  obtain ⟨go, ao, co, rfl, -, hX⟩ := h.own.mx
  have hc := h.cell
  have hw0 : M.length = 0 → Lin.wid M = 0 := fun e => by
    rw [List.eq_nil_of_length_eq_zero e]; rfl
  have HW0 := Lib.hid hw0
  by_cases h0 : 0 < M.length
  · obtain ⟨hao, hgol, hc0, -⟩ := hX.out 0 h0
    subst hao
    have hd0 : ¬((M.length : Int) = 0) := by omega
    obtain ⟨n, hn⟩ : ∃ n, (Lin.row M 0).length = n := ⟨_, rfl⟩
    rw [hn] at hc0
    rw [show Lin.wid M = n from hn]
    clear h hX hw0 hn
    go_enter Try.func61, Try.ntmps61
    go_wp2
    go_ret
    exact ⟨rfl, rfl⟩
  · have hz : M.length = 0 := by omega
    rw [HW0.out hz]
    rw [hz] at hc
    clear h hX hw0
    go_enter Try.func61, Try.ntmps61
    go_wp2
    go_ret
    exact ⟨rfl, rfl⟩

def zeroM (h n : Nat) : Lin.Mat := List.replicate h (List.replicate n 0)
theorem zeroM_length (h n : Nat) : (zeroM h n).length = h := by simp [zeroM]
theorem zeroM_next (h n : Nat) : zeroM (h + 1) n = zeroM h n ++ [List.replicate n 0] := by unfold zeroM; rw [List.replicate_succ']

set_option maxRecDepth 100000 in
set_option maxHeartbeats 4000000 in
theorem zeroMatrix_any (h n : Nat) (zh zn : Int) (ezh : zh = (h : Int)) (ezn : zn = (n : Int)) (hh : h ≤ 1099511627776) (hn : n ≤ 1099511627776) (w : World) :
    Calls Try.prog 57 #[.int .i64 zh, .int .i64 zn] w fun e w' => ∃ P v R, e = .returned (.pointer (some ⟨P, 0, none⟩)) ∧ MP w' w.heap.size P v R (zeroM h n) ∧ Below w.heap.size w w' := by
  obtain ⟨i9, hi9, hz90, hz91, hz92⟩ := info_parts info_row
  subst ezh ezn
  have hmk := make_ints n hn
  have HMR := Lib.hid (fun W => made_row W n hn)
  obtain ⟨Z, hZ⟩ : ∃ Z, ((List.replicate n (0 : Int)).map (Value.int .i64)).toArray = Z := ⟨_, rfl⟩
  rw [hZ] at hmk
  simp only [hZ] at HMR
  have HP0 := Lib.hid (MP.new w w.heap.size (Nat.le_refl _) 61)
  have HB0 : Hid (Below w.heap.size w (w.alloc (.cells #[.slice none 0 0] 61))) := (Below.refl _ _).alloc (Nat.le_refl _) _
  clear hZ
  go_enter Try.func57, Try.ntmps57
  go_wp2
  go_loopw [9] (fun i wr => ∃ (k : Nat) (v : Value) (R : List (Nat × Nat)), k ≤ h ∧ i = .int .i64 (k : Int) ∧ MP wr w.heap.size w.heap.size v R (zeroM k n) ∧ Below w.heap.size w wr) (fun i _ => h - (intOf i).toNat)
  case atStart => exact ⟨0, _, [], Nat.zero_le _, rfl, HP0.out, HB0.out⟩
  case round =>
    clear HP0 HB0
    obtain ⟨k, v, R, hk, rfl, hM, hB⟩ := hrel
    have HM := Lib.hid hM
    have HB := Lib.hid hB
    have hcP := hM.cell
    have hfP := hM.soft
    have hltP := hM.lt
    have hsz := hB.size
    by_cases hlt : k < h
    · have hd : decide ((k : Int) < (h : Int)) = true := by simpa using hlt
      have hzl := zeroM_length k n
      have HOW := Lib.hid hM.own.own
      rw [hzl] at HOW
      have HOFF := Lib.hid hM.off
      clear hM hB hzl
      go_wp2_with fail
      go_region_law (first | (refine step_append_lies _ (by rfl) _ _ _ (by rfl) w.heap.size 22 i9 (.slice none 0 0) 1 24 Try.underlying40 hi9 hz90 hz91 hz92 rfl (by omega) v k (vals R (zeroM k n)) (by rfl) (((HOW.out.alloc _).alloc _).drew) ⟨wr.heap.size + 1, 0, none⟩ 1 1 [.slice (some ⟨wr.heap.size, 0, none⟩) n n] (by rfl) (by rfl) (fun j u hj => by have h := Mem.cell_new (wr.alloc (.cells Z 3)) [.slice (some ⟨wr.heap.size, 0, none⟩) n n] 22 j u hj; rw [World.size_alloc] at h; exact h) (by simp [Value.oneCell']) (by omega) (by unfold maxLen; omega) (by omega) (by simp; omega) (wr.heap.size + 2) (by simp) ?_; intro g2 cap w1 hown1 hgrow hat hlt3; obtain ⟨hcP1, hfP1⟩ := box_after hcP hfP hltP (below_two _ _) hgrow HOFF.out) | fail "arm")
      all_goals
        have hb2 : Below wr.heap.size wr ((wr.alloc (.cells Z 3)).alloc (.cells #[.slice (some ⟨wr.heap.size, 0, none⟩) n n] 22)).drew := below_two _ _
        have hM2 := MP.next (HM.out.keeps hb2) (g := wr.heap.size) (c := n) (g2 := g2) (cap := cap) (r := List.replicate n 0) (by omega) (by simp [World.drew]; omega) ((HMR.out wr).keeps (((Below.refl _ _).alloc (Nat.le_refl _) _).drew)) (fun hm => by have := (HM.out.own.old hm).2; omega) (fun e => by have := (World.ownsRow.lt HM.out.own.own _ e).2; omega) (by omega) (by rw [zeroM_length, List.length_replicate]; exact hown1) hgrow (by rcases hat with e | e; exact .inl e; exact .inr (by rw [e]; simp [World.drew]))
        rw [zeroM_length, ← zeroM_next] at hM2
        have hB2 : Below w.heap.size w w1 := (HB.out.trans (hb2.mono hsz)).grown hgrow (by have := hb2.size; omega) (fun g hg => (World.ownsRow.lt HM.out.own.own g hg).1)
        have hB3 := hB2.setCell (p := ⟨w.heap.size, 0, none⟩) (Nat.le_refl _) (.slice (some ⟨g2, 0, none⟩) (k + 1) cap)
        have HM2 := Lib.hid hM2
        have HB3 := Lib.hid hB3
        clear hown1 hgrow hat hb2 hM2 hB2 hB3
        go_wp2
        refine ⟨⟨k + 1, _, _, by omega, by go_num, HM2.out, HB3.out⟩, ?_⟩
        simp [intOf]; omega
    · have E : Hid (k = h) := by show k = h; omega
      have hd : decide ((k : Int) < (h : Int)) = false := by simpa using hlt
      go_wp2
      go_ret
      exact ⟨_, v, R, rfl, by rw [← E.out]; exact HM.out, HB.out⟩

end Go.Proofs.Ytenpcjmhlnalcaa

/-! WALK of chapter 13 (impl): a matrix read: rows of one length are copied. -/

namespace Go.Proofs.Ytenpcjmhlnalcaa
open Go.RowKit

/-- All rows have one length. -/
def rectB (M : Lin.Mat) : Bool := decide (∀ i, i < M.length → (Lin.row M i).length = Lin.wid M)
theorem rect_yes {M : Lin.Mat} (h : ∀ i, i < M.length → (Lin.row M i).length = Lin.wid M) : rectB M = true := decide_eq_true h
theorem rect_no {M : Lin.Mat} {k : Nat} (hk : k < M.length) (h : (Lin.row M k).length ≠ Lin.wid M) : rectB M = false := decide_eq_false fun a => h (a k hk)
theorem rect_at {M : Lin.Mat} (h : rectB M = true) : ∀ i, i < M.length → (Lin.row M i).length = Lin.wid M := of_decide_eq_true h
theorem rect_mem {M : Lin.Mat} (h : rectB M = true) : ∀ r ∈ M, r.length = Lin.wid M := fun r hr => by
  obtain ⟨i, hi, rfl⟩ := Lin.mem_row hr
  exact rect_at h i hi
theorem takeMx_next (M : Lin.Mat) (k : Nat) (h : k < M.length) : M.take (k + 1) = M.take k ++ [Lin.row M k] := by
  rw [List.take_add_one, List.getElem?_eq_getElem h]
  unfold Lin.row
  rw [List.getD, List.getElem?_eq_getElem h]
  rfl
theorem below_undrew {w w' : World} {n : Nat} (h : Below n w.drew w') : Below n w w' := ⟨h.os, h.tape, h.output, h.size, h.block⟩

set_option maxRecDepth 100000 in
set_option maxHeartbeats 4000000 in
theorem readMatrix_any (go : Nat) (ao : Option Addr) (co : Nat) (R0 : List (Nat × Nat)) (M : Lin.Mat) (hlen : M.length ≤ 1099511627776) (hrow : ∀ i, i < M.length → (Lin.row M i).length ≤ 1099511627776) (w : World) (h : Mx w go ao R0 M) :
    Calls Try.prog 59 #[.slice ao M.length co] w fun e w' => ((rectB M = true ∧ ∃ P v R, e = .returned (.tuple #[.pointer (some ⟨P, 0, none⟩), .bool true]) ∧ MP w' w.heap.size P v R M) ∨ (rectB M = false ∧ e = .returned (.tuple #[.pointer none, .bool false]))) ∧ Below w.heap.size w w' := by
  obtain ⟨i9, hi9, hz90, hz91, hz92⟩ := info_parts info_row
  have H := Lib.hid h
  have HLR := Lib.hid hrow
  have HP0 := Lib.hid (MP.new w w.heap.size (Nat.le_refl _) 61)
  have HB0 : Hid (Below w.heap.size w (w.alloc (.cells #[.slice none 0 0] 61))) := (Below.refl _ _).alloc (Nat.le_refl _) _
  clear h hrow
  go_enter Try.func59, Try.ntmps59
  go_wp2
  go_loopw [11] (fun i wr => ∃ (k : Nat) (v : Value) (R : List (Nat × Nat)), k ≤ M.length ∧ i = .int .i64 (k : Int) ∧ MP wr w.heap.size w.heap.size v R (M.take k) ∧ Hid (∀ i, i < k → (Lin.row M i).length = Lin.wid M) ∧ Below w.heap.size w wr) (fun i _ => M.length - (intOf i).toNat)
  case atStart => exact ⟨0, _, [], Nat.zero_le _, rfl, HP0.out, fun i hi => absurd hi (Nat.not_lt_zero _), HB0.out⟩
  case round =>
    clear HP0 HB0
    obtain ⟨k, v, R, hk, rfl, hM, hR, hB⟩ := hrel
    have HM := Lib.hid hM
    have HB := Lib.hid hB
    have HRR := Lib.hid hR
    have hcP := hM.cell
    have hfP := hM.soft
    have hltP := hM.lt
    have hsz := hB.size
    clear hM hB hR
    by_cases hlt : k < M.length
    · have hd : decide ((k : Int) < (M.length : Int)) = true := by simpa using hlt
      have hX := H.out.keeps HB.out
      obtain ⟨hao, hgo, hck, -⟩ := hX.out k hlt
      obtain ⟨-, -, hc0, -⟩ := hX.out 0 (by omega)
      have hrk := (hX.rows k hlt).2.ints
      subst hao
      have HLK := Lib.hid (HLR.out k hlt)
      have HCL := Lib.hid (cloneS_any ⟨blk R0 k, 0, none⟩ (room R0 k) (Lin.row M k) HLK.out wr.drew hrk)
      have HTN := Lib.hid (takeMx_next M k hlt)
      have HNO := Lib.hid (fun e => rect_no hlt (show (Lin.row M k).length ≠ Lin.wid M from e))
      obtain ⟨r, hr⟩ : ∃ r, Lin.row M k = r := ⟨_, rfl⟩
      obtain ⟨n, hn⟩ : ∃ n, r.length = n := ⟨_, rfl⟩
      obtain ⟨m, hm⟩ : ∃ m, Lin.wid M = m := ⟨_, rfl⟩
      obtain ⟨B1, hB1⟩ : ∃ b, blk R0 k = b := ⟨_, rfl⟩
      obtain ⟨C1, hC1⟩ : ∃ b, room R0 k = b := ⟨_, rfl⟩
      obtain ⟨B0, hB0⟩ : ∃ b, blk R0 0 = b := ⟨_, rfl⟩
      obtain ⟨C0, hC0⟩ : ∃ b, room R0 0 = b := ⟨_, rfl⟩
      have HRK := Lib.hid hr
      have HNN := Lib.hid hn
      have HMM := Lib.hid hm
      rw [show (Lin.row M 0).length = Lin.wid M from rfl, hm, hB0, hC0] at hc0
      rw [hr, hn, hB1, hC1] at hck
      rw [hr, hn, hB1, hC1] at HCL
      rw [hr] at HTN
      rw [hr, hn, hm] at HNO
      clear hX hrk hr hn hm hB1 hC1 hB0 hC0
      by_cases he : n = m
      · subst he
        have HTL : Hid ((M.take k).length = k) := by show (M.take k).length = k; rw [List.length_take]; omega
        have HOW := Lib.hid HM.out.own.own
        rw [HTL.out] at HOW
        have HOFF := Lib.hid HM.out.off
        have hk1 : k + 1 ≤ 1099511627776 := by omega
        go_wp2_with fail
        go_region_law (first
          | (go_simp; go_at_call 78; refine HCL.out.mono ?_; rintro e w2 ⟨g, cc, rfl, hO2, hb2⟩; have HB2 := Lib.hid (below_undrew hb2); have HO2 := Lib.hid hO2; obtain ⟨hcP2, hfP2⟩ := box_after hcP hfP hltP (Below.refl _ wr) (Mem.but_of_below HB2.out v.ownBlock) HOFF.out; have HOW2 := Lib.hid (HM.out.own.keeps HB2.out).own; rw [HTL.out] at HOW2; have hz2 := HB2.out.size; have hcA : ∀ o, (w2.alloc o).cell? ⟨w.heap.size, 0, none⟩ = some v := fun o => (box_after hcP hfP hltP (Below.refl _ wr) (Mem.but_of_below (HB2.out.alloc hz2 o) v.ownBlock) HOFF.out).1; clear hO2 hb2)
          | (refine step_append_lies _ (by rfl) _ _ _ (by rfl) w.heap.size 22 i9 (.slice none 0 0) 1 24 Try.underlying40 hi9 hz90 hz91 hz92 rfl (by omega) v k (vals R (M.take k)) (by rfl) (HOW2.out.alloc _) ⟨w2.heap.size, 0, none⟩ 1 1 [.slice (some ⟨g, 0, none⟩) n cc] (by rfl) (by rfl) (fun j u hj => Mem.cell_new w2 [.slice (some ⟨g, 0, none⟩) n cc] 22 j u hj) (by simp [Value.oneCell']) (by omega) (by unfold maxLen; omega) (by omega) (by simp; omega) (w2.heap.size + 1) (by simp) ?_; intro g2 cap w3 hown1 hgrow hat hlt3; obtain ⟨hcP3, hfP3⟩ := box_after hcP hfP hltP (HB2.out.alloc hz2 _) hgrow HOFF.out)
          | fail "arm")
        all_goals
          obtain ⟨q1, q2, q3, -⟩ := OwnInts.known HO2.out
          have q1 : wr.heap.size ≤ g := q1
          have hb2 : Below wr.heap.size wr (w2.alloc (.cells #[.slice (some ⟨g, 0, none⟩) n cc] 22)) := HB2.out.alloc hz2 _
          have hM2 := MP.next (HM.out.keeps hb2) (g := g) (c := cc) (g2 := g2) (cap := cap) (r := r) (by omega) (by simp; omega) (q3.keeps ((Below.refl _ _).alloc (Nat.le_refl _) _)) (fun hm => by have := (HM.out.own.old hm).2; omega) (fun e => by have := (World.ownsRow.lt HM.out.own.own _ e).2; omega) (by omega) (by rw [HTL.out, HNN.out]; exact hown1) hgrow (by rcases hat with e | e; exact .inl e; exact .inr (by rw [e]; simp))
          rw [HTL.out, ← HTN.out] at hM2
          have hB2 : Below w.heap.size w w3 := (HB.out.trans (hb2.mono hsz)).grown hgrow (by have := hb2.size; omega) (fun g hg => (World.ownsRow.lt HM.out.own.own g hg).1)
          have hB3 := hB2.setCell (p := ⟨w.heap.size, 0, none⟩) (Nat.le_refl _) (.slice (some ⟨g2, 0, none⟩) (k + 1) cap)
          have HM2 := Lib.hid hM2
          have HB3 := Lib.hid hB3
          have HR2 : Hid (∀ i, i < k + 1 → (Lin.row M i).length = Lin.wid M) := by
            have : ∀ i, i < k + 1 → (Lin.row M i).length = Lin.wid M := fun i hi => by
              by_cases e : i < k
              · exact HRR.out i e
              · rw [show i = k by omega, HRK.out, HNN.out, HMM.out]
            exact this
          clear hown1 hgrow hat hb2 hM2 hB2 hB3 q1 q2 q3
          go_wp2
          refine ⟨⟨k + 1, _, _, by omega, by go_num, HM2.out, HR2, HB3.out⟩, ?_⟩
          simp [intOf]; omega
      · have hne : ¬((n : Int) = (m : Int)) := by omega
        go_wp2
        go_ret2
        exact ⟨.inr ⟨HNO.out he, rfl⟩, HB.out⟩
    · have E : Hid (k = M.length) := by show k = _; omega
      have hd : decide ((k : Int) < (M.length : Int)) = false := by simpa using hlt
      go_wp2
      go_ret2
      refine ⟨.inl ⟨rect_yes (by rw [← E.out]; exact HRR.out), _, v, R, rfl, ?_⟩, HB.out⟩
      have h := HM.out
      rw [E.out, List.take_length] at h
      exact h

end Go.Proofs.Ytenpcjmhlnalcaa
