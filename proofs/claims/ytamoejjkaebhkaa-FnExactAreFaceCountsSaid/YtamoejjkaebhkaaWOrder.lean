/-
  WALKS: impl.OrderSets and impl.SubsetsOf.
-/
import Derived.Test.YtamoejjkaebhkaaWWhere
namespace Go.Proofs.Ytamoejjkaebhkaa
open Go.RowKit
open Sets

theorem inZ_take (xs : List Int) (k : Nat) (h : k < xs.length) (s : Nat) : inZ (xs.take (k + 1)) s = (inZ (xs.take k) s || decide (xs.getD k 0 = (s : Int))) := by
  rw [Bool.eq_iff_iff, inZ_iff, List.take_succ_eq_append_getElem h, List.mem_append, Bool.or_eq_true, inZ_iff, decide_eq_true_iff, List.getD, List.getElem?_eq_getElem h, List.mem_singleton]
  exact ⟨fun h => h.imp_right Eq.symm, fun h => h.imp_right Eq.symm⟩
theorem allOk_at (xs : List Int) (h : allOk xs = true) (k : Nat) (hk : k < xs.length) : okZ (xs.getD k 0) = true := by
  unfold allOk at h
  rw [List.all_eq_true] at h
  rw [List.getD, List.getElem?_eq_getElem hk]
  exact h _ (List.getElem_mem hk)
theorem allOk_not (xs : List Int) (k : Nat) (hk : k < xs.length) (h : okZ (xs.getD k 0) = false) : order xs = [] := by
  unfold order
  rw [if_neg]
  intro e
  rw [allOk_at xs e k hk] at h
  cases h
theorem allOk_all (xs : List Int) (h : ∀ j, j < xs.length → okZ (xs.getD j 0) = true) : allOk xs = true := by
  unfold allOk
  rw [List.all_eq_true]
  intro x hx
  obtain ⟨j, hj, rfl⟩ := List.mem_iff_getElem.1 hx
  have := h j hj
  rwa [List.getD, List.getElem?_eq_getElem hj] at this

/-- Block B holds 64 marks. -/
def Marks (w : World) (B : Nat) (p : Nat → Bool) : Prop := ∀ t, t < 64 → w.cell? ⟨B, t, none⟩ = some (.bool (p t))

set_option maxRecDepth 100000 in
theorem order1_pred (B : Nat) (p : Nat → Bool) (w : World) (hB : B < w.heap.size) (h : Marks w B p) : Pred 87 #[.pointer (some ⟨B, 0, none⟩)] p w := by
  intro W s hs hb
  have hc : W.cell? ⟨B, s, none⟩ = some (.bool (p s)) := (hb.cell (p := ⟨B, s, none⟩) hB).trans (h s hs)
  show Calls Try.prog 87 #[.int .i64 (s : Int), .pointer (some ⟨B, 0, none⟩)] W _
  clear h hb
  generalize p s = b at *
  go_enter Try.func87, Try.ntmps87
  go_wp2
  go_ret
  exact ⟨rfl, rfl⟩

theorem marks_new (w : World) (A : Array Value) (ty : TypeId) (h : A = Array.replicate 64 (Value.bool false)) : Marks (w.alloc (.cells A ty)) w.heap.size (inZ []) := fun t ht => by
  rw [World.cell?_alloc_new, h, Array.getElem?_replicate, if_pos ht]; rfl
theorem free_new (w : World) (A : Array Value) (ty : TypeId) : ∀ t, (w.alloc (.cells A ty)).frozen? ⟨w.heap.size, t, none⟩ = false := fun _ => World.frozen?_alloc_at _ _ _ _ rfl
theorem marks_set {w : World} {B : Nat} (xs : List Int) (k s : Nat) (hk : k < xs.length) (hs : s < 64) (e : xs.getD k 0 = (s : Int)) (h : Marks w B (inZ (xs.take k))) : Marks (w.setCell ⟨B, s, none⟩ (.bool true)) B (inZ (xs.take (k + 1))) := fun t ht => by
  rw [inZ_take xs k hk, e]
  by_cases q : s = t
  · subst q
    rw [World.cell?_setCell_same _ _ _ (h s hs)]; simp
  · rw [World.cell?_setCell_other _ _ _ _ (fun h => q (by injection h with _ h2)), h t ht]
    have : decide ((s : Int) = (t : Int)) = false := by simp; omega
    rw [this, Bool.or_false]

set_option maxRecDepth 100000 in
set_option maxHeartbeats 4000000 in
theorem implOrder_any (a : Option Addr) (c : Nat) (xs : List Int) (hlen : xs.length ≤ 1099511627776) (w : World) (h : Ints w a xs) :
    Calls Try.prog 84 #[.slice a xs.length c] w fun e w' => ∃ v, e = .returned v ∧ OwnInts w' w.heap.size v (order xs) ∧ Below w.heap.size w w' := by
  have H := Lib.hid h
  clear h
  have eg : ∀ args w, (callFunc 87 args).run Try.prog w = .ok (.enter 87 args) w := enters_of Try.func87 (by kernel_rfl) rfl
  have EG := Lib.hid eg
  clear eg
  go_enter Try.func84, Try.ntmps84
  go_wp2
  go_loopw [8] (fun i wr => ∃ k : Nat, k ≤ xs.length ∧ i = .int .i64 (k : Int) ∧ (∀ j, j < k → okZ (xs.getD j 0) = true) ∧ Marks wr w.heap.size (inZ (xs.take k)) ∧ (∀ t, wr.frozen? ⟨w.heap.size, t, none⟩ = false) ∧ w.heap.size < wr.heap.size ∧ Below w.heap.size w wr) (fun i _ => xs.length - (intOf i).toNat)
  case atStart => exact ⟨0, Nat.zero_le _, rfl, fun j hj => absurd hj (Nat.not_lt_zero _), marks_new w _ _ rfl, free_new w _ _, by simp, (Below.refl _ _).alloc (Nat.le_refl _) _⟩
  case round =>
    obtain ⟨k, hk, rfl, hok, hM, hF, hsz, hB⟩ := hrel
    have HOK := Lib.hid hok
    have HM := Lib.hid hM
    have HF := Lib.hid hF
    clear hok hM hF
    by_cases hlt : k < xs.length
    · obtain ⟨b, o, rfl, g0⟩ := H.out k hlt
      have g : wr.cell? ⟨b, o + k, none⟩ = some (.int .i64 (xs.getD k 0)) := by rw [hB.cell (p := ⟨b, o + k, none⟩) (World.block_lt_of_cell? w _ g0)]; exact g0
      clear g0
      cases hz : okZ (xs.getD k 0) with
      | true =>
        have HZ := Lib.hid hz
        obtain ⟨s, hs, hs64⟩ := okZ_cast _ hz
        have HS := Lib.hid hs
        rw [hs] at g
        clear hs hz
        have hm := HM.out s hs64
        have hf := HF.out s
        go_wp2_with fail
        refine (isAny_b _ true (by rw [← HS.out]; exact HZ.out) _).mono ?_
        rintro e w' ⟨rfl, rfl⟩
        go_wp2
        go_roundw
        case rel =>
          refine ⟨k + 1, by omega, by go_num, fun j hj => ?_, marks_set xs k s hlt hs64 HS.out HM.out, fun t => ?_, by simp [World.setCell]; exact hsz, hB.setCell (Nat.le_refl _) _⟩
          · by_cases e : j = k
            · subst e; exact HZ.out
            · exact HOK.out j (by omega)
          · rw [World.frozen?_setCell]; exact HF.out t
        case measure => simp [intOf]; omega
      | false =>
        have HZ := Lib.hid hz
        have HN := Lib.hid (allOk_not xs k hlt hz)
        clear hz
        generalize xs.getD k 0 = x at *
        go_wp2_with fail
        refine (isAny_b _ false HZ.out _).mono ?_
        rintro e w' ⟨rfl, rfl⟩
        go_wp2
        go_ret
        refine ⟨_, rfl, ?_, hB⟩
        rw [HN.out]
        exact OwnInts.nil _ _
    · have E := Lib.hid (show k = xs.length by omega)
      have hall : allOk xs = true := allOk_all xs (fun j hj => HOK.out j (by rw [E.out]; exact hj))
      have hord : order xs = ord (inZ xs) := by unfold order; rw [if_pos hall]
      have hm : Marks wr w.heap.size (inZ xs) := by
        have := HM.out
        rwa [E.out, List.take_length] at this
      have HORD := Lib.hid hord
      have HP := Lib.hid (order1_pred w.heap.size _ wr hsz hm)
      clear hall hord hm
      go_wp2_with fail
      refine (setsWhere_any 87 _ _ _ EG.out HP.out).mono ?_
      rintro e w1 ⟨v, rfl, hO, hb1⟩
      have HO := Lib.hid hO
      clear hO
      go_wp2
      go_ret
      refine ⟨v, rfl, ?_, hB.trans (hb1.mono (by omega))⟩
      rw [HORD.out]
      exact HO.out.lower (by omega)

theorem and_sub : ∀ a b : Nat, a < 64 → b < 64 → (bits BinOp.andNot IntKind.i64 (a : Int) (b : Int) == 0) = sub a b := by
  refine fin64b ?_
  decide +kernel

set_option maxRecDepth 100000 in
theorem isSubset_any (s t : Nat) (hs : s < 64) (ht : t < 64) (w : World) : Calls Try.prog 75 #[.int .i64 (s : Int), .int .i64 (t : Int)] w fun e w' => e = .returned (.bool (sub s t)) ∧ w = w' := by
  go_enter Try.func75, Try.ntmps75
  go_wp2
  go_ret
  exact ⟨ret_bool (and_sub s t hs ht), rfl⟩

theorem subsets_nat (s : Nat) (h : s < 64) : subsets (s : Int) = ord (fun t => sub t s) := by unfold subsets; rw [if_pos ((okZ_nat s).2 h)]; rfl
theorem subsets_no (x : Int) (h : okZ x = false) : subsets x = [] := by unfold subsets; rw [if_neg (by rw [h]; simp)]

end Go.Proofs.Ytamoejjkaebhkaa
