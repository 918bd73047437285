/-
  WALKS: impl's chapter 9: CountSymmetries.
-/
import Derived.Test.YtbkkdgmiokdbmaaGreatWNamI5
import Derived.Test.YtbkkdgmiokdbmaaGreatWNamSC
namespace Go.Proofs.YtbkkdgmiokdbmaaGreat
open Go.RowKit Go.Shelf
open Sets Nam

theorem wide_calls {P : Program} {f : FuncId} {args : Array Value} {w : World} {R : Ending → World → Prop} (h : ∀ n, CallsIn Fence.wide n P f args w R) : Calls P f args w R := callsIn_wide.1 (h 0)

attribute [local go_sem] Oper.semAt_some

set_option maxRecDepth 100000 in
set_option maxHeartbeats 2000000 in
theorem implCountSym_yes (m : Nat) (hm1 : 1 ≤ m) (hm6 : m ≤ 6) (a : Option Addr) (c : Nat) (xs : List Int) (hcap : xs.length ≤ c) (hC : isC (m : Int) xs = true) (w : World) (h : Ints w a xs) :
    Calls Tryz.prog 17 #[cx (m : Int) (.slice a xs.length c)] w fun e w' => e = .returned (.int .i64 (((symL m xs).length : Nat) : Int)) ∧ Below w.heap.size w w' := by
  have hb0 : Below w.heap.size w (w.alloc (.cells #[.int .i64 (m : Int), .slice a xs.length c] 26)) := (Below.refl _ _).alloc (Nat.le_refl _) _
  have htc := Two.new w (.int .i64 (m : Int)) (.slice a xs.length c) 26
  have hl64 := isC_le hC
  have HH := Lib.hid h
  have HC := Lib.hid hC
  have HB0 := Lib.hid hb0
  have HTC := Lib.hid htc
  obtain ⟨t0, t1, t2, t3, t4⟩ := htc
  clear h hC hb0
  refine wide_calls fun n' => ?_
  refine callsIn_of_wp_marks Tryz.func17 rfl trivial ?_ rfl
  simp only [Tryz.ntmps17, List.size_toArray, List.length_cons, List.length_nil, Nat.reduceAdd, Nat.reduceSub, Array.replicate_succ, Array.replicate_zero, List.push_toArray, List.append_toArray, List.nil_append, List.cons_append]
  gi_wp2_with fail
  refine inCall ((implIsC_b (m : Int) _ _ xs hcap true HC.out (by omega) _ (HH.out.keeps HB0.out)).mono ?_)
  rintro e w1 ⟨rfl, hb1⟩
  have HB1 := Lib.hid hb1
  have HT1 := Lib.hid (HTC.out.keeps hb1)
  clear t0 t1 t2 t3 t4
  obtain ⟨t0, t1, t2, t3, t4⟩ := (HTC.out.keeps hb1).alloc (.cells #[.int .i64 0] 3)
  have hnk := (BoxI.new w1 0 3)
  obtain ⟨k0, k1, k2⟩ := hnk
  clear hb1
  gi_wp2_with fail
  refine inCall ((symOf_any (m : Int) _ _ _ _ rfl _).mono ?_)
  rintro e w' ⟨rfl, rfl⟩
  have hbk : Below w.heap.size w ((w1.alloc (.cells #[.int .i64 0] 3)).alloc (.cells #[.int .i64 (m : Int), .slice a xs.length c] 26)) :=
    ((HB0.out.trans (HB1.out.mono (by simp))).alloc (by have := HB1.out.size; simp at this; omega) _).alloc (by have := HB1.out.size; simp at this ⊢; omega) _
  have hw1 : w.heap.size + 1 ≤ w1.heap.size := by have := HB1.out.size; simp at this; omega
  have HBK := Lib.hid hbk
  have HBX := Lib.hid (BoxI.new w1 0 3)
  have HTW := Lib.hid (Two.new (w1.alloc (.cells #[.int .i64 0] 3)) (.int .i64 (m : Int)) (.slice a xs.length c) 26)
  clear hbk t0 t1 t2 t3 t4 k0 k1 k2
  gi_wp2_with fail
  refine wp_seq (sym_seq m hm1 hm6 a c xs hcap HC.out (w1.heap.size + 1) w.heap.size) rfl (enters_of Tryz.func77 (by kernel_rfl) rfl) rfl [w1.heap.size] ?hG ?hpre
    (fun k M W' => (∀ x, x ∈ M → w1.heap.size + 2 ≤ x) ∧ w1.heap.size + 2 ≤ W'.heap.size ∧ Below w.heap.size w W' ∧ BoxI W' w1.heap.size (k : Int)) ?hI ?h0 ?round ?done
  case hG => intro x hx; rw [List.mem_singleton.1 hx]; simp; omega
  case hpre =>
    intro o1 o2
    have ho := (Only.new [] ((w1.alloc (.cells #[.int .i64 0] 3)).alloc (.cells #[.int .i64 (m : Int), .slice a xs.length c] 26)) o1).trans (Only.new [] _ o2)
    have h1 := HTW.out
    rw [World.size_alloc] at h1
    refine ⟨two_only h1 ho (by simp), (HH.out.low HBK.out).only ho fun x hx => absurd hx List.not_mem_nil, by omega, fun x hx => ?_⟩
    simp at hx
    omega
  case hI =>
    rintro k M M' W1 W2 ⟨h1, h2, h3, h4⟩ ho hM
    have h7 : ∀ x, x ∈ M' → w1.heap.size + 2 ≤ x := fun x hx => (hM x hx).elim (h1 x) fun h => by omega
    exact ⟨h7, Nat.le_trans h2 ho.size, h3.trans (ho.below (fun x hx => by have := h7 x hx; omega) (by omega)), h4.only ho fun hm => by have := h7 _ hm; omega⟩
  case h0 => exact ⟨fun x hx => absurd hx List.not_mem_nil, by simp, HBK.out, HBX.out.only (Only.new [] _ _) (by simp)⟩
  case round =>
    intro l2 m2 k M v x W' hx
    have hk : k < 46656 := by
      have h1 := (List.getElem?_eq_some_iff.1 hx).1
      rw [List.length_map] at h1
      have h2 : (symL m xs).length ≤ (allNames m).length := List.length_filter_le _ _
      have h3 := allNames_len hm6
      omega
    gi_wp2
    refine ⟨trivial, ?_⟩
    intro W2 ⟨h1, h2, h3, h4⟩ hM hR hs
    have H1 := Lib.hid h1
    have H3 := Lib.hid h3
    have H4 := Lib.hid h4
    obtain ⟨k0, k1, k2⟩ := h4
    clear h1 h3 hM hR hs hx
    gi_wp2
    exact ⟨Only.set _ W2 0 (List.mem_singleton.2 rfl) _, H1.out, H3.out.setCell (p := ⟨w1.heap.size, 0, none⟩) (by dsimp only; omega) _, H4.out.set _⟩
  case done =>
    intro D M W' hD hM hDM ⟨h1, h2, h3, h4⟩ hd
    rw [List.length_map] at h4
    obtain ⟨k0, k1, k2⟩ := h4
    have HD := Lib.hid (h3.trans ((Only.put (G := [D]) (List.mem_singleton.2 rfl) W' (.deferred none)).below (fun x hx => by rw [List.mem_singleton.1 hx]; simp at hD; omega) (by omega)))
    clear h1 h2 h3
    gi_wp2
    refine ⟨by simp, .inl ⟨_, _, rfl, run_takeDeferred hd, ?_⟩⟩
    exact ⟨_, results_tmp rfl _ _ _, rfl, HD.out⟩

set_option maxRecDepth 100000 in
set_option maxHeartbeats 1000000 in
theorem implCountSym_any (n : Int) (a : Option Addr) (c : Nat) (xs : List Int) (hcap : xs.length ≤ c) (hlen : xs.length ≤ 1099511627776) (w : World) (h : Ints w a xs) :
    Calls Tryz.prog 17 #[cx n (.slice a xs.length c)] w fun e w' => e = .returned (.int .i64 (symCount n xs : Nat)) ∧ Below w.heap.size w w' := by
  cases hC : isC n xs with
  | false =>
    have hb0 : Below w.heap.size w (w.alloc (Obj.cells #[Value.int IntKind.i64 n, Value.slice a xs.length c] 26)) := (Below.refl _ _).alloc (Nat.le_refl _) _
    have H := Lib.hid (h.keeps hb0)
    have HB0 := Lib.hid hb0
    have HC := Lib.hid hC
    obtain ⟨t0, t1, t2, t3, t4⟩ := Two.new w (.int .i64 n) (.slice a xs.length c) 26
    rw [symCount_no hC]
    clear hC h hb0
    go_enter Tryz.func17, Tryz.ntmps17
    go_wp2_with fail
    refine (implIsC_b n _ _ xs hcap false HC.out hlen _ H.out).mono ?_
    rintro e w1 ⟨rfl, hb1⟩
    go_wp2
    go_ret
    exact ⟨rfl, HB0.out.trans (hb1.mono (by simp))⟩
  | true =>
    rw [symCount_yes hC]
    obtain ⟨m, rfl, hm1, hm6⟩ := isC_cast hC
    rw [Int.toNat_natCast]
    exact implCountSym_yes m hm1 hm6 a c xs hcap hC w h

end Go.Proofs.YtbkkdgmiokdbmaaGreat
