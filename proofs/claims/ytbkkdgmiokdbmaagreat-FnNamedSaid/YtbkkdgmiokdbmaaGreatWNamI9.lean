/-
  WALKS: impl's chapter 9: PointClasses: what each point is led to.
-/
import Derived.Test.YtbkkdgmiokdbmaaGreatSeq2
import Derived.Test.YtbkkdgmiokdbmaaGreatWNamI6
import Derived.Test.YtbkkdgmiokdbmaaGreatWNamSD
import Derived.Test.YtbkkdgmiokdbmaaGreatJg16
namespace Go.Proofs.YtbkkdgmiokdbmaaGreat
open Go.RowKit Go.Shelf
open Sets Nam

/-- What the first m points are led to by k + 1 symmetries where they lie before j, by k elsewhere. -/
def rp (m : Nat) (L : List (List Nat)) (k j : Nat) : List Int := (List.range 6).map fun i => if i < m then (if i < j then ((orbU (L.take (k + 1)) i : Nat) : Int) else ((orbU (L.take k) i : Nat) : Int)) else 0
def rc (m : Nat) (L : List (List Nat)) (k : Nat) : List Int := (List.range 6).map fun i => if i < m then ((orbU (L.take k) i : Nat) : Int) else 0
theorem rp_len (m : Nat) (L : List (List Nat)) (k j : Nat) : (rp m L k j).length = 6 := by unfold rp; simp
theorem rc_len (m : Nat) (L : List (List Nat)) (k : Nat) : (rc m L k).length = 6 := by unfold rc; simp
theorem rp_zero (m : Nat) (L : List (List Nat)) (k : Nat) : rp m L k 0 = rc m L k := by unfold rp rc; simp
theorem rp_all (m : Nat) (L : List (List Nat)) (k : Nat) : rp m L k m = rc m L (k + 1) := by
  unfold rp rc
  apply List.map_congr_left
  intro i _
  by_cases h : i < m
  · rw [if_pos h, if_pos h, if_pos h]
  · rw [if_neg h, if_neg h]
theorem rp_at {m : Nat} {L : List (List Nat)} {k j : Nat} (hm : m ≤ 6) (hj : j < m) : (rp m L k j).getD j 0 = ((orbU (L.take k) j : Nat) : Int) := by
  unfold rp
  rw [List.getD, List.getElem?_map, List.getElem?_range (by omega)]
  simp [hj]
theorem rp_set {m : Nat} {L : List (List Nat)} {k j : Nat} (hj : j < m) : (rp m L k j).set j ((orbU (L.take (k + 1)) j : Nat) : Int) = rp m L k (j + 1) := by
  apply List.ext_getElem (by simp [rp])
  intro i h1 h2
  simp only [rp, List.getElem_set, List.getElem_map, List.getElem_range]
  by_cases e : j = i
  · subst e; simp [hj]
  · rw [if_neg e]
    by_cases h3 : i < m
    · rw [if_pos h3, if_pos h3]
      by_cases h4 : i < j
      · rw [if_pos h4, if_pos (by omega)]
      · rw [if_neg h4, if_neg (by omega)]
    · rw [if_neg h3, if_neg h3]
theorem rc_zero (m : Nat) (L : List (List Nat)) : rc m L 0 = List.replicate 6 0 := by
  have h : rc m L 0 = (List.range 6).map fun _ => (0 : Int) := by
    unfold rc
    apply List.map_congr_left
    intro i _
    rw [List.take_zero]
    split <;> rfl
  rw [h]; rfl
theorem rc_at {m : Nat} {xs : List Int} {i : Nat} (hm : m ≤ 6) (hi : i < m) : (rc m (symL m xs) (symL m xs).length).getD i 0 = ((orb m xs i : Nat) : Int) := by
  unfold rc
  rw [List.getD, List.getElem?_map, List.getElem?_range (by omega), List.take_length]
  simp [hi, orb]
theorem or_nameI (u t : Nat) (hu : u < 64) (ht : t < 6) : bits BinOp.or IntKind.i64 (u : Int) (IntKind.i64.wrap (2 ^ t)) = ((u ||| 2 ^ t : Nat) : Int) := by
  have h : ∀ a : Fin 64, ∀ b : Fin 6, bits BinOp.or IntKind.i64 (a.val : Int) (IntKind.i64.wrap (2 ^ b.val)) = ((a.val ||| 2 ^ b.val : Nat) : Int) := by decide +kernel
  exact h ⟨u, hu⟩ ⟨t, ht⟩
theorem RowAt.only {w w' : World} {B : Nat} {t : TypeId} {L : List Int} {G : List Nat} (h : RowAt w B t L) (k : Only G w w') (hB : B ∉ G) : RowAt w' B t L := by
  unfold RowAt; rw [k.block B h.lt hB]; exact h
theorem row_new (w : World) : RowAt (w.alloc (.cells #[.int .i64 0, .int .i64 0, .int .i64 0, .int .i64 0, .int .i64 0, .int .i64 0] 71)) w.heap.size 71 (List.replicate 6 0) := by
  unfold RowAt; exact heap_alloc_last _ _

theorem slice6 (B T : Nat) (hT : T ≤ 6) (w : World) : (Instr.sliceAt 71 (.pointer (some ⟨B, 0, none⟩)) none (some (.int .i64 (T : Int))) none).run Tryz.prog w = .ok (.slice (some ⟨B, 0, none⟩) T 6) w := by
  have hu : Tryz.prog.underlying 71 = some (.array (Tryz.prog.arrayLen 71) (Tryz.prog.elem 71)) := by kernel_rfl
  have hl : Tryz.prog.arrayLen 71 = 6 := by kernel_rfl
  have he : Tryz.prog.elem 71 = 3 := by kernel_rfl
  rw [run_sliceAt_array_h w _ _ hu _ _ (by omega) (by rw [hl]; omega), he, intSize, hl]
  simp [slicedAt, Result.andThen, Addr.add]

theorem orb_same {m : Nat} {xs : List Int} (hC : isC m xs = true) {i j : Nat} (hi : i < m) (hj : j < m) (h : (orb m xs i).testBit j = true) : orb m xs i = orb m xs j :=
  eq_bits (n := m) (orb_lt hi) (orb_lt hj) fun k hk => by
    rw [Bool.eq_iff_iff]
    exact ⟨fun e => orb_trans hC hj (orb_symm hC hi h) e, fun e => orb_trans hC hi h e⟩
theorem least_bit (s i : Nat) (h : s.testBit i = true) : ∃ j, j ≤ i ∧ s.testBit j = true ∧ ∀ k, k < j → s.testBit k = false := by
  induction i using Nat.strongRecOn with
  | _ i ih =>
    by_cases e : ∃ k, k < i ∧ s.testBit k = true
    · obtain ⟨k, hk, hb⟩ := e
      obtain ⟨j, h1, h2, h3⟩ := ih k hk hb
      exact ⟨j, by omega, h2, h3⟩
    · exact ⟨i, Nat.le_refl _, h, fun k hk => by
        rw [Bool.eq_false_iff]; intro hb; exact e ⟨k, hk, hb⟩⟩
theorem cls_mem (m : Nat) (xs : List Int) (i : Nat) (x : Int) : x ∈ clsU m xs i ↔ ∃ j, j < i ∧ leastP m xs j = true ∧ x = ((orb m xs j : Nat) : Int) := by
  unfold clsU
  rw [List.mem_map]
  constructor
  · rintro ⟨j, hj, rfl⟩
    rw [List.mem_filter, List.mem_range] at hj
    exact ⟨j, hj.1, hj.2, rfl⟩
  · rintro ⟨j, h1, h2, rfl⟩
    exact ⟨j, List.mem_filter.2 ⟨List.mem_range.2 h1, h2⟩, rfl⟩
theorem cls_has {m : Nat} {xs : List Int} (hC : isC m xs = true) {i : Nat} (hi : i < m) (b : Bool) (hb : leastP m xs i = b) : (clsU m xs i).contains ((orb m xs i : Nat) : Int) = !b := by
  cases b with
  | true =>
    rw [Bool.not_true, Bool.eq_false_iff]
    intro hc
    obtain ⟨j, h1, _, h3⟩ := (cls_mem m xs i _).1 (List.contains_iff_mem.1 hc)
    have h4 : orb m xs i = orb m xs j := Int.ofNat_inj.1 h3
    have h5 := (leastP_iff m xs i).1 hb j h1
    rw [h4, orb_self hC (by omega)] at h5
    cases h5
  | false =>
    rw [Bool.not_false, List.contains_iff_mem, cls_mem]
    have h1 : ¬ ∀ j, j < i → (orb m xs i).testBit j = false := fun h => by
      rw [(leastP_iff m xs i).2 h] at hb; cases hb
    obtain ⟨j, h2, h3, h4⟩ := least_bit (orb m xs i) i (orb_self hC hi)
    have h5 : j < i := by
      rcases Nat.lt_or_ge j i with h | h
      · exact h
      · exact absurd (fun k hk => h4 k (by omega)) h1
    have h6 := orb_same hC hi (by omega) h3
    refine ⟨j, h5, (leastP_iff m xs j).2 fun k hk => ?_, by rw [h6]⟩
    rw [← h6]; exact h4 k hk

attribute [local go_sem] Oper.semAt_some

set_option maxRecDepth 100000 in
set_option maxHeartbeats 2000000 in
theorem implClasses_yes (m : Nat) (hm1 : 1 ≤ m) (hm6 : m ≤ 6) (a : Option Addr) (c : Nat) (xs : List Int) (hcap : xs.length ≤ c) (hC : isC (m : Int) xs = true) (w : World) (h : Ints w a xs) :
    Calls Tryz.prog 16 #[cx (m : Int) (.slice a xs.length c)] w fun e w' => ∃ v, e = .returned v ∧ OwnInts w' w.heap.size v (classes m xs) ∧ Below w.heap.size w w' := by
  have hb0 : Below w.heap.size w (w.alloc (.cells #[.int .i64 (m : Int), .slice a xs.length c] 26)) := (Below.refl _ _).alloc (Nat.le_refl _) _
  have htc := Two.new w (.int .i64 (m : Int)) (.slice a xs.length c) 26
  have hl64 := isC_le hC
  have HH := Lib.hid h
  have HC := Lib.hid hC
  have HB0 := Lib.hid hb0
  have HTC := Lib.hid htc
  obtain ⟨t0, t1, t2, t3, t4⟩ := htc
  have hmx : Tryz.prog.follows .mixedOrders = true := by kernel_rfl
  clear h hC hb0
  refine wide_calls fun n' => ?_
  refine callsIn_of_wp_marks Tryz.func16 rfl trivial ?_ rfl
  simp only [Tryz.ntmps16, List.size_toArray, List.length_cons, List.length_nil, Nat.reduceAdd, Nat.reduceSub, Array.replicate_succ, Array.replicate_zero, List.push_toArray, List.append_toArray, List.nil_append, List.cons_append]
  gi_wp2_with fail
  refine inCall ((implIsC_b (m : Int) _ _ xs hcap true HC.out (by omega) _ (HH.out.keeps HB0.out)).mono ?_)
  rintro e w1 ⟨rfl, hb1⟩
  have HB1 : Hid (Below w.heap.size w w1) := HB0.out.trans (hb1.mono HB0.out.size)
  have HT1 := Lib.hid (HTC.out.keeps hb1)
  have hlt1 : w.heap.size < w1.heap.size := HT1.out.1
  clear t0 t1 t2 t3 t4 hb1
  obtain ⟨t0, t1, t2, t3, t4⟩ := HT1.out.alloc (.cells #[.int .i64 0, .int .i64 0, .int .i64 0, .int .i64 0, .int .i64 0, .int .i64 0] 71)
  gi_wp2_with fail
  refine inCall ((symOf_any (m : Int) _ _ _ _ rfl _).mono ?_)
  rintro e w' ⟨rfl, rfl⟩
  have hbk : Below w.heap.size w ((w1.alloc (.cells #[.int .i64 0, .int .i64 0, .int .i64 0, .int .i64 0, .int .i64 0, .int .i64 0] 71)).alloc (.cells #[.int .i64 (m : Int), .slice a xs.length c] 26)) :=
    (HB1.out.alloc HB1.out.size _).alloc (by have := HB1.out.size; simp; omega) _
  have HBK := Lib.hid hbk
  have HRW := Lib.hid (row_new w1)
  have HTW := Lib.hid (Two.new (w1.alloc (.cells #[.int .i64 0, .int .i64 0, .int .i64 0, .int .i64 0, .int .i64 0, .int .i64 0] 71)) (.int .i64 (m : Int)) (.slice a xs.length c) 26)
  have HTC2 := Lib.hid ((HT1.out.alloc (.cells #[.int .i64 0, .int .i64 0, .int .i64 0, .int .i64 0, .int .i64 0, .int .i64 0] 71)).alloc (.cells #[.int .i64 (m : Int), .slice a xs.length c] 26))
  clear hbk t0 t1 t2 t3 t4
  gi_wp2_with fail
  refine wp_seq (sym_seq m hm1 hm6 a c xs hcap HC.out (w1.heap.size + 1) w.heap.size) rfl (enters_of Tryz.func77 (by kernel_rfl) rfl) rfl [w1.heap.size] ?hG ?hpre
    (fun k M W' => (∀ x, x ∈ M → w1.heap.size + 2 ≤ x) ∧ w1.heap.size + 2 ≤ W'.heap.size ∧ Below w.heap.size w W' ∧ Two W' w.heap.size (.int .i64 (m : Int)) (.slice a xs.length c) ∧ RowAt W' w1.heap.size 71 (rc m (symL m xs) k)) ?hI ?h0 ?round ?done
  case hG => intro x hx; rw [List.mem_singleton.1 hx]; simp; omega
  case hpre =>
    intro o1 o2
    have ho := (Only.new [] ((w1.alloc (.cells #[.int .i64 0, .int .i64 0, .int .i64 0, .int .i64 0, .int .i64 0, .int .i64 0] 71)).alloc (.cells #[.int .i64 (m : Int), .slice a xs.length c] 26)) o1).trans (Only.new [] _ o2)
    have h1 := HTW.out
    rw [World.size_alloc] at h1
    refine ⟨two_only h1 ho (by simp), (HH.out.low HBK.out).only ho fun x hx => absurd hx List.not_mem_nil, by omega, fun x hx => ?_⟩
    simp at hx
    omega
  case hI =>
    rintro k M M' W1 W2 ⟨h1, h2, h3, h4, h5⟩ ho hM
    have h7 : ∀ x, x ∈ M' → w1.heap.size + 2 ≤ x := fun x hx => (hM x hx).elim (h1 x) fun h => by omega
    exact ⟨h7, Nat.le_trans h2 ho.size, h3.trans (ho.below (fun x hx => by have := h7 x hx; omega) (by omega)), two_only h4 ho fun hm => by (have := h7 _ hm; omega), h5.only ho fun hm => by (have := h7 _ hm; omega)⟩
  case h0 => exact ⟨fun x hx => absurd hx List.not_mem_nil, by simp, HBK.out, HTC2.out, by rw [rc_zero]; exact HRW.out.only (Only.new [] _ _) (by simp)⟩
  case round =>
    intro l2 m2 k M v x W' hx
    obtain ⟨ns, hns, rfl⟩ : ∃ ns, (symL m xs)[k]? = some ns ∧ Zs ns = x := by
      rw [List.getElem?_map] at hx
      cases h : (symL m xs)[k]? with
      | none => rw [h] at hx; cases hx
      | some ns => rw [h] at hx; exact ⟨ns, rfl, Option.some.inj hx⟩
    have hkl : k < (symL m xs).length := (List.getElem?_eq_some_iff.1 hns).1
    have hgd : (symL m xs).getD k [] = ns := by rw [List.getD, hns]; rfl
    have hNn : Names m ns := by rw [← hgd]; exact sym_names hkl
    have hNm := Nms.of_names hm1 hm6 hNn
    have hzl : (Zs ns).length = m := hNm.len
    have HAT := Lib.hid (fun j (hj : j < m) => hNm.at_ j hj)
    have HNX := Lib.hid (fun i => orbTo_next (symL m xs) i k hkl)
    have HLT := Lib.hid (fun i (hi : i < m) => orbTo_lt (symL m xs) (fun ns h => ((mem_sym m xs ns).1 h).1) hm6 hi k)
    rw [hgd] at HNX
    have HZL := Lib.hid hzl
    clear hx hns hgd hNn hNm hkl hzl
    gi_wp2
    refine ⟨trivial, ?_⟩
    intro W2 ⟨h1, h2, h3, h4, h5⟩ hM hR hs
    obtain ⟨av, cv, gv, rfl, hcv, hgv, hiv⟩ := hR
    have hgv2 : w1.heap.size + 2 ≤ gv := by simp at hgv; omega
    rw [HZL.out]
    have H1 := Lib.hid h1
    have H3 := Lib.hid h3
    have H4 := Lib.hid h4
    have H5 := Lib.hid h5
    have HIV := Lib.hid hiv
    have hbr2 := h5.lt
    clear h1 h3 h4 h5 hM hs hgv hiv hcv
    gi_wp2_with fail
    gi_loopw [18] (fun i wr => ∃ j : Nat, j ≤ m ∧ i = .int .i64 (j : Int) ∧ RowAt wr w1.heap.size 71 (rp m (symL m xs) k j) ∧ Only [w1.heap.size] W2 wr) (fun i _ => m - (intOf i).toNat)
    case atStart => exact ⟨0, Nat.zero_le _, rfl, by rw [rp_zero]; exact H5.out, Only.refl _ _⟩
    case round =>
      obtain ⟨j, hj, rfl, hRW, hOn⟩ := hrel
      have HRJ := Lib.hid hRW
      have HON := Lib.hid hOn
      have hzz := hOn.size
      clear hRW hOn
      by_cases hlt : j < m
      · have hiw := HIV.out.only HON.out (by simp; omega)
        obtain ⟨hav, _, hc2, _⟩ := hiw j (by rw [HZL.out]; exact hlt)
        obtain ⟨tt, htt, htm, hpt⟩ := HAT.out j hlt
        rw [htt] at hc2
        rw [toN_Zs] at hpt
        have hnx := HNX.out j
        rw [hpt] at hnx
        have hrc := HRJ.out.cell j (by rw [rp_len]; omega)
        rw [rp_at hm6 hlt] at hrc
        have hrf := HRJ.out.frozen j
        have hlo := HLT.out j hlt
        have hset := rp_set (L := symL m xs) (k := k) hlt
        rw [hnx] at hset
        obtain ⟨ob, hob⟩ : ∃ ob, orbU ((symL m xs).take k) j = ob := ⟨_, rfl⟩
        rw [hob] at hrc hlo hset
        have HSET := Lib.hid hset
        subst hav
        have hj6 : (j : Int) < 6 := by omega
        clear htt hpt hnx hob hset hiw
        gi_wp2_with fail
        refine region_round hmx (by kernel_rfl) ?_
        refine wpAnyIn_take (i := 0) (oi := ⟨_, _, _, _, _, _⟩) (v := ?vv1) rfl rfl (by kernel_rfl) (by kernel_rfl) (by kernel_rfl) (fun _ _ _ h => h) ⟨Or.inl ⟨by rfl, ?hy1⟩, fun _ => rfl⟩ ?_
        case hy1 => (intro w; go_simp; try (with_reducible rfl))
        try simp only [Act.put, List.setIfInBounds_toArray, List.set_cons_zero, List.set_cons_succ]
        refine wpAnyIn_take (i := 3) (oi := ⟨_, _, _, _, _, _⟩) (v := ?vv2) rfl rfl (by kernel_rfl) (by kernel_rfl) (by kernel_rfl) (fun _ _ _ h => h) ⟨Or.inl ⟨by rfl, ?hy2⟩, fun _ => rfl⟩ ?_
        case hy2 => (intro w; go_simp; try (with_reducible rfl))
        try simp only [Act.put, List.setIfInBounds_toArray, List.set_cons_zero, List.set_cons_succ]
        refine wpAnyIn_take (i := 4) (oi := ⟨_, _, _, _, _, _⟩) (v := ?vv3) rfl rfl (by kernel_rfl) (by kernel_rfl) (by kernel_rfl) (fun _ _ _ h => h) ⟨Or.inl ⟨by rfl, ?hy3⟩, fun _ => rfl⟩ ?_
        case hy3 => (intro w; go_simp; try (with_reducible rfl))
        try simp only [Act.put, List.setIfInBounds_toArray, List.set_cons_zero, List.set_cons_succ]
        refine wpAnyIn_take (i := 1) (oi := ⟨_, _, _, _, _, _⟩) (v := ?vv4) rfl rfl (by kernel_rfl) (by kernel_rfl) (by kernel_rfl) (fun _ _ _ h => h) ⟨Or.inl ⟨by rfl, ?hy4⟩, fun _ => rfl⟩ ?_
        case hy4 => (intro w; go_simp; try (with_reducible rfl))
        try simp only [Act.put, List.setIfInBounds_toArray, List.set_cons_zero, List.set_cons_succ]
        refine wpAnyIn_ready (rs := [2]) (by kernel_rfl) (by simp) (AllReadyIn.cons (o := ⟨_, _, _, _, _, _⟩) rfl (fun K9 hK9 => ?_) AllReadyIn.nil)
        go_simp
        refine hK9 _ _ ?_
        clear hK9 K9
        try simp only [Act.put, List.setIfInBounds_toArray, List.set_cons_zero, List.set_cons_succ]
        refine wpAnyIn_take (i := 5) (oi := ⟨_, _, _, _, _, _⟩) (v := ?vv6) rfl rfl (by kernel_rfl) (by kernel_rfl) (by kernel_rfl) (fun _ _ _ h => h) ⟨Or.inl ⟨by rfl, ?hy6⟩, fun _ => rfl⟩ ?_
        case hy6 => (intro w; go_simp; try (with_reducible rfl))
        try simp only [Act.put, List.setIfInBounds_toArray, List.set_cons_zero, List.set_cons_succ]
        refine wpAnyIn_take (i := 6) (oi := ⟨_, _, _, _, _, _⟩) (v := ?vv7) rfl rfl (by kernel_rfl) (by kernel_rfl) (by kernel_rfl) (fun _ _ _ h => h) ⟨Or.inl ⟨by rfl, ?hy7⟩, fun _ => rfl⟩ ?_
        case hy7 => (intro w; go_simp; try (with_reducible rfl))
        try simp only [Act.put, List.setIfInBounds_toArray, List.set_cons_zero, List.set_cons_succ]
        refine wpAnyIn_ready (rs := [7]) (by kernel_rfl) (by simp) (AllReadyIn.cons (o := ⟨_, _, _, _, _, _⟩) rfl (fun K9 hK9 => ?_) AllReadyIn.nil)
        go_simp
        refine hK9 _ _ ?_
        clear hK9 K9
        try simp only [Act.put, List.setIfInBounds_toArray, List.set_cons_zero, List.set_cons_succ]
        refine wpAnyIn_done (by kernel_rfl) ?_ _
        have hor := or_nameI ob tt hlo (by omega)
        rw [hor]
        have ho9 : Only [w1.heap.size] W2 (wr.setCell ⟨w1.heap.size, j, none⟩ (.int .i64 ((ob ||| 2 ^ tt : Nat) : Int))).drew := (HON.out.trans (Only.set _ wr j (List.mem_singleton.2 rfl) _)).drew
        have hr9 : RowAt (wr.setCell ⟨w1.heap.size, j, none⟩ (.int .i64 ((ob ||| 2 ^ tt : Nat) : Int))).drew w1.heap.size 71 (rp m (symL m xs) k (j + 1)) := by
          rw [← HSET.out]; exact HRJ.out.set j _
        have HO9 := Lib.hid ho9
        have HR9 := Lib.hid hr9
        clear ho9 hr9 hor hc2 hrc hrf
        gi_wp2
        go_roundw
        case rel => exact ⟨j + 1, by omega, by go_num, HR9.out, HO9.out⟩
        case measure => simp [intOf]; omega
      · have hjm : j = m := by omega
        have hR9 : RowAt wr w1.heap.size 71 (rc m (symL m xs) (k + 1)) := by
          rw [← rp_all]
          have h := HRJ.out
          rw [hjm] at h
          exact h
        have HR9 := Lib.hid hR9
        clear hR9
        gi_wp2
        exact ⟨HON.out, H1.out, by omega, H3.out.trans (HON.out.below (fun x hx => by rw [List.mem_singleton.1 hx]; omega) (by omega)), two_only H4.out HON.out (by simp; omega), HR9.out⟩
  case done =>
    intro D M W' hD hM hDM ⟨h1, h2, h3, h4, h5⟩ hd
    rw [List.length_map] at h5
    obtain ⟨i0, hi, hz0, hz1, hz2⟩ := info_parts info_int
    have H1 := Lib.hid h1
    have H3 := Lib.hid h3
    have H5 := Lib.hid h5
    have HD := Lib.hid hd
    have hbr := h5.lt
    obtain ⟨t0, t1, t2, t3, t4⟩ := h4
    clear h1 h3 h5 hd
    have hsl := slice6 w1.heap.size m hm6 W'
    have HCC := Lib.hid (fun i hi b hb => cls_has (m := m) (xs := xs) HC.out (i := i) hi b hb)
    gi_wp2_with fail
    gi_loopw [7, 35] (fun u i wr => ∃ k : Nat, k ≤ m ∧ i = .int .i64 (k : Int) ∧ OwnInts wr W'.heap.size u (clsU m xs k) ∧ Below W'.heap.size W' wr) (fun _ i _ => m - (intOf i).toNat)
    case atStart => exact ⟨0, Nat.zero_le _, rfl, OwnInts.nil _ _, Below.refl _ _⟩
    case round =>
      obtain ⟨k, hk, rfl, hO, hB⟩ := hrel
      have HO := Lib.hid hO
      have HB := Lib.hid hB
      have hsz := hB.size
      have hHas := hO.atc
      clear hO hB
      by_cases hlt : k < m
      · have hrc := (H5.out.keeps HB.out).cell k (by rw [rc_len]; omega)
        rw [rc_at hm6 hlt] at hrc
        have hrf := (H5.out.keeps HB.out).frozen k
        have hcl := clsU_le m xs k
        have hclm : (clsU m xs k).length ≤ 6 := by omega
        obtain ⟨au, cu, gu, rfl, hcu, hgu, hiu⟩ := hHas
        cases hb : leastP m xs k with
        | true =>
          have HCN := Lib.hid (HCC.out k hlt true hb)
          have HN1 := Lib.hid (clsU_hit hb)
          obtain ⟨ob, hob⟩ : ∃ ob, orb m xs k = ob := ⟨_, rfl⟩
          rw [hob] at HCN HN1 hrc
          have HIU := Lib.hid hiu.ints
          have HOW := HO
          unfold OwnInts at HOW
          clear hb hob hiu
          gi_wp2_with fail
          refine inCall ((contains_b au cu (clsU m xs k) (clsU m xs k).length rfl (by omega) (ob : Int) false HCN.out _ HIU.out).mono ?_)
          rintro e w2 ⟨rfl, rfl⟩
          gi_wp2_with (gi_at_builtin; refine wpListIn_appendG _ rfl _ _ 24 rfl W'.heap.size 3 i0 (.int .i64 0) 1 8 Tryz.underlying24 hi hz0 hz1 hz2 rfl (by decide) _ _ _ rfl (HOW.out.alloc _) ⟨wr.heap.size, 0, none⟩ 1 1 [.int .i64 (ob : Int)] rfl rfl (fun j u hj => Mem.cell_new wr _ _ j u hj) (fun u hu => by rw [List.mem_singleton.1 hu]; rfl) (by decide) (by unfold maxLen; omega) (by omega) (by simp; omega) ?_)
          intro g2 cap2 w3 hown hcase hlt2
          have hO9 : OwnInts w3 W'.heap.size (.slice (some ⟨g2, 0, none⟩) ((clsU m xs k).length + 1) cap2) (clsU m xs k ++ [(ob : Int)]) := OwnInts.next hown
          have hB9 : Below W'.heap.size W' w3 := by
            have hg2 := (World.ownsRow.lt hown g2 rfl).1
            rcases hcase with ⟨_, hg⟩ | ⟨_, hg⟩
            · exact (HB.out.alloc hsz _).grown hg (by simp; omega) fun x hx => by cases hx; exact hg2
            · exact (HB.out.alloc hsz _).grown hg (by simp; omega) fun x hx => by cases hx
          have HO9 := Lib.hid hO9
          have HB9 := Lib.hid hB9
          clear hO9 hB9 hcase hown
          gi_wp2
          go_roundw
          case rel => exact ⟨k + 1, by omega, by go_num, by rw [HN1.out]; exact HO9.out, HB9.out⟩
          case measure => simp [intOf]; omega
        | false =>
          have HCN := Lib.hid (HCC.out k hlt false hb)
          have HN1 := Lib.hid (clsU_miss hb)
          have HIU := Lib.hid hiu.ints
          obtain ⟨ob, hob⟩ : ∃ ob, orb m xs k = ob := ⟨_, rfl⟩
          rw [hob] at HCN hrc
          clear hb hob hiu
          gi_wp2_with fail
          refine inCall ((contains_b au cu (clsU m xs k) (clsU m xs k).length rfl (by omega) (ob : Int) true HCN.out _ HIU.out).mono ?_)
          rintro e w2 ⟨rfl, rfl⟩
          gi_wp2
          go_roundw
          case rel => exact ⟨k + 1, by omega, by go_num, by rw [HN1.out]; exact HO.out, HB.out⟩
          case measure => simp [intOf]; omega
      · have E : Hid (clsU m xs k = classes m xs) := by
          have h1 : k = m := by omega
          have : clsU m xs k = classes m xs := by rw [h1]; rfl
          exact this
        have hDl := heap_lt HD.out
        have hd9 : wr.heap[D]? = some (.deferred (some [])) := (HB.out.block D hDl).trans HD.out
        have hp := Only.put (G := [D]) (List.mem_singleton.2 rfl) wr (.deferred none)
        have hO9 := HO.out.only hp fun g e hm => by have := (World.ownsRow.lt HO.out g e).1; rw [List.mem_singleton.1 hm] at this; omega
        have hB9 : Below w.heap.size w (wr.putObj D (.deferred none)) := (H3.out.trans (HB.out.mono H3.out.size)).trans (hp.below (fun x hx => by rw [List.mem_singleton.1 hx]; simp at hD; omega) (by have := H3.out.size; omega))
        have HO9 := Lib.hid hO9
        have HB9 := Lib.hid hB9
        clear hO9 hB9 hp hHas
        gi_wp2
        refine ⟨by simp, .inl ⟨_, _, rfl, run_takeDeferred hd9, ?_⟩⟩
        exact ⟨_, results_tmp rfl _ _ _, _, rfl, by rw [← E.out]; exact HO9.out.lower H3.out.size, HB9.out⟩

set_option maxRecDepth 100000 in
set_option maxHeartbeats 1000000 in
theorem implClasses_any (n : Int) (a : Option Addr) (c : Nat) (xs : List Int) (hcap : xs.length ≤ c) (hlen : xs.length ≤ 1099511627776) (w : World) (h : Ints w a xs) :
    Calls Tryz.prog 16 #[cx n (.slice a xs.length c)] w fun e w' => ∃ v, e = .returned v ∧ OwnInts w' w.heap.size v (clsO n xs) ∧ Below w.heap.size w w' := by
  cases hC : isC n xs with
  | false =>
    have hb0 : Below w.heap.size w (w.alloc (.cells #[.int .i64 n, .slice a xs.length c] 26)) := (Below.refl _ _).alloc (Nat.le_refl _) _
    have H := Lib.hid (h.keeps hb0)
    have HB0 := Lib.hid hb0
    have HC := Lib.hid hC
    obtain ⟨t0, t1, t2, t3, t4⟩ := Two.new w (.int .i64 n) (.slice a xs.length c) 26
    rw [clsO_no hC]
    clear hC h hb0
    go_enter Tryz.func16, Tryz.ntmps16
    go_wp2_with fail
    refine (implIsC_b n _ _ xs hcap false HC.out hlen _ H.out).mono ?_
    rintro e w1 ⟨rfl, hb1⟩
    have HB1 : Hid (Below w.heap.size w w1) := HB0.out.trans (hb1.mono HB0.out.size)
    clear hb1
    go_wp2
    go_ret
    exact ⟨_, rfl, OwnInts.nil _ _, HB1.out⟩
  | true =>
    rw [clsO_yes hC]
    obtain ⟨m, rfl, hm1, hm6⟩ := isC_cast hC
    rw [Int.toNat_natCast]
    exact implClasses_yes m hm1 hm6 a c xs hcap hC w h

end Go.Proofs.YtbkkdgmiokdbmaaGreat
