/-
  WALKS: impl's chapter 9: CanonicalComplex.
-/
import Derived.Test.YtbkkdgmiokdbmaaGreatWNamI5
import Derived.Test.YtbkkdgmiokdbmaaGreatWNamI6
import Derived.Test.YtbkkdgmiokdbmaaGreatWNamI7
import Derived.Test.YtbkkdgmiokdbmaaGreatJg22
namespace Go.Proofs.YtbkkdgmiokdbmaaGreat
open Go.RowKit Go.Shelf
open Sets Nam

/-- A row that the iterator does not own and that is not the box bl. -/
structure Safe (W : World) (M : List Nat) (bl g : Nat) (a : Option Addr) (L : List Int) : Prop where
  at_ : IntsAt W g a L
  far : L = [] ∨ (g < W.heap.size ∧ g ∉ M ∧ g ≠ bl)
theorem IntsAt.none {W : World} {g : Nat} {a : Option Addr} : IntsAt W g a [] := fun _ hj => absurd hj (Nat.not_lt_zero _)
theorem Safe.bears {W W' : World} {M M' : List Nat} {bl g : Nat} {a : Option Addr} {L : List Int} (h : Safe W M bl g a L) (ho : Only M' W W') (hM : ∀ x, x ∈ M' → x ∈ M ∨ W.heap.size ≤ x) : Safe W' M' bl g a L := by
  rcases h.far with e | ⟨h1, h2, h3⟩
  · subst e; exact ⟨IntsAt.none, .inl rfl⟩
  · have h4 : g ∉ M' := fun hm => (hM g hm).elim h2 fun h => by omega
    exact ⟨h.at_.only ho h4, .inr ⟨Nat.lt_of_lt_of_le h1 ho.size, h4, h3⟩⟩
theorem Safe.box {W W' : World} {M : List Nat} {bl g : Nat} {a : Option Addr} {L : List Int} (h : Safe W M bl g a L) (ho : Only [bl] W W') : Safe W' M bl g a L := by
  rcases h.far with e | ⟨h1, h2, h3⟩
  · subst e; exact ⟨IntsAt.none, .inl rfl⟩
  · exact ⟨h.at_.only ho (by simpa using h3), .inr ⟨Nat.lt_of_lt_of_le h1 ho.size, h2, h3⟩⟩
theorem Safe.has {W : World} {M : List Nat} {bl g base c : Nat} {a : Option Addr} {L : List Int} (h : Safe W M bl g a L) (hg : base ≤ g) (hc : L.length ≤ c) (hb : base ≤ W.heap.size) : HasInts W base (.slice a L.length c) L := by
  rcases h.far with e | ⟨h1, _, _⟩
  · subst e; exact ⟨a, c, W.heap.size + 5, rfl, hc, by omega, IntsAt.none, .inr (Nat.le_refl _)⟩
  · exact ⟨a, c, g, rfl, hc, hg, h.at_, .inl h1⟩

theorem Safe.has2 {W W' : World} {M G : List Nat} {bl g base c : Nat} {a : Option Addr} {L : List Int} (h : Safe W M bl g a L) (ho : Only G W W') (hG : ∀ x, x ∈ G → x ∈ M ∨ x < g) (hg : base ≤ g) (hc : L.length ≤ c) (hb : base ≤ W'.heap.size) : HasInts W' base (.slice a L.length c) L := by
  rcases h.far with e | ⟨h1, h2, _⟩
  · subst e; exact ⟨a, c, W'.heap.size + 5, rfl, hc, by omega, IntsAt.none, .inr (Nat.le_refl _)⟩
  · exact ⟨a, c, g, rfl, hc, hg, h.at_.only ho fun hm => (hG g hm).elim h2 (by omega), .inl (Nat.lt_of_lt_of_le h1 ho.size)⟩
theorem IntsAt.safe {W : World} {bl g : Nat} {a : Option Addr} {L : List Int} (h : IntsAt W g a L) (hg : g < W.heap.size → g ≠ bl) : Safe W [] bl g a L := by
  cases L with
  | nil => exact ⟨IntsAt.none, .inl rfl⟩
  | cons x t =>
    have h1 := (h 0 (by simp)).2.1
    exact ⟨h, .inr ⟨h1, by simp, hg h1⟩⟩

theorem Safe.grow {W : World} {g : Nat} {a : Option Addr} {L : List Int} (h : Safe W [] W.heap.size g a L) (o : Obj) : Safe (W.alloc o) [] W.heap.size g a L := h.bears (Only.new [] W o) fun _ hx => absurd hx List.not_mem_nil

attribute [local go_sem] Oper.semAt_some

set_option maxRecDepth 100000 in
set_option maxHeartbeats 2000000 in
theorem implCanon_yes (m : Nat) (hm1 : 1 ≤ m) (hm6 : m ≤ 6) (a : Option Addr) (c : Nat) (xs : List Int) (hcap : xs.length ≤ c) (hC : isC (m : Int) xs = true) (w : World) (h : Ints w a xs) :
    Calls Tryz.prog 12 #[cx (m : Int) (.slice a xs.length c)] w fun e w' => ∃ v, e = .returned (.tuple #[cx (m : Int) v, .bool true]) ∧ HasInts w' w.heap.size v (canonL m xs) ∧ Below w.heap.size w w' := by
  have hb0 : Below w.heap.size w ((w.alloc (.cells #[.int .i64 (m : Int), .slice a xs.length c] 26)).alloc (.cells #[.int .i64 0, .slice none 0 0] 26)) := ((Below.refl _ _).alloc (Nat.le_refl _) _).alloc (by simp) _
  have htc := (Two.new w (.int .i64 (m : Int)) (.slice a xs.length c) 26).alloc (.cells #[.int .i64 0, .slice none 0 0] 26)
  have htr := Two.new (w.alloc (.cells #[.int .i64 (m : Int), .slice a xs.length c] 26)) (.int .i64 0) (.slice none 0 0) 26
  rw [World.size_alloc] at htr
  obtain ⟨br, hbr⟩ : ∃ br, w.heap.size + 1 = br := ⟨_, rfl⟩
  rw [hbr] at htr
  have hwb : w.heap.size < br := by omega
  have hl64 := isC_le hC
  have TC := Lib.hid htc
  have TR := Lib.hid htr
  have HH := Lib.hid h
  have HC := Lib.hid hC
  have HB0 := Lib.hid hb0
  have HBR := Lib.hid hbr
  obtain ⟨t0, t1, t2, t3, t4⟩ := htc
  clear h hC hb0 hbr htr
  refine wide_calls fun n' => ?_
  refine callsIn_of_wp_marks Tryz.func12 rfl trivial ?_ rfl
  simp only [Tryz.ntmps12, List.size_toArray, List.length_cons, List.length_nil, Nat.reduceAdd, Nat.reduceSub, Array.replicate_succ, Array.replicate_zero, List.push_toArray, List.append_toArray, List.nil_append, List.cons_append]
  gi_wp2_with fail
  refine inCall ((implIsC_b (m : Int) _ _ xs hcap true HC.out (by omega) _ (HH.out.keeps HB0.out)).mono ?_)
  rintro e w1 ⟨rfl, hb1⟩
  try rw [HBR.out]
  have HB1 : Hid (Below w.heap.size w w1) := HB0.out.trans (hb1.mono HB0.out.size)
  have TC1 := Lib.hid (TC.out.keeps hb1)
  have TR1 := Lib.hid (TR.out.keeps hb1)
  clear t0 t1 t2 t3 t4 hb1
  obtain ⟨t0, t1, t2, t3, t4⟩ := Two.drew TC1.out
  have hmx : Tryz.prog.follows .mixedOrders = true := by kernel_rfl
  gi_wp2_with fail
  rename_i K hK
  have hlt1 : w.heap.size < w1.heap.size := TC1.out.1
  have hbr1 : br < w1.heap.size := TR1.out.1
  have HK : ∀ (bl : Nat) (a5 : Option Addr) (c5 g5 : Nat) (w5 : World), Below w.heap.size w w5 → Two w5 bl (.int .i64 (m : Int)) (.slice a5 xs.length c5) → Two w5 w.heap.size (.int .i64 (m : Int)) (.slice a xs.length c) → Two w5 br (.int .i64 0) (.slice none 0 0) → br < bl → br < g5 → xs.length ≤ c5 → Safe w5 [] bl g5 a5 xs →
      K ⟨#[cx (m : Int) (.slice a xs.length c), .pointer (some ⟨w.heap.size, 0, none⟩), .pointer (some ⟨br, 0, none⟩), .bool false, .pointer (some ⟨bl, 0, none⟩), undef, undef, .agg #[.int .i64 (m : Int), .slice a xs.length c], .bool true, .bool false, undef, .pointer (some ⟨w.heap.size, 0, none⟩), .int .i64 (m : Int), .pointer (some ⟨w.heap.size, 1, none⟩), .slice a xs.length c, .slice a5 xs.length c5, .agg #[.int .i64 (m : Int), .slice a5 xs.length c5], undef, undef, undef, undef, undef, undef, undef, undef, undef, undef, undef, undef, undef, undef, undef], []⟩ w5 := by
    intro bl a5 c5 g5 w5 hB hTB hTC hTR hbl hg5 hc5 hS
    have HB := Lib.hid hB
    have HTB := Lib.hid hTB
    have HTC := Lib.hid hTC
    have HTR := Lib.hid hTR
    have HS := Lib.hid hS
    have hbl5 := hTB.1
    have hbr5 := hTR.1
    clear t0 t1 t2 t3 t4
    obtain ⟨t0, t1, t2, t3, t4⟩ := hTC
    clear hB hTB hTR hS
    gi_wp2_with fail
    refine inCall ((namesFor_any (m : Int) _).mono ?_)
    rintro e w' ⟨rfl, rfl⟩
    gi_wp2_with fail
    refine wp_seq (names_seq m hm6 w5.heap.size) rfl (enters_of Tryz.func74 (by kernel_rfl) rfl) rfl [bl] ?hG ?hpre
      (fun k M W' => (∀ x, x ∈ M → w5.heap.size + 1 ≤ x) ∧ w5.heap.size + 1 ≤ W'.heap.size ∧ Below w.heap.size w W' ∧ Two W' w.heap.size (.int .i64 (m : Int)) (.slice a xs.length c) ∧ Two W' br (.int .i64 0) (.slice none 0 0) ∧ ∃ (g : Nat) (ab : Option Addr) (cb : Nat), Two W' bl (.int .i64 (m : Int)) (.slice ab xs.length cb) ∧ Safe W' M bl g ab (Nam.leastOf xs ((allNames m).take k) xs) ∧ br < g ∧ xs.length ≤ cb)
      ?hI ?h0 ?round ?done
    case hG => intro x hx; rw [List.mem_singleton.1 hx]; simp; omega
    case hpre =>
      intro o1 o2
      exact (((BoxI.new w5 (m : Int) 3).only (Only.new [] _ o1) (by simp)).only (Only.new [] _ o2) (by simp)).2.1
    case hI =>
      rintro k M M' W1 W2 ⟨h1, h2, h3, h4, h5, g, ab, cb, h6, h7, h8, h9⟩ ho hM
      have hm : ∀ x, x ∈ M' → w5.heap.size + 1 ≤ x := fun x hx => (hM x hx).elim (h1 x) fun h => by omega
      have hn : ∀ x, x < w5.heap.size → x ∉ M' := fun x hx hm' => by have := hm x hm'; omega
      exact ⟨hm, Nat.le_trans h2 ho.size, h3.trans (ho.below (fun x hx => by have := hm x hx; omega) (by omega)), two_only h4 ho (hn _ (by omega)), two_only h5 ho (hn _ (by omega)), g, ab, cb, two_only h6 ho (hn _ (by omega)), h7.bears ho hM, h8, h9⟩
    case h0 =>
      have ho := Only.new [] w5 (.cells #[.int .i64 (m : Int)] 3)
      exact ⟨fun x hx => absurd hx List.not_mem_nil, by simp, HB.out.trans (ho.below (fun x hx => absurd hx List.not_mem_nil) (by omega)), two_only HTC.out ho (by simp), two_only HTR.out ho (by simp), g5, a5, c5, two_only HTB.out ho (by simp), HS.out.bears ho (fun x hx => absurd hx List.not_mem_nil), hg5, hc5⟩
    case round =>
      intro l2 m2 k M v x W' hx
      gi_wp2
      refine ⟨trivial, ?_⟩
      intro W2 ⟨h1, h2, h3, h4, h5, g, ab, cb, h6, h7, h8, h9⟩ hM hR hs
      obtain ⟨ns, hns, rfl⟩ : ∃ ns, (allNames m)[k]? = some ns ∧ Zs ns = x := by
        rw [List.getElem?_map] at hx
        cases h : (allNames m)[k]? with
        | none => rw [h] at hx; cases hx
        | some ns => rw [h] at hx; exact ⟨ns, rfl, Option.some.inj hx⟩
      have hkl : k < (allNames m).length := (List.getElem?_eq_some_iff.1 hns).1
      have hgd : (allNames m).getD k [] = ns := by rw [List.getD, hns]; rfl
      have hNn : Names m ns := by rw [← hgd]; exact all_at hkl
      have hNm := Nms.of_names hm1 hm6 hNn
      have hzl : (Zs ns).length = m := hNm.len
      obtain ⟨av, cv, gv, rfl, hcv, hgv, hiv⟩ := hR
      rw [hzl]
      have hCW := complexWith_any (m : Int) a c xs av cv (Zs ns) m hNm (isC_ok HC.out) hl64 W2 (HH.out.keeps h3) hiv.ints
      rw [toN_Zs] at hCW
      have hlr : (renL ns xs).length = xs.length := renL_length hNn HC.out
      have hll := least_len HC.out k
      obtain ⟨lb, hlb⟩ : ∃ lb, lessL (renL ns xs) (Nam.leastOf xs ((allNames m).take k) xs) = lb := ⟨_, rfl⟩
      have hnext := least_next xs (allNames m) k hkl xs
      rw [hgd, hlb] at hnext
      have HCW := Lib.hid hCW
      have H1 := Lib.hid h1
      have H3 := Lib.hid h3
      have H4 := Lib.hid h4
      have H5 := Lib.hid h5
      have H6 := Lib.hid h6
      have H7 := Lib.hid h7
      have HMM := Lib.hid hM
      have HLR := Lib.hid hlr
      have HLL := Lib.hid hll
      have HLB := Lib.hid hlb
      have HNX := Lib.hid hnext
      obtain ⟨t0, t1, t2, t3, t4⟩ := h4
      clear hCW h1 h3 h5 h6 h7 hM hlr hll hlb hnext hns hgd hNn hNm hiv hx
      gi_wp2_with fail
      refine ⟨trivial, wd, CallsIn.inRound l2 ((callsIn_wide.2 HCW.out).mono ?_)⟩
      rintro e w6 ⟨v6, rfl, hO6, hb6⟩
      obtain ⟨a6, c6, g6, rfl, hc6, hg6, hi6⟩ := OwnInts.atc hO6
      rw [HLR.out] at hc6
      rw [HLR.out]
      have hs6 := hb6.size
      have hg6n : renL ns xs = [] ∨ g6 < w6.heap.size := by
        cases hL : renL ns xs with
        | nil => exact .inl rfl
        | cons x t => rw [hL] at hi6; exact .inr (hi6 0 (by simp)).2.1
      have hb7 : Below W2.heap.size W2 (w6.alloc (.cells #[.int .i64 (m : Int), .slice a6 xs.length c6] 26)) := hb6.alloc hs6 _
      have HX7 := Lib.hid (Two.new w6 (.int .i64 (m : Int)) (.slice a6 xs.length c6) 26)
      have HI7 := Lib.hid (hi6.keeps ((Below.refl w6.heap.size w6).alloc (Nat.le_refl _) (.cells #[.int .i64 (m : Int), .slice a6 xs.length c6] 26)))
      have hs7 : (w6.alloc (.cells #[.int .i64 (m : Int), .slice a6 xs.length c6] 26)).heap.size = w6.heap.size + 1 := by simp
      have HB7 := Lib.hid hb7
      have HS7 := Lib.hid hs7
      have HG6 := Lib.hid hg6n
      clear hO6 hb6 hi6 hb7 hs7 hg6n t0 t1 t2 t3 t4
      obtain ⟨p0, p1, p2, p3, p4⟩ := HX7.out
      obtain ⟨q0, q1, q2, q3, q4⟩ := H6.out.keeps HB7.out
      gi_wp2_with fail
      obtain ⟨w7, hw7⟩ : ∃ w7, w6.alloc (.cells #[.int .i64 (m : Int), .slice a6 xs.length c6] 26) = w7 := ⟨_, rfl⟩
      rw [hw7] at HX7 HI7 HB7 HS7 p0 p1 p2 p3 p4 q0 q1 q2 q3 q4
      rw [hw7]
      clear hw7
      have hS7 : Safe w7 M bl g ab (Nam.leastOf xs ((allNames m).take k) xs) := H7.out.bears (Only.of_below M HB7.out) fun x hx => .inl hx
      have HCMP := Lib.hid (compare_b a6 c6 (renL ns xs) ab cb (Nam.leastOf xs ((allNames m).take k) xs) xs.length HLR.out HLL.out (by omega) lb HLB.out w7 HI7.out.ints hS7.at_.ints)
      have HS := Lib.hid hS7
      clear hS7
      refine ⟨trivial, wd, CallsIn.inRound l2 ((callsIn_wide.2 HCMP.out).mono ?_)⟩
      rintro e w8 ⟨⟨r, rfl, hr, _, _⟩, rfl⟩
      have hs7 := HS7.out
      have hn : ∀ x, x ∈ M → x < W2.heap.size := fun x hx => (HMM.out x hx).2
      cases lb with
      | true =>
        have HN2 : Hid (Nam.leastOf xs ((allNames m).take (k + 1)) xs = renL ns xs) := by
          have h := HNX.out
          rw [if_pos rfl] at h
          exact h
        gi_wp2
        have ho : Only [bl] w7 ((w7.setCell ⟨bl, 0, none⟩ (.int .i64 (m : Int))).setCell ⟨bl, 1, none⟩ (.slice a6 xs.length c6)) := (Only.set _ w7 0 (List.mem_singleton.2 rfl) _).trans (Only.set _ _ 1 (List.mem_singleton.2 rfl) _)
        have hS8 : Safe w7 M bl g6 a6 (renL ns xs) := ⟨HI7.out, HG6.out.imp id fun h => ⟨by omega, fun hm => by have := hn _ hm; omega, by omega⟩⟩
        have hoW := (Only.of_below [bl] HB7.out).trans ho
        have hz := hoW.size
        exact ⟨hoW, H1.out, by omega, H3.out.trans (hoW.below (fun x hx => by rw [List.mem_singleton.1 hx]; omega) (by omega)), two_only H4.out hoW (by simp; omega), two_only H5.out hoW (by simp; omega), g6, a6, c6, (H6.out.keeps HB7.out).fill _ _, by rw [HN2.out]; exact hS8.box ho, by omega, hc6⟩
      | false =>
        have HN2 : Hid (Nam.leastOf xs ((allNames m).take (k + 1)) xs = Nam.leastOf xs ((allNames m).take k) xs) := by
          have h := HNX.out
          rw [if_neg (by simp)] at h
          exact h
        gi_wp2
        exact ⟨Only.of_below _ HB7.out, H1.out, by omega, H3.out.trans (HB7.out.mono (by omega)), H4.out.keeps HB7.out, H5.out.keeps HB7.out, g, ab, cb, H6.out.keeps HB7.out, by rw [HN2.out]; exact HS.out, h8, h9⟩
    case done =>
      intro D M W' hD hM hDM ⟨h1, h2, h3, h4, h5, g, ab, cb, h6, h7, h8, h9⟩ hd
      rw [List.length_map, List.take_length] at h7
      have hcl := canon_length HC.out
      have hS : Safe W' M bl g ab (canonL m xs) := h7
      have HCL := Lib.hid hcl
      have HS := Lib.hid hS
      have HD3 := Lib.hid h3
      have HT5 := Lib.hid h5
      obtain ⟨p0, p1, p2, p3, p4⟩ := h6
      obtain ⟨q0, q1, q2, q3, q4⟩ := h5
      clear h7 h3 hS hcl h4
      gi_wp2
      refine ⟨by simp, .inl ⟨_, _, rfl, run_takeDeferred (w := (W'.setCell ⟨br, 0, none⟩ (.int .i64 (m : Int))).setCell ⟨br, 1, none⟩ (.slice ab xs.length cb)) (ds := []) (b := D) ?_, ?_⟩⟩
      · have hDb : D ≠ br := by have := h1 D hDM; omega
        exact (Below.heap_setCell _ _ _ D hDb).trans ((Below.heap_setCell _ _ _ D hDb).trans hd)
      · have ho1 : Only [br, D] W' ((W'.setCell ⟨br, 0, none⟩ (.int .i64 (m : Int))).setCell ⟨br, 1, none⟩ (.slice ab xs.length cb)) := (Only.set _ W' 0 (List.mem_cons_self ..) _).trans (Only.set _ _ 1 (List.mem_cons_self ..) _)
        have ho := ho1.trans (Only.put (G := [br, D]) (b := D) (by simp) _ (.deferred none))
        have hT9 := two_only (HT5.out.fill (.int .i64 (m : Int)) (.slice ab xs.length cb)) (Only.put (G := [D]) (List.mem_singleton.2 rfl) _ (.deferred none)) (by have := h1 D hDM; simp; omega)
        refine ⟨_, by rw [results_cell_tmp rfl]; simp [asAddr, Result.andThen, cx_load _ br _ _ hT9.2.1 hT9.2.2.1], .slice ab xs.length cb, rfl, ?_, HD3.out.trans (ho.below (fun x hx => by have := h1 D hDM; simp at hx; omega) (by omega))⟩
        have h := HS.out.has2 (base := w.heap.size) (c := cb) ho (fun x hx => by simp at hx; rcases hx with rfl | rfl; exact .inr h8; exact .inl hDM) (by omega) (by rw [HCL.out]; exact h9) (by have := ho.size; omega)
        rw [HCL.out] at h
        exact h
  have HC0 := Lib.hid (clone_any a c xs (by omega) w1.drew ((HH.out.keeps HB1.out).keeps ((Below.refl _ _).drew)))
  have HCA := Lib.hid (clone_any a c xs (by omega) ((w1.alloc (.cells #[.int .i64 0, .slice none 0 0] 26)).drew) ((HH.out.keeps HB1.out).keeps (((Below.refl _ w1).alloc (Nat.le_refl _) _).drew)))
  have HTA : Hid (Two ((w1.alloc (.cells #[.int .i64 0, .slice none 0 0] 26)).drew) w1.heap.size (.int .i64 0) (.slice none 0 0)) := (Two.new w1 (.int .i64 0) (.slice none 0 0) 26).drew
  obtain ⟨s0, s1, s2, s3, s4⟩ := TC1.out.alloc (.cells #[.int .i64 0, .slice none 0 0] 26)
  obtain ⟨q0, q1, q2, q3, q4⟩ := TC1.out
  have hne1 : ¬ (w.heap.size = w1.heap.size) := by omega
  have HSX : Hid (((w1.alloc (.cells #[.int .i64 0, .slice none 0 0] 26)).drew).heap.size = w1.heap.size + 1) := by
    have : ((w1.alloc (.cells #[.int .i64 0, .slice none 0 0] 26)).drew).heap.size = w1.heap.size + 1 := by simp [World.drew]
    exact this
  refine wpIn_mono (Q := Exit.then K fun _ _ _ => False) ?_ (fun e a w h => by cases e <;> first | exact h | exact h.elim)
  gi_region_with_o (first
    | (refine ⟨trivial, wd, ?_⟩; gi_at_call 47; refine (callsIn_wide.2 HC0.out).mono ?_; rintro e w2 ⟨v2, rfl, hO2, hb2⟩; obtain ⟨a5, c5, g5, rfl, hc5, hg5, hi5⟩ := OwnInts.atc hO2; obtain ⟨x0, x1, x2, x3, x4⟩ := Two.new w2 (.int .i64 0) (.slice none 0 0) 26; obtain ⟨y0, y1, y2, y3, y4⟩ := (Two.drew TC1.out).keeps hb2; obtain ⟨z0, z1, z2, z3, z4⟩ := ((Two.drew TC1.out).keeps hb2).alloc (.cells #[.int .i64 0, .slice none 0 0] 26))
    | (refine ⟨trivial, wd, ?_⟩; gi_at_call 47; refine (callsIn_wide.2 HCA.out).mono ?_; rintro e w2 ⟨v2, rfl, hO2, hb2⟩; obtain ⟨a5, c5, g5, rfl, hc5, hg5, hi5⟩ := OwnInts.atc hO2; obtain ⟨x0, x1, x2, x3, x4⟩ := HTA.out.keeps hb2; obtain ⟨y0, y1, y2, y3, y4⟩ := ((TC1.out.alloc (.cells #[.int .i64 0, .slice none 0 0] 26)).drew).keeps hb2))
  all_goals
    first
    | (have hz : w1.heap.size ≤ w2.heap.size := hb2.size
       have hg6 : w1.heap.size ≤ g5 := hg5
       have hbb : Below w1.heap.size w1 w2 := ((Below.refl _ w1).drew).trans hb2
       exact HK w2.heap.size a5 c5 g5 _ ((HB1.out.trans (hbb.mono HB1.out.size)).alloc (by omega) _) (Two.new w2 _ _ _) ((TC1.out.keeps hbb).alloc _) ((TR1.out.keeps hbb).alloc _) (by omega) (by omega) hc5 (Safe.grow (IntsAt.safe hi5 fun h => by omega) _))
    | (have hz : w1.heap.size + 1 ≤ w2.heap.size := by have h := hb2.size; rw [HSX.out] at h; exact h
       have hg6 : w1.heap.size + 1 ≤ g5 := by rw [HSX.out] at hg5; exact hg5
       have hbb : Below w1.heap.size w1 w2 := (((Below.refl _ w1).alloc (Nat.le_refl _) _).drew).trans (hb2.mono (by rw [HSX.out]; omega))
       have ho : Only [w1.heap.size] w2 ((w2.setCell ⟨w1.heap.size, 0, none⟩ (.int .i64 (m : Int))).setCell ⟨w1.heap.size, 1, none⟩ (.slice a5 xs.length c5)) := (Only.set _ w2 0 (List.mem_singleton.2 rfl) _).trans (Only.set _ _ 1 (List.mem_singleton.2 rfl) _)
       exact HK w1.heap.size a5 c5 g5 _ ((HB1.out.trans (hbb.mono HB1.out.size)).trans (ho.below (fun x hx => by rw [List.mem_singleton.1 hx]; omega) (by omega))) ((HTA.out.keeps hb2).fill _ _) (two_only (TC1.out.keeps hbb) ho (by simp; omega)) (two_only (TR1.out.keeps hbb) ho (by simp; omega)) (by omega) (by omega) hc5 (IntsAt.safe (hi5.only ho (by simp; omega)) fun h => by omega))

set_option maxRecDepth 100000 in
set_option maxHeartbeats 1000000 in
theorem implCanon_any (n : Int) (a : Option Addr) (c : Nat) (xs : List Int) (hcap : xs.length ≤ c) (hlen : xs.length ≤ 1099511627776) (w : World) (h : Ints w a xs) :
    Calls Tryz.prog 12 #[cx n (.slice a xs.length c)] w fun e w' => ∃ v, e = .returned (.tuple #[cx (oN (canonCO n xs)) v, .bool (canonCO n xs).isSome]) ∧ HasInts w' w.heap.size v (oL (canonCO n xs)) ∧ Below w.heap.size w w' := by
  cases hC : isC n xs with
  | false =>
    have hb0 : Below w.heap.size w ((w.alloc (Obj.cells #[Value.int IntKind.i64 n, Value.slice a xs.length c] 26)).alloc (Obj.cells #[Value.int IntKind.i64 0, Value.slice none 0 0] 26)) := ((Below.refl _ _).alloc (Nat.le_refl _) _).alloc (by simp) _
    have htc := (Two.new w (.int .i64 n) (.slice a xs.length c) 26).alloc (.cells #[.int .i64 0, .slice none 0 0] 26)
    have htr := Two.new (w.alloc (.cells #[.int .i64 n, .slice a xs.length c] 26)) (.int .i64 0) (.slice none 0 0) 26
    rw [World.size_alloc] at htr
    obtain ⟨br, hbr⟩ : ∃ br, w.heap.size + 1 = br := ⟨_, rfl⟩
    rw [hbr] at htr
    have hwb : w.heap.size < br := by omega
    have TR := Lib.hid htr
    have HH := Lib.hid (h.keeps hb0)
    have HB0 := Lib.hid hb0
    have HBR := Lib.hid hbr
    have HC := Lib.hid hC
    obtain ⟨t0, t1, t2, _, _⟩ := htc
    rw [canonCO_no hC]
    clear hC h htr hb0 hbr
    go_enter Tryz.func12, Tryz.ntmps12
    go_wp2_with fail
    refine (implIsC_b n _ _ xs hcap false HC.out hlen _ HH.out).mono ?_
    rintro e w1 ⟨rfl, hb1⟩
    try rw [HBR.out]
    obtain ⟨r0, r1, r2, r3, r4⟩ := TR.out.keeps hb1
    have HB1 : Hid (Below w.heap.size w w1) := HB0.out.trans (hb1.mono HB0.out.size)
    clear hb1 t0 t1 t2
    go_wp2
    refine ret_cx2 br rfl rfl rfl (x := .int .i64 0) (y := .slice none 0 0) (by go_simp) (by go_simp) rfl ?_
    have hz := HB1.out.size
    exact ⟨_, rfl, HasInts.nil _ _ (by simp [World.setCell]; omega), by first | exact (HB1.out.setCell (by dsimp only; omega) _).setCell (by dsimp only; omega) _ | exact HB1.out⟩
  | true =>
    rw [canonCO_yes hC]
    obtain ⟨m, rfl, hm1, hm6⟩ := isC_cast hC
    rw [Int.toNat_natCast]
    exact implCanon_yes m hm1 hm6 a c xs hcap hC w h

end Go.Proofs.YtbkkdgmiokdbmaaGreat
