/-
  WALKS: slices.DeleteFunc at a row of numbers in a block of its own; impl.FacesOfSize.
-/
import Derived.Test.YtenpcjmhlnalcaaGreatJg9
import Derived.Test.YtenpcjmhlnalcaaGreatJg6
import Derived.Lib.SliceRun
namespace Go.Proofs.YtenpcjmhlnalcaaGreat
open Go.RowKit
open Sets

/-- What is asked of the predicate: at every number, in every world in which at most block B has changed, it answers q; it may draw. -/
def AsksBut (g : Nat) (lb : Array Value) (q : Int → Bool) (B : Nat) (w : World) : Prop :=
  ∀ (W : World) (x : Int), w.grownBy W (some B) → Calls Tryz.prog g (#[.int .i64 x] ++ lb) W fun e w' => e = .returned (.bool (q x)) ∧ ∃ m, w' = W.drewN m
theorem AsksBut.at {g : Nat} {lb : Array Value} {q : Int → Bool} {B : Nat} {w : World} (h : AsksBut g lb q B w) (W : World) (x : Int) (b : Bool) (hb : q x = b) (hB : w.grownBy W (some B)) :
    Calls Tryz.prog g (#[.int .i64 x] ++ lb) W fun e w' => e = .returned (.bool b) ∧ ∃ m, w' = W.drewN m := by
  subst hb; exact h W x hB

theorem but_drewN {w W : World} {b : Option Nat} (h : w.grownBy W b) (n : Nat) : w.grownBy (W.drewN n) b := ⟨h.os, h.tape, h.output, h.size, h.block⟩

set_option maxRecDepth 100000 in
set_option maxHeartbeats 2000000 in
/-- slices.IndexFunc: the first number that meets the predicate. -/
theorem indexFirst_any (g : Nat) (lb : Array Value) (q : Int → Bool) (B c : Nat) (zs : List Int) (w : World) (eg : ∀ args w, (callFunc g args).run Tryz.prog w = .ok (.enter g args) w)
    (hp : AsksBut g lb q B w) (hlen : zs.length ≤ 1099511627776) (h : IntsAt w B (some ⟨B, 0, none⟩) zs) :
    Calls Tryz.prog 108 #[.slice (some ⟨B, 0, none⟩) zs.length c, .func (.func g) #[] lb] w fun e w' => ∃ k : Int, e = .returned (.int .i64 k) ∧ (∃ m, w' = w.drewN m) ∧
      ((k = -1 ∧ ∀ j, j < zs.length → q (zs.getD j 0) = false) ∨ ∃ i : Nat, k = (i : Int) ∧ i < zs.length ∧ q (zs.getD i 0) = true ∧ ∀ j, j < i → q (zs.getD j 0) = false) := by
  have HP := Lib.hid hp
  have H := Lib.hid h
  clear hp h
  go_enter Tryz.func108, Tryz.ntmps108
  go_wp2
  go_loopw [8] (fun i wr => ∃ k n : Nat, k ≤ zs.length ∧ i = .int .i64 (k : Int) ∧ (∀ j, j < k → q (zs.getD j 0) = false) ∧ wr = w.drewN n) (fun i _ => zs.length - (intOf i).toNat)
  case atStart => exact ⟨0, 0, Nat.zero_le _, rfl, fun j hj => absurd hj (Nat.not_lt_zero _), rfl⟩
  case round =>
    obtain ⟨k, n, hk, rfl, hq, rfl⟩ := hrel
    have HQ := Lib.hid hq
    clear hq
    have hB : w.grownBy (w.drewN n) (some B) := but_drewN (Mem.but_refl _ _) n
    by_cases hlt : k < zs.length
    · obtain ⟨_, _, hc, _⟩ := H.out k hlt
      obtain ⟨x, hx⟩ : ∃ x, zs.getD k 0 = x := ⟨_, rfl⟩
      rw [hx] at hc
      have HX := Lib.hid hx
      clear hx
      cases hqx : q x with
      | true =>
        have HQX := Lib.hid hqx
        clear hqx
        go_wp2_with (go_at_fn g; refine (HP.out.at _ x true HQX.out hB).mono ?_; rintro e w' ⟨rfl, m, rfl⟩)
        go_ret
        exact ⟨(k : Int), rfl, ⟨_, rfl⟩, Or.inr ⟨k, rfl, hlt, by rw [HX.out]; exact HQX.out, HQ.out⟩⟩
      | false =>
        have HQX := Lib.hid hqx
        clear hqx
        go_wp2_with (go_at_fn g; refine (HP.out.at _ x false HQX.out hB).mono ?_; rintro e w' ⟨rfl, m, rfl⟩)
        go_roundw
        case rel =>
          refine ⟨k + 1, _, by omega, by go_num, fun j hj => ?_, rfl⟩
          by_cases e : j = k
          · subst e; rw [HX.out]; exact HQX.out
          · exact HQ.out j (by omega)
        case measure => simp [intOf]; omega
    · have E := Lib.hid (show k = zs.length by omega)
      go_wp2
      go_ret
      exact ⟨-1, rfl, ⟨_, rfl⟩, Or.inl ⟨rfl, fun j hj => HQ.out j (by rw [E.out]; exact hj)⟩⟩

/-- Those of the first j numbers that stay. -/
def stay (q : Int → Bool) (zs : List Int) (j : Nat) : List Int := (zs.take j).filter fun x => !q x
theorem stay_hit (q : Int → Bool) (zs : List Int) (j : Nat) (h : j < zs.length) (hq : q (zs.getD j 0) = false) : stay q zs (j + 1) = stay q zs j ++ [zs.getD j 0] := by
  unfold stay; rw [take_nx zs j h, List.filter_append]; generalize zs.getD j 0 = x at hq ⊢; simp [hq]
theorem stay_miss (q : Int → Bool) (zs : List Int) (j : Nat) (h : j < zs.length) (hq : q (zs.getD j 0) = true) : stay q zs (j + 1) = stay q zs j := by
  unfold stay; rw [take_nx zs j h, List.filter_append]; generalize zs.getD j 0 = x at hq ⊢; simp [hq]
theorem stay_le (q : Int → Bool) (zs : List Int) (j : Nat) : (stay q zs j).length ≤ j := by
  unfold stay
  refine Nat.le_trans (List.length_filter_le _ _) ?_
  rw [List.length_take]; omega
theorem stay_all (q : Int → Bool) (zs : List Int) : ∀ (j : Nat), j ≤ zs.length → (∀ i, i < j → q (zs.getD i 0) = false) → stay q zs j = zs.take j := by
  intro j hj h
  unfold stay
  rw [List.filter_eq_self]
  intro x hx
  obtain ⟨i, hi, rfl⟩ := List.mem_take_iff_getElem.1 hx
  have := h i (by omega)
  rw [List.getD, List.getElem?_eq_getElem (by omega)] at this
  simpa using this

theorem int_zero (w : World) : (zeroValue 3).run Tryz.prog w = .ok (.int .i64 0) w := by
  obtain ⟨i0, hi, hz0, _, _⟩ := info_parts info_int
  simp [zeroValue, typeInfo, hi, hz0]

theorem but_setCells {w : World} {B : Nat} : ∀ (vs : List Value) (o : Nat) (W : World), w.grownBy W (some B) → w.grownBy (W.setCells B o vs) (some B)
  | [], _, _, h => h
  | v :: r, o, W, h => but_setCells r (o + 1) _ (h.trans (Mem.but_setCell W B o v))

set_option maxRecDepth 100000 in
set_option maxHeartbeats 4000000 in
theorem deleteFunc_any (g : Nat) (lb : Array Value) (q : Int → Bool) (B c : Nat) (zs : List Int) (w : World) (eg : ∀ args w, (callFunc g args).run Tryz.prog w = .ok (.enter g args) w)
    (hp : AsksBut g lb q B w) (hcap : zs.length ≤ c) (hlen : zs.length ≤ 1099511627776) (h : IntsAt w B (some ⟨B, 0, none⟩) zs) :
    Calls Tryz.prog 88 #[.slice (some ⟨B, 0, none⟩) zs.length c, .func (.func g) #[] lb] w fun e w' =>
      e = .returned (.slice (some ⟨B, 0, none⟩) (zs.filter fun x => !q x).length c) ∧ IntsAt w' B (some ⟨B, 0, none⟩) (zs.filter fun x => !q x) ∧ w.grownBy w' (some B) := by
  have hix := indexFirst_any g lb q B c zs w eg hp hlen h
  have HIX := Lib.hid hix
  have HP := Lib.hid hp
  have H := Lib.hid h
  clear hix hp h
  have hst : stay q zs zs.length = zs.filter fun x => !q x := by unfold stay; rw [List.take_length]
  have HST := Lib.hid hst
  clear hst
  go_enter Tryz.func88, Tryz.ntmps88
  go_wp2_with fail
  refine HIX.out.mono ?_
  rintro e w1 ⟨k, rfl, ⟨m, rfl⟩, ⟨rfl, hall⟩ | ⟨i, rfl, hi, hqi, hall⟩⟩
  · have hs : (zs.filter fun x => !q x) = zs := by
      rw [← HST.out, stay_all q zs _ (Nat.le_refl _) hall, List.take_length]
    have HS := Lib.hid hs
    clear hall hs
    go_wp2
    go_ret
    rw [HS.out]
    exact ⟨rfl, H.out, but_drewN (Mem.but_refl _ _) m⟩
  · have hB := (H.out i hi).2.1
    have hst1 : stay q zs (i + 1) = zs.take i := by rw [stay_miss q zs i hi hqi, stay_all q zs i (by omega) hall]
    have HS1 := Lib.hid hst1
    have hg0 : w.grownBy (w.drewN m) (some B) := but_drewN (Mem.but_refl _ _) m
    have hlow0 : ∀ t, t < (zs.take i).length → (w.drewN m).cell? ⟨B, t, none⟩ = some (.int .i64 ((zs.take i).getD t 0)) := fun t ht => by
      rw [List.length_take] at ht
      rw [List.getD, List.getElem?_take_of_lt (by omega)]
      exact (H.out t (by omega)).2.2.1
    have hl1 : (zs.take i).length = i := by rw [List.length_take]; omega
    have HG0 := Lib.hid hg0
    have HLOW0 := Lib.hid hlow0
    have HL1 := Lib.hid hl1
    have hne : ((i : Int) == -1) = false := beq_eq_false_iff_ne.2 (by omega)
    clear hall hqi hst1 hg0 hlow0 hl1
    go_wp2
    go_loopw [5, 6] (fun iv jv wr => ∃ j : Nat, i < j ∧ j ≤ zs.length ∧ iv = .int .i64 ((stay q zs j).length : Int) ∧ jv = .int .i64 (j : Int) ∧ (stay q zs j).length < j ∧ w.grownBy wr (some B) ∧
        (∀ t, t < (stay q zs j).length → wr.cell? ⟨B, t, none⟩ = some (.int .i64 ((stay q zs j).getD t 0))) ∧ (∀ t, j ≤ t → t < zs.length → wr.cell? ⟨B, t, none⟩ = some (.int .i64 (zs.getD t 0))) ∧
        (∀ t, t < zs.length → ∃ x, wr.cell? ⟨B, t, none⟩ = some x) ∧ (∀ t, t < zs.length → wr.frozen? ⟨B, t, none⟩ = false)) (fun _ jv _ => zs.length - (intOf jv).toNat)
    case atStart =>
      exact ⟨i + 1, by omega, by omega, by rw [HS1.out, HL1.out], by go_num, by rw [HS1.out, HL1.out]; omega, HG0.out, by rw [HS1.out]; exact HLOW0.out,
        fun t _ ht => (H.out t ht).2.2.1, fun t ht => ⟨_, (H.out t ht).2.2.1⟩, fun t ht => (H.out t ht).2.2.2⟩
    case round =>
      clear HS1 HG0 HLOW0 HL1 hne
      obtain ⟨j, hij, hj, rfl, rfl, hlt1, hg, hlow, hhigh, hany, hfr⟩ := hrel
      have HG := Lib.hid hg
      have HLOW := Lib.hid hlow
      have HHIGH := Lib.hid hhigh
      have HANY := Lib.hid hany
      have HFR := Lib.hid hfr
      clear hg hlow hhigh hany hfr
      obtain ⟨s, hs⟩ : ∃ s, (stay q zs j).length = s := ⟨_, rfl⟩
      rw [hs] at hlt1 ⊢
      have HS := Lib.hid hs
      clear hs
      by_cases hlt : j < zs.length
      · have hc := HHIGH.out j (Nat.le_refl _) hlt
        obtain ⟨x, hx⟩ : ∃ x, zs.getD j 0 = x := ⟨_, rfl⟩
        rw [hx] at hc
        have HX := Lib.hid hx
        clear hx
        cases hqx : q x with
        | true =>
          have HQX := Lib.hid hqx
          have HM := Lib.hid (stay_miss q zs j hlt (by rw [HX.out]; exact hqx))
          clear hqx
          go_wp2_with (go_at_fn g; refine (HP.out.at _ x true HQX.out HG.out).mono ?_; rintro e w' ⟨rfl, m2, rfl⟩)
          go_roundw
          case rel => exact ⟨j + 1, by omega, by omega, by rw [HM.out, HS.out], by go_num, by rw [HM.out, HS.out]; omega, but_drewN HG.out m2, by rw [HM.out]; exact HLOW.out, fun t h1 h2 => HHIGH.out t (by omega) h2, HANY.out, HFR.out⟩
          case measure => simp [intOf]; omega
        | false =>
          have HQX := Lib.hid hqx
          have HM := Lib.hid (stay_hit q zs j hlt (by rw [HX.out]; exact hqx))
          obtain ⟨y, hy⟩ := HANY.out s (by omega)
          have hz := HFR.out s (by omega)
          clear hqx
          go_wp2_with (go_at_fn g; refine (HP.out.at _ x false HQX.out HG.out).mono ?_; rintro e w' ⟨rfl, m2, rfl⟩)
          go_roundw
          case rel =>
            refine ⟨j + 1, by omega, by omega, by rw [HM.out, List.length_append, HS.out]; go_num, by go_num, by rw [HM.out, List.length_append, HS.out]; simp; omega, (but_drewN HG.out m2).trans (Mem.but_setCell _ _ _ _), fun t ht => ?_, fun t h1 h2 => ?_, fun t ht => ?_, fun t ht => ?_⟩
            · rw [HM.out] at ht ⊢
              rw [List.length_append, HS.out] at ht
              simp only [List.length_cons, List.length_nil] at ht
              by_cases e : t = s
              · subst e
                rw [HX.out, World.cell?_setCell_same (wr.drewN m2) _ _ hy]
                congr 2
                rw [List.getD, List.getElem?_append_right (by rw [HS.out]; exact Nat.le_refl _), HS.out, Nat.sub_self]; rfl
              · rw [World.cell?_setCell_other _ _ _ _ (fun h => e (by injection h with _ h2; omega))]
                rw [List.getD, List.getElem?_append_left (by rw [HS.out]; omega)]
                exact HLOW.out t (by rw [HS.out]; omega)
            · rw [World.cell?_setCell_other _ _ _ _ (fun h => by injection h with _ h2; omega)]
              exact HHIGH.out t (by omega) h2
            · by_cases e : t = s
              · subst e; exact ⟨_, World.cell?_setCell_same _ _ _ hy⟩
              · rw [World.cell?_setCell_other _ _ _ _ (fun h => e (by injection h with _ h2; omega))]; exact HANY.out t ht
            · rw [World.frozen?_setCell]; exact HFR.out t ht
          case measure => simp [intOf]; omega
      · have E := Lib.hid (show j = zs.length by omega)
        have hslt : s < zs.length := by rw [← E.out]; exact hlt1
        have hsc : s ≤ c := by omega
        have hcl : ∀ ty, (Builtin.clear_ #[24] ty #[.slice (some ⟨B, s, none⟩) (zs.length - s) (c - s)]).run Tryz.prog wr = .ok (.tuple #[]) (wr.setCells B s (List.replicate (zs.length - s) (.int .i64 0))) := fun ty =>
          Lib.run_clear_slice wr _ 3 ty _ (by kernel_rfl) int_zero rfl rfl B s _ _ (by omega) (fun t ht => by obtain ⟨x, hx⟩ := HANY.out (s + t) (by omega); rw [hx]; rfl) (fun t ht => HFR.out (s + t) (by omega))
        have hsz : (stay q zs zs.length).length = s := by have h := HS.out; rw [E.out] at h; exact h
        have HSZ := Lib.hid hsz
        have HLE := Lib.hid hslt
        clear hsz
        go_wp2
        go_ret
        rw [← HST.out, HSZ.out]
        refine ⟨rfl, fun t ht => ?_, but_setCells _ _ _ HG.out⟩
        rw [HSZ.out] at ht
        refine ⟨rfl, by have h := (but_setCells (List.replicate (zs.length - s) (Value.int .i64 0)) s _ HG.out).size; omega, ?_, ?_⟩
        · rw [World.cell?_setCells_out B _ _ _ _ (fun _ _ => Or.inl ht)]
          have h := HLOW.out t (by rw [HS.out]; exact ht)
          rw [E.out] at h
          exact h
        · rw [World.frozen?_setCells]; exact HFR.out t (by rw [E.out] at hlt1; omega)

set_option maxRecDepth 100000 in
set_option maxHeartbeats 4000000 in
theorem deleteFunc_nil (g : Nat) (lb : Array Value) (a : Option Addr) (c : Nat) (w : World) (eg : ∀ args w, (callFunc g args).run Tryz.prog w = .ok (.enter g args) w) :
    Calls Tryz.prog 88 #[.slice a 0 c, .func (.func g) #[] lb] w fun e w' => e = .returned (.slice a 0 c) ∧ Below w.heap.size w w' := by
  have hix := indexFunc_any g lb (fun _ => false) a c [] w eg (fun W j hj => absurd hj (Nat.not_lt_zero _)) (by simp) (Ints.nil w a)
  have HIX := Lib.hid hix
  clear hix eg
  go_enter Tryz.func88, Tryz.ntmps88
  go_wp2_with fail
  refine HIX.out.mono ?_
  rintro e w1 ⟨k, rfl, h1, _, hk, m, rfl⟩
  have h2 : k = -1 := by
    have : decide (0 ≤ k) = false := hk
    rw [decide_eq_false_iff_not] at this
    omega
  subst h2
  clear hk
  go_wp2
  go_ret
  exact ⟨rfl, Mem.below_drewN w m⟩

/-! ### impl.FacesOfSize -/

theorem sized_stay (k : Int) (L : List Int) (h : allOk L = true) : (L.filter fun x => !(sizeZ x != k)) = sized k L := by
  unfold sized
  apply List.filter_congr
  intro x hx
  unfold allOk at h
  have := List.all_eq_true.1 h x hx
  obtain ⟨s, rfl, hs⟩ := okZ_cast x this
  rw [sizeZ_nat s hs]
  simp [bne]

set_option maxRecDepth 100000 in
set_option maxHeartbeats 2000000 in
theorem sized1_asks (k : Int) (b B : Nat) (w : World) (hb : b < w.heap.size) (hne : b ≠ B) (hc : w.cell? ⟨b, 0, none⟩ = some (.int .i64 k)) :
    AsksBut 89 #[.pointer (some ⟨b, 0, none⟩)] (fun x => sizeZ x != k) B w := by
  intro W x hB
  have d1 : W.cell? ⟨b, 0, none⟩ = some (.int .i64 k) := by
    rw [World.cell?_of_block (w := w) (w' := W) (a := ⟨b, 0, none⟩) (hB.block b hb (by simpa using hne))]; exact hc
  show Calls Tryz.prog 89 #[.int .i64 x, .pointer (some ⟨b, 0, none⟩)] W _
  clear hc hB hb hne
  go_enter Tryz.func89, Tryz.ntmps89
  go_wp2_with fail
  go_quiet ((go_at_call 74; exact Calls.quiet_of_same ((implSizeOf_any x _).mono fun _ _ ⟨he, hw⟩ => ⟨he, hw.symm⟩)))
  go_wp2
  go_ret
  exact ⟨rfl, _, rfl⟩

set_option maxRecDepth 100000 in
set_option maxHeartbeats 4000000 in
theorem implSized_any (n : Int) (a : Option Addr) (c : Nat) (xs : List Int) (hcap : xs.length ≤ c) (hlen : xs.length ≤ 1099511627776) (q : Int) (w : World) (h : Ints w a xs) :
    Calls Tryz.prog 63 #[cx n (.slice a xs.length c), .int .i64 q] w fun e w' => ∃ v, e = .returned v ∧ HasInts w' w.heap.size v (sized q (faces n xs)) ∧ Below w.heap.size w w' := by
  have hb0 : Below w.heap.size w ((w.alloc (Obj.cells #[Value.int IntKind.i64 n, Value.slice a xs.length c] 26)).alloc (Obj.cells #[Value.int IntKind.i64 q] 3)) := ((Below.refl _ _).alloc (Nat.le_refl _) _).alloc (by simp) _
  have htwo := (Two.new w (.int .i64 n) (.slice a xs.length c) 26).alloc (Obj.cells #[Value.int IntKind.i64 q] 3)
  have hbox : ((w.alloc (Obj.cells #[Value.int IntKind.i64 n, Value.slice a xs.length c] 26)).alloc (Obj.cells #[Value.int IntKind.i64 q] 3)).cell? ⟨w.heap.size + 1, 0, none⟩ = some (.int .i64 q) := by simp
  have H := Lib.hid (h.keeps hb0)
  have HB0 := Lib.hid hb0
  have HT := Lib.hid htwo
  have HX := Lib.hid hbox
  clear h hb0 htwo hbox
  have hle := faces_le n xs
  have HOK := Lib.hid (faces_ok n xs)
  obtain ⟨L, hL⟩ : ∃ L, faces n xs = L := ⟨_, rfl⟩
  have HLL := Lib.hid hL
  rw [hL] at hle HOK
  clear hL
  have eg : ∀ args w, (callFunc 89 args).run Tryz.prog w = .ok (.enter 89 args) w := enters_of Tryz.func89 (by kernel_rfl) rfl
  have EG := Lib.hid eg
  clear eg
  go_enter Tryz.func63, Tryz.ntmps63
  obtain ⟨t0, t1, t2, _, _⟩ := HT.out
  go_wp2_with fail
  refine (implFaces_any n _ _ xs hcap hlen _ H.out).mono ?_
  rw [HLL.out]
  rintro e w1 ⟨v1, rfl, hO1, hb1⟩
  obtain ⟨a1, d1, g1, rfl, hcd, hg1, hr1, hd⟩ := OwnInts.ata hO1 hb1.size
  have HB1 : Hid (Below w.heap.size w w1) := HB0.out.trans (hb1.mono HB0.out.size)
  have HR1 := Lib.hid hr1
  have hx1 : w1.cell? ⟨w.heap.size + 1, 0, none⟩ = some (.int .i64 q) := (hb1.cell (p := ⟨w.heap.size + 1, 0, none⟩) (by simp)).trans HX.out
  have HX1 := Lib.hid hx1
  have hz1 := hb1.size
  simp only [World.size_alloc] at hg1 hz1
  clear hO1 hr1 hb1 hx1 t0 t1 t2
  have HF : Hid ((L.filter fun x => !(sizeZ x != q)) = sized q L) := by
    have : (L.filter fun x => !(sizeZ x != q)) = sized q L := sized_stay q L HOK.out
    exact this
  by_cases h0 : L.length = 0
  · have hF : sized q L = [] := by rw [List.eq_nil_of_length_eq_zero h0]; rfl
    have HN := Lib.hid hF
    clear hF
    go_wp2_with fail
    refine (deleteFunc_nil 89 _ a1 d1 w1 EG.out).mono ?_
    rintro e w2 ⟨rfl, hb2⟩
    have HB2 : Hid (Below w.heap.size w w2) := HB1.out.trans (hb2.mono HB1.out.size)
    clear hb2
    go_wp2
    go_ret
    exact ⟨_, rfl, by rw [HLL.out, HN.out]; exact ⟨a1, d1, w2.heap.size + 5, rfl, Nat.zero_le _, by have := HB2.out.size; omega, fun j hj => absurd hj (Nat.not_lt_zero _), Or.inr (Nat.le_refl _)⟩, HB2.out⟩
  · obtain ⟨rfl, hgl, _, _⟩ := HR1.out 0 (by omega)
    go_wp2_with fail
    refine (deleteFunc_any 89 _ (fun x => sizeZ x != q) g1 d1 L _ EG.out (sized1_asks q (w.heap.size + 1) g1 w1 (by omega) (by omega) HX1.out) hcd (by omega) HR1.out).mono ?_
    rw [HF.out]
    rintro e w2 ⟨rfl, hr2, hg2⟩
    have HR2 := Lib.hid hr2
    have HG2 := Lib.hid hg2
    clear hr2 hg2
    go_wp2
    go_ret
    have hsl := sized_length q L
    exact ⟨_, rfl, by rw [HLL.out]; exact ⟨_, d1, g1, rfl, by omega, by omega, HR2.out, Or.inl (by have := HG2.out.size; omega)⟩, HB1.out.trans (Mem.below_of_but HG2.out (by omega) (by omega))⟩

end Go.Proofs.YtenpcjmhlnalcaaGreat
