/-
  WALKS: impl.MaximalSets and impl.MinimalSets.
-/
import Derived.Test.YtamoejjkaebhkaaWOrder
import Derived.Test.YtamoejjkaebhkaaWContains
namespace Go.Proofs.Ytamoejjkaebhkaa
open Go.RowKit
open Sets

/-- What is asked of the comparison: at two sets it answers r and leaves all as it was. -/
def Beat (g : Nat) (lb : Array Value) (r : Nat → Nat → Bool) : Prop :=
  ∀ (W : World) (s t : Nat), s < 64 → t < 64 → Calls Try.prog g (#[.int .i64 (s : Int), .int .i64 (t : Int)] ++ lb) W fun e w' => e = .returned (.bool (r s t)) ∧ W = w'
/-- y is another one and beats x. -/
def beatsQ (r : Nat → Nat → Bool) (x y : Int) : Bool := y != x && r x.toNat y.toNat
theorem unbeaten_any (r : Nat → Nat → Bool) (all : List Int) (x : Int) : unbeaten r all x = !(all.any (beatsQ r x)) := by
  unfold unbeaten beatsQ
  rw [List.not_any_eq_all_not]
/-- All of the list are sets. -/
def Sets64 (L : List Int) : Prop := ∀ j, j < L.length → ∃ s : Nat, L.getD j 0 = (s : Int) ∧ s < 64
theorem order_sets (xs : List Int) : Sets64 (order xs) := fun j hj => by
  have hm : (order xs).getD j 0 ∈ order xs := by rw [List.getD, List.getElem?_eq_getElem hj]; exact List.getElem_mem hj
  obtain ⟨s, h1, h2, _⟩ := order_mem xs _ hm
  exact ⟨s, h1, h2⟩

set_option maxRecDepth 100000 in
set_option maxHeartbeats 2000000 in
theorem unbeaten1_asks (g : Nat) (lb : Array Value) (r : Nat → Nat → Bool) (hr : Beat g lb r) (eg : ∀ args w, (callFunc g args).run Try.prog w = .ok (.enter g args) w) (L : List Int) (hL : Sets64 L) (s B1 B2 : Nat) (hs : s < 64) (w : World) (h1 : B1 < w.heap.size) (h2 : B2 < w.heap.size)
    (hc1 : w.cell? ⟨B1, 0, none⟩ = some (.int .i64 (s : Int))) (hc2 : w.cell? ⟨B2, 0, none⟩ = some (.func (.func g) #[] lb)) :
    Asks 85 #[.pointer (some ⟨B1, 0, none⟩), .pointer (some ⟨B2, 0, none⟩)] (beatsQ r (s : Int)) L w := by
  intro W j hj hb
  have d1 : W.cell? ⟨B1, 0, none⟩ = some (.int .i64 (s : Int)) := (hb.cell (p := ⟨B1, 0, none⟩) h1).trans hc1
  have d2 : W.cell? ⟨B2, 0, none⟩ = some (.func (.func g) #[] lb) := (hb.cell (p := ⟨B2, 0, none⟩) h2).trans hc2
  obtain ⟨t, ht, ht64⟩ := hL j hj
  rw [ht]
  show Calls Try.prog 85 #[.int .i64 (t : Int), .pointer (some ⟨B1, 0, none⟩), .pointer (some ⟨B2, 0, none⟩)] W _
  clear hc1 hc2 hb ht hL hj
  by_cases e : t = s
  · have hq : ((t : Int) != (s : Int)) = false := by simp; omega
    have hb : beatsQ r (s : Int) (t : Int) = false := by unfold beatsQ; rw [hq]; rfl
    rw [hb]
    clear hb e
    go_enter Try.func85, Try.ntmps85
    go_wp2
    go_ret
    exact ⟨rfl, 0, rfl⟩
  · have hq : ((t : Int) != (s : Int)) = true := by simp; omega
    have hb : beatsQ r (s : Int) (t : Int) = r s t := by unfold beatsQ; rw [hq]; rfl
    rw [hb]
    have hcall := hr W s t hs ht64
    clear hb e hr
    generalize r s t = b at *
    have HC := Lib.hid hcall
    clear hcall
    go_enter Try.func85, Try.ntmps85
    go_wp2_with (go_at_fn g; refine HC.out.mono ?_; rintro e w' ⟨rfl, rfl⟩)
    go_ret
    exact ⟨rfl, 0, rfl⟩

theorem contains_bel (g : Nat) (lb : Array Value) (q : Int → Bool) (b : Bool) (a : Option Addr) (c : Nat) (zs : List Int) (hb : zs.any q = b) (w : World) (eg : ∀ args w, (callFunc g args).run Try.prog w = .ok (.enter g args) w)
    (hp : Asks g lb q zs w) (hlen : zs.length ≤ 1099511627776) (h : Ints w a zs) :
    Calls Try.prog 71 #[.slice a zs.length c, .func (.func g) #[] lb] w fun e w' => e = .returned (.bool b) ∧ Below w.heap.size w w' :=
  (containsFunc_any g lb q b a c zs hb w eg hp hlen h).mono fun e w' ⟨he, m, hw⟩ => ⟨he, by subst hw; exact Mem.below_drewN w m⟩

set_option maxRecDepth 100000 in
set_option maxHeartbeats 4000000 in
theorem setsUnbeaten_any (g : Nat) (lb : Array Value) (r : Nat → Nat → Bool) (hr : Beat g lb r) (eg : ∀ args w, (callFunc g args).run Try.prog w = .ok (.enter g args) w)
    (a : Option Addr) (c : Nat) (xs : List Int) (hlen : xs.length ≤ 1099511627776) (w : World) (h : Ints w a xs) :
    Calls Try.prog 74 #[.slice a xs.length c, .func (.func g) #[] lb] w fun e w' => ∃ v, e = .returned v ∧ OwnInts w' w.heap.size v (best r (order xs)) ∧ Below w.heap.size w w' := by
  obtain ⟨i0, hi, hz0, hz1, hz2⟩ := info_parts info_int
  have HR := Lib.hid hr
  have EG := Lib.hid eg
  have H := Lib.hid h
  clear hr eg h
  have eg1 : ∀ args w, (callFunc 85 args).run Try.prog w = .ok (.enter 85 args) w := enters_of Try.func85 (by kernel_rfl) rfl
  have EG1 := Lib.hid eg1
  clear eg1
  have hL := order_sets xs
  have hLn := order_length xs
  have HL := Lib.hid hL
  clear hL
  go_enter Try.func74, Try.ntmps74
  go_wp2_with fail
  refine (implOrder_any _ _ xs hlen _ (H.out.keeps ((Below.refl _ _).alloc (Nat.le_refl _) _))).mono ?_
  rintro e w1 ⟨v, rfl, hO, hb1⟩
  generalize hLe : order xs = L at *
  have HLE := Lib.hid hLe
  clear hLe
  obtain ⟨a1, c1, g1, rfl, hg1, hr1⟩ := hO.at
  have hsz1 : w.heap.size < w1.heap.size := by have := hb1.size; simp at this; omega
  have F1 : Hid (w1.cell? ⟨w.heap.size, 0, none⟩ = some (.func (.func g) #[] lb)) := by
    have := hb1.cell (p := ⟨w.heap.size, 0, none⟩) (by simp)
    rw [World.cell?_alloc_new] at this
    exact this
  have R1 := Lib.hid hr1
  have B1 : Hid (Below w.heap.size w w1) := ((Below.refl _ _).alloc (Nat.le_refl _) _).trans (hb1.mono (by simp))
  clear hO hr1 hb1 hg1
  go_wp2
  go_loopw [6, 13] (fun v i wr => ∃ k : Nat, k ≤ L.length ∧ i = .int .i64 (k : Int) ∧ OwnInts wr w1.heap.size v (kept r L k) ∧ Below w1.heap.size w1 wr) (fun _ i _ => L.length - (intOf i).toNat)
  case atStart => exact ⟨0, Nat.zero_le _, rfl, OwnInts.nil _ _, Below.refl _ _⟩
  case round =>
    obtain ⟨k, hk, rfl, hO, hB⟩ := hrel
    unfold OwnInts at hO
    have HO := Lib.hid hO
    clear hO
    have hsz := hB.size
    have hl := kept_length r L k
    by_cases hlt : k < L.length
    · obtain ⟨s, hs, hs64⟩ := HL.out k hlt
      have HS := Lib.hid hs
      obtain ⟨ea, hlt1, hc1, _⟩ := R1.out k hlt
      rw [hs] at hc1
      have EA := Lib.hid ea
      have g0 : wr.cell? ⟨g1, k, none⟩ = some (.int .i64 (s : Int)) := by rw [hB.cell (p := ⟨g1, k, none⟩) hlt1]; exact hc1
      have g2 : wr.cell? ⟨w.heap.size, 0, none⟩ = some (.func (.func g) #[] lb) := by rw [hB.cell (p := ⟨w.heap.size, 0, none⟩) hsz1]; exact F1.out
      obtain rfl := ea
      clear hs hc1
      cases hany : L.any (beatsQ r (s : Int)) with
      | true =>
        have HA := Lib.hid hany
        have HU : Hid (unbeaten r L (L.getD k 0) = false) := by
          have : unbeaten r L (L.getD k 0) = false := by rw [HS.out, unbeaten_any, HA.out]; rfl
          exact this
        clear hany
        go_wp2_with fail
        refine (contains_bel _ _ (beatsQ r (s : Int)) true _ _ L HA.out (wr.alloc (.cells #[.int .i64 (s : Int)] 3)) EG1.out (unbeaten1_asks g lb r HR.out EG.out L HL.out s wr.heap.size w.heap.size hs64 _ (by simp) (by simp; omega) (by exact World.cell?_alloc_new wr _ _ 0) (by rw [World.cell?_alloc_lt _ _ _ (by exact Nat.lt_of_lt_of_le hsz1 hsz)]; exact g2)) (by omega) ((R1.out.ints.keeps hB).keeps ((Below.refl _ _).alloc (Nat.le_refl _) _))).mono ?_
        rintro e w2 ⟨rfl, hb2⟩
        have hB2 : Below w1.heap.size w1 w2 := (hB.alloc hsz _).trans (hb2.mono (by simp; omega))
        have HO2 : Hid (OwnInts w2 w1.heap.size u6 (kept r L k)) := Lib.hid (OwnInts.keeps (OwnInts.alloc HO.out _) hb2)
        clear hb2
        go_wp2
        go_roundw
        case rel => exact ⟨k + 1, by omega, by go_num, by rw [kept_miss r L k hlt HU.out]; exact HO2.out, hB2⟩
        case measure => simp [intOf]; omega
      | false =>
        have HA := Lib.hid hany
        have HU : Hid (unbeaten r L (L.getD k 0) = true) := by
          have : unbeaten r L (L.getD k 0) = true := by rw [HS.out, unbeaten_any, HA.out]; rfl
          exact this
        clear hany
        go_wp2_with fail
        refine (contains_bel _ _ (beatsQ r (s : Int)) false _ _ L HA.out (wr.alloc (.cells #[.int .i64 (s : Int)] 3)) EG1.out (unbeaten1_asks g lb r HR.out EG.out L HL.out s wr.heap.size w.heap.size hs64 _ (by simp) (by simp; omega) (by exact World.cell?_alloc_new wr _ _ 0) (by rw [World.cell?_alloc_lt _ _ _ (by exact Nat.lt_of_lt_of_le hsz1 hsz)]; exact g2)) (by omega) ((R1.out.ints.keeps hB).keeps ((Below.refl _ _).alloc (Nat.le_refl _) _))).mono ?_
        rintro e w2 ⟨rfl, hb2⟩
        have hB2 : Below w1.heap.size w1 w2 := (hB.alloc hsz _).trans (hb2.mono (by simp; omega))
        have HO2 : Hid (OwnInts w2 w1.heap.size u6 (kept r L k)) := Lib.hid (OwnInts.keeps (OwnInts.alloc HO.out _) hb2)
        have g3 : w2.cell? ⟨wr.heap.size, 0, none⟩ = some (.int .i64 (s : Int)) := by
          rw [hb2.cell (p := ⟨wr.heap.size, 0, none⟩) (by simp)]; exact World.cell?_alloc_new wr _ _ 0
        clear hb2 HO
        have HO3 : Hid (w2.ownsRow w1.heap.size 3 1 u6 (kept r L k).length ((kept r L k).map (Value.int .i64))) := HO2
        have hsz2 := hB2.size
        go_wp2_with (at_builtin; refine wpList_append_own _ rfl _ _ 26 rfl w1.heap.size 3 i0 (.int .i64 0) 1 8 Try.underlying26 hi hz0 hz1 hz2 rfl (by decide) _ _ _ rfl (HO3.out.alloc _) ⟨w2.heap.size, 0, none⟩ 1 1 [.int .i64 (s : Int)] rfl rfl ?c1 ?c2 ?c3 ?c4 ?c5 ?_)
        case c1 => intro j u hj; exact Mem.cell_new w2 _ _ j u hj
        case c2 => intro u hu; simp at hu; subst hu; rfl
        case c3 => unfold maxLen; omega
        case c4 => omega
        case c5 => simp; omega
        intro v' w3 hown1 hgrow _
        have hB3 : Below w1.heap.size w1 w3 := (hB2.alloc hsz2 _).grown hgrow (by simp; omega) (fun g hg => (HO3.out.lt g hg).1)
        have H1 := Lib.hid hown1
        clear hown1 hgrow
        go_wp2
        go_roundw
        case rel => exact ⟨k + 1, by omega, by go_num, by rw [kept_hit r L k hlt HU.out, HS.out]; exact OwnInts.next H1.out, hB3⟩
        case measure => simp [intOf]; omega
    · have E := Lib.hid (show k = L.length by omega)
      go_wp2
      go_ret
      refine ⟨_, rfl, ?_, B1.out.trans (hB.mono (by omega))⟩
      have h2 := HO.out
      rw [E.out, kept_end] at h2
      rw [HLE.out]
      exact OwnInts.lower (base := w1.heap.size) h2 (by omega)

theorem isSubset_beat : Beat 75 #[] sub := fun W s t hs ht => isSubset_any s t hs ht W

set_option maxRecDepth 100000 in
theorem implMaximal_any (a : Option Addr) (c : Nat) (xs : List Int) (hlen : xs.length ≤ 1099511627776) (w : World) (h : Ints w a xs) :
    Calls Try.prog 58 #[.slice a xs.length c] w fun e w' => ∃ v, e = .returned v ∧ OwnInts w' w.heap.size v (maximal xs) ∧ Below w.heap.size w w' := by
  have hc := setsUnbeaten_any _ _ _ isSubset_beat (enters_of Try.func75 (by kernel_rfl) rfl) a c xs hlen w h
  have HC := Lib.hid hc
  clear hc h
  go_enter Try.func58, Try.ntmps58
  go_wp2_with fail
  refine HC.out.mono ?_
  rintro e w1 ⟨v, rfl, hO, hb1⟩
  have HO := Lib.hid hO
  clear hO
  go_wp2
  go_ret
  exact ⟨v, rfl, HO.out, hb1⟩

end Go.Proofs.Ytamoejjkaebhkaa
