/-
  TEXTS of one claim, put together: Fill, WNamSA, WNamSB.
-/
import Derived.Test.YtbkkdgmiokdbmaaGreatJg2
import Derived.Test.YtbkkdgmiokdbmaaGreatJg21
import Derived.Deep.DeepCutAuto
import Derived.Test.YtbkkdgmiokdbmaaGreatJg6
/-! MEMORY: a box of two cells that is made empty and filled later. -/

namespace Go.Proofs.YtbkkdgmiokdbmaaGreat
open Go.RowKit

theorem Two.set0 {w : World} {b : Nat} {x y : Value} (h : Two w b x y) (z : Value) : Two (w.setCell ⟨b, 0, none⟩ z) b z y := by
  obtain ⟨h1, h2, h3, h4, h5⟩ := h
  refine ⟨by simp [World.setCell]; exact h1, World.cell?_setCell_same _ _ _ h2, ?_, by rw [World.frozen?_setCell]; exact h4, by rw [World.frozen?_setCell]; exact h5⟩
  rw [World.cell?_setCell_other _ _ _ _ (by simp)]; exact h3
theorem Two.fill {w : World} {b : Nat} {x y : Value} (h : Two w b x y) (x' y' : Value) : Two ((w.setCell ⟨b, 0, none⟩ x').setCell ⟨b, 1, none⟩ y') b x' y' := (h.set0 x').set1 y'
theorem IntsAt.fill {w : World} {g b : Nat} {a : Option Addr} {xs : List Int} (h : IntsAt w g a xs) (hne : g ≠ b) (x y : Value) : IntsAt ((w.setCell ⟨b, 0, none⟩ x).setCell ⟨b, 1, none⟩ y) g a xs := (h.set hne 0 x).set hne 1 y
theorem Two.z1 {w : World} {b : Nat} {x y : Value} (h : Two w b x y) : w.cell? ⟨b, 0, none⟩ = some x := h.2.1
theorem Two.z2 {w : World} {b : Nat} {x y : Value} (h : Two w b x y) : w.cell? ⟨b, 1, none⟩ = some y := h.2.2.1
theorem Two.z3 {w : World} {b : Nat} {x y : Value} (h : Two w b x y) : w.frozen? ⟨b, 0, none⟩ = false := h.2.2.2.1
theorem Two.z4 {w : World} {b : Nat} {x y : Value} (h : Two w b x y) : w.frozen? ⟨b, 1, none⟩ = false := h.2.2.2.2
theorem some_no {a : Addr} {c : Nat} (h : some a = none) : c = 0 := nomatch h
theorem size_fill (w : World) (p q : Addr) (x y : Value) : ((w.setCell p x).setCell q y).heap.size = w.heap.size := by simp [World.setCell]

end Go.Proofs.YtbkkdgmiokdbmaaGreat

/-! WALKS: spec's chapter 9: CanonicalComplex. -/

namespace Go.Proofs.YtbkkdgmiokdbmaaGreat
open Go.RowKit
open Sets Nam

/-- CanonicalComplex. -/
def canonCO (n : Int) (xs : List Int) : Option (Int × List Int) := if isC n xs = true then some (n, canonL n.toNat xs) else none
theorem canonCO_no {n : Int} {xs : List Int} (h : isC n xs = false) : canonCO n xs = none := by unfold canonCO; rw [if_neg (by rw [h]; simp)]
theorem canonCO_yes {n : Int} {xs : List Int} (h : isC n xs = true) : canonCO n xs = some (n, canonL n.toNat xs) := by unfold canonCO; rw [if_pos h]

set_option maxRecDepth 100000 in
set_option maxHeartbeats 1000000 in
theorem specCanon_any (n : Int) (a : Option Addr) (c : Nat) (xs : List Int) (hlen : xs.length ≤ 1099511627776) (w : World) (h : Ints w a xs) :
    Calls Tryz.prog 13 #[cx n (.slice a xs.length c)] w fun e w' => ∃ v, e = .returned (.tuple #[cx (oN (canonCO n xs)) v, .bool (canonCO n xs).isSome]) ∧ HasInts w' w.heap.size v (oL (canonCO n xs)) ∧ Below w.heap.size w w' := by
  have hb0 : Below w.heap.size w ((w.alloc (Obj.cells #[Value.int IntKind.i64 n, Value.slice a xs.length c] 26)).alloc (Obj.cells #[Value.int IntKind.i64 0, Value.slice none 0 0] 26)) := ((Below.refl _ _).alloc (Nat.le_refl _) _).alloc (by simp) _
  have htc := (Two.new w (.int .i64 n) (.slice a xs.length c) 26).alloc (.cells #[.int .i64 0, .slice none 0 0] 26)
  have htr := Two.new (w.alloc (.cells #[.int .i64 n, .slice a xs.length c] 26)) (.int .i64 0) (.slice none 0 0) 26
  rw [World.size_alloc] at htr
  obtain ⟨br, hbr⟩ : ∃ br, w.heap.size + 1 = br := ⟨_, rfl⟩
  rw [hbr] at htr
  have hwb : w.heap.size < br := by omega
  have TC := Lib.hid htc
  have TR := Lib.hid htr
  have H0 := Lib.hid h
  have HH := Lib.hid (h.keeps hb0)
  have HB0 := Lib.hid hb0
  have HBR := Lib.hid hbr
  clear h htr hb0 htc hbr
  obtain ⟨t0, t1, t2, _, _⟩ := TC.out
  cases hC : isC n xs with
  | false =>
    have HC := Lib.hid hC
    rw [canonCO_no hC]
    clear hC
    go_enter Tryz.func13, Tryz.ntmps13
    go_wp2_with fail
    refine (specIsC_b n _ _ xs false HC.out hlen _ HH.out).mono ?_
    rintro e w1 ⟨rfl, hb1⟩
    try rw [HBR.out]
    obtain ⟨r0, r1, r2, r3, r4⟩ := TR.out.keeps hb1
    have HB1 : Hid (Below w.heap.size w w1) := HB0.out.trans (hb1.mono HB0.out.size)
    have hs1 := HB1.out.size
    clear hb1 t0 t1 t2
    go_wp2
    refine ret_cx2 br rfl rfl rfl (x := .int .i64 0) (y := .slice none 0 0) (by go_simp) (by go_simp) rfl ?_
    exact ⟨_, rfl, HasInts.nil _ _ (by first | (simp [World.setCell]; omega) | omega), by first | exact (HB1.out.setCell (by dsimp only; omega) _).setCell (by dsimp only; omega) _ | exact HB1.out⟩
  | true =>
    have HC := Lib.hid hC
    have HOK := Lib.hid (isC_ok hC)
    have hl64 : xs.length ≤ 64 := isC_le hC
    rw [canonCO_yes hC]
    obtain ⟨m, rfl, hm1, hm6⟩ := isC_cast hC
    rw [Int.toNat_natCast]
    clear hC
    go_enter Tryz.func13, Tryz.ntmps13
    go_wp2_with fail
    refine (specIsC_b (m : Int) _ _ xs true HC.out hlen _ HH.out).mono ?_
    rintro e w1 ⟨rfl, hb1⟩
    try rw [HBR.out]
    have HB1 : Hid (Below w.heap.size w w1) := HB0.out.trans (hb1.mono HB0.out.size)
    have HI1 := Lib.hid (HH.out.keeps hb1)
    have TC1 := Lib.hid (TC.out.keeps hb1)
    have TR1 := Lib.hid (TR.out.keeps hb1)
    have hs1 := HB1.out.size
    have hbr1 := TR1.out.1
    clear t0 t1 t2 hb1 HH TC TR HB0
    obtain ⟨t0, t1, t2, _, _⟩ := TC1.out
    go_wp2_with fail
    refine (l3Copy_any (m : Int) a c xs hlen _ HI1.out).mono ?_
    rintro e w2 ⟨v, rfl, hO2, hb2⟩
    obtain ⟨a2, c2, g2, rfl, hc2, hg2, hI2, _⟩ := OwnInts.ata hO2 hb2.size
    have hb3 : Below w2.heap.size w2 (w2.alloc (Obj.cells #[Value.int IntKind.i64 (m : Int), Value.slice a2 xs.length c2] 26)) := (Below.refl _ _).alloc (Nat.le_refl _) _
    have hg2n : xs = [] ∨ g2 < w2.heap.size := by
      cases xs with
      | nil => exact .inl rfl
      | cons x t => exact .inr (hI2 0 (by simp)).2.1
    have hsb := hb2.size
    have htb := Two.new w2 (.int .i64 0) (.slice none 0 0) 26
    obtain ⟨z0, z1, z2, z3, z4⟩ := htb
    have HTB : Hid (Two (w2.alloc (Obj.cells #[Value.int IntKind.i64 (m : Int), Value.slice a2 xs.length c2] 26)) w2.heap.size (.int .i64 (m : Int)) (.slice a2 xs.length c2)) := Two.new w2 _ _ _
    have TC3 := Lib.hid ((TC1.out.keeps hb2).keeps hb3)
    have TR3 := Lib.hid ((TR1.out.keeps hb2).keeps hb3)
    have HI3 := Lib.hid ((HI1.out.keeps hb2).keeps hb3)
    have HIB := Lib.hid (hI2.keeps hb3)
    have HB3 : Hid (Below w.heap.size w (w2.alloc (Obj.cells #[Value.int IntKind.i64 (m : Int), Value.slice a2 xs.length c2] 26))) := (HB1.out.trans (hb2.mono hs1)).trans (hb3.mono (by omega))
    have hs3 : (w2.alloc (Obj.cells #[Value.int IntKind.i64 (m : Int), Value.slice a2 xs.length c2] 26)).heap.size = w2.heap.size + 1 := by simp
    clear hO2 hb2 hb3 hI2 t0 t1 t2 HB1 HI1 TC1 TR1
    go_upto_region 4 with fail
    generalize (w2.alloc (Obj.cells #[Value.int IntKind.i64 (m : Int), Value.slice a2 xs.length c2] 26)) = w3 at *
    have HS3 := Lib.hid hs3
    clear hs3
    have hsz3 := HB3.out.size
    obtain ⟨t0, t1, t2, _, _⟩ := TC3.out
    clear z0 z1 z2 z3 z4
    go_wp2_with fail
    with_reducible refine (l9All_start m hm6 w3).mono ?_
    rintro e w4 ⟨v4, R4, rfl, hM4, hb4⟩
    have hs3 := HS3.out
    have hlM : ((allNames m).map Zs).length = (allNames m).length := List.length_map ..
    obtain ⟨N, hNN⟩ : ∃ N, (allNames m).length = N := ⟨_, rfl⟩
    obtain ⟨go, ao, co, hv4, hgo, hMX⟩ := hM4.mx
    rw [hlM, hNN] at hgo hv4
    subst hv4
    have hrows := fun i (hi : i < (allNames m).length) => (hM4.rows i (by rw [hlM]; exact hi)).1
    have HROWS := Lib.hid hrows
    have HGO := Lib.hid hgo
    have HMX := Lib.hid hMX
    have TC4 := Lib.hid (TC3.out.keeps hb4)
    have TR4 := Lib.hid (TR3.out.keeps hb4)
    have HTB4 := Lib.hid (HTB.out.keeps hb4)
    have HI4 := Lib.hid (HI3.out.keeps hb4)
    have HIB4 := Lib.hid (HIB.out.keeps hb4)
    have HB4 : Hid (Below w.heap.size w w4) := HB3.out.trans (hb4.mono hsz3)
    have hsz4 := hb4.size
    have hN := allNames_len hm6
    obtain ⟨gb, hgb⟩ : ∃ gb, w2.heap.size = gb := ⟨_, rfl⟩
    rw [hgb] at hs3 hg2n HTB4 hsb
    rw [hNN] at hN
    have HNN := Lib.hid hNN
    have HGB := Lib.hid hgb
    have HLM := Lib.hid (hlM.trans hNN)
    have HS3B := Lib.hid hs3
    clear hs3 HS3
    clear hgb hNN hlM t0 t1 t2 hM4 hMX hrows hgo hb4 TC3 TR3 HTB HI3 HIB HB3
    go_wp2
    try rw [HGB.out]
    have hgbr : br < gb := by omega
    go_loopw [6] (fun i wr => ∃ (k g : Nat) (ab : Option Addr) (cb : Nat), k ≤ N ∧ i = .int .i64 (k : Int) ∧ Two wr gb (.int .i64 (m : Int)) (.slice ab xs.length cb) ∧ IntsAt wr g ab (Nam.leastOf xs ((allNames m).take k) xs) ∧ w1.heap.size ≤ g ∧ (xs = [] ∨ g ≠ gb) ∧ xs.length ≤ cb ∧ Only [gb] w4 wr) (fun i _ => N - (intOf i).toNat)
    case atStart => exact ⟨0, g2, a2, c2, Nat.zero_le _, rfl, HTB4.out, HIB4.out, hg2, hg2n.imp id (fun h => by omega), hc2, Only.refl _ _⟩
    case round =>
      obtain ⟨k, g, ab, cb, hk, rfl, hTBk, hIk, hgk, hgn, hcb, hOn⟩ := hrel
      have hsz5 := hOn.size
      have HON := Lib.hid hOn
      have HTBK := Lib.hid hTBk
      have hgbk := hTBk.1
      have HIK := Lib.hid hIk
      have HTCK := Lib.hid (two_only TC4.out hOn (by simp; omega))
      have HTRK := Lib.hid (two_only TR4.out hOn (by simp; omega))
      have HBK : Hid (Below w.heap.size w wr) := HB4.out.trans (hOn.below (fun g hg => by simp at hg; omega) (by omega))
      have HIAK := Lib.hid (H0.out.keeps HBK.out)
      have hszk := HBK.out.size
      clear hOn hTBk hIk
      by_cases hlt : k < N
      · have hNk : k < (allNames m).length := by rw [HNN.out]; exact hlt
        have hNs := all_at hNk
        obtain ⟨ns, hns⟩ : ∃ ns, (allNames m).getD k [] = ns := ⟨_, rfl⟩
        rw [hns] at hNs
        have hgo := HGO.out (by omega)
        have hnl : (Zs ns).length = m := (Zs_len ns).trans hNs.len
        have hrow := names_row (allNames m) k hNk
        rw [hns] at hrow
        have hkM : k < ((allNames m).map Zs).length := by rw [HLM.out]; exact hlt
        have hs3 := HS3B.out
        have hcell : wr.cell? ⟨go, k, none⟩ = some (.slice (some ⟨blk R4 k, 0, none⟩) m (room R4 k)) := by
          have h1 := HMX.out.cell hkM
          rw [hrow, hnl] at h1
          rw [World.cell?_of_block (w := w4) (HON.out.block go hgo.2 (by simp; omega))]
          exact h1
        have hao : ao = some ⟨go, 0, none⟩ := (HMX.out.out k hkM).1
        have hr2 : IntsAt wr (blk R4 k) (some ⟨blk R4 k, 0, none⟩) (Zs ns) := by
          have h1 := (HMX.out.rows k hkM).2
          rw [hrow] at h1
          exact h1.only HON.out (by have := HROWS.out k hNk; simp; omega)
        have HR2 := Lib.hid hr2.ints
        have HNS := Lib.hid hns
        have HNS0 := Lib.hid hNs
        subst hao
        obtain ⟨t0, t1, t2, _, _⟩ := HTCK.out
        clear hNk hNs hns hgo hnl hrow hkM hr2 hs3
        have hbx : Below wr.heap.size wr ((wr.alloc (Obj.cells #[Value.int IntKind.i64 0, Value.slice none 0 0] 26)).drew) := ((Below.refl _ _).alloc (Nat.le_refl _) _).drew
        have HTX : Hid (Two ((wr.alloc (Obj.cells #[Value.int IntKind.i64 0, Value.slice none 0 0] 26)).drew) wr.heap.size (.int .i64 0) (.slice none 0 0)) := (Two.new wr _ _ _).drew
        have HCALL := Lib.hid (l9Complex_row hm1 hm6 a c HC.out (some ⟨blk R4 k, 0, none⟩) (room R4 k) HNS0.out ((wr.alloc (Obj.cells #[Value.int IntKind.i64 0, Value.slice none 0 0] 26)).drew) (HIAK.out.keeps hbx) (HR2.out.keeps hbx))
        have HCALLB := Lib.hid (l9Complex_row hm1 hm6 a c HC.out (some ⟨blk R4 k, 0, none⟩) (room R4 k) HNS0.out wr.drew HIAK.out HR2.out)
        have HBX := Lib.hid hbx
        have hszx : ((wr.alloc (Obj.cells #[Value.int IntKind.i64 0, Value.slice none 0 0] 26)).drew).heap.size = wr.heap.size + 1 := by simp [World.drew]
        have HSX := Lib.hid hszx
        have hcell2 : (wr.alloc (Obj.cells #[Value.int IntKind.i64 0, Value.slice none 0 0] 26)).cell? ⟨go, k, none⟩ = some (.slice (some ⟨blk R4 k, 0, none⟩) m (room R4 k)) := by
          have hb := (Below.refl wr.heap.size wr).alloc (Nat.le_refl _) (Obj.cells #[Value.int IntKind.i64 0, Value.slice none 0 0] 26)
          have h1 := (HGO.out (by omega)).2
          rw [hb.cell (p := ⟨go, k, none⟩) (by dsimp only; omega)]; exact hcell
        obtain ⟨s0, s1, s2, _, _⟩ := HTCK.out.alloc (Obj.cells #[Value.int IntKind.i64 0, Value.slice none 0 0] 26)
        clear hbx hszx
        go_wp2_with fail
        go_region_law (first | (go_simp; go_at_call 39; refine HCALL.out.mono ?_; rintro e w6 ⟨a6, c6, g6, rfl, hc6, hg6, hI6, hb6⟩; obtain ⟨x0, x1, x2, x3, x4⟩ := HTX.out.keeps hb6) | (go_simp; go_at_call 39; refine HCALLB.out.mono ?_; rintro e w6 ⟨a6, c6, g6, rfl, hc6, hg6, hI6, hb6⟩; have hx := Two.new w6 (.int .i64 0) (.slice none 0 0) 26; obtain ⟨x0, x1, x2, x3, x4⟩ := hx) | fail "arm")
        all_goals
          first
          | (have F : Below wr.heap.size wr ((w6.setCell ⟨wr.heap.size, 0, none⟩ (.int .i64 (m : Int))).setCell ⟨wr.heap.size, 1, none⟩ (.slice a6 xs.length c6)) ∧ Two ((w6.setCell ⟨wr.heap.size, 0, none⟩ (.int .i64 (m : Int))).setCell ⟨wr.heap.size, 1, none⟩ (.slice a6 xs.length c6)) wr.heap.size (.int .i64 (m : Int)) (.slice a6 xs.length c6) ∧ IntsAt ((w6.setCell ⟨wr.heap.size, 0, none⟩ (.int .i64 (m : Int))).setCell ⟨wr.heap.size, 1, none⟩ (.slice a6 xs.length c6)) g6 a6 (renL ns xs) ∧ wr.heap.size ≤ g6 := by
               have h1 := HSX.out
               exact ⟨((HBX.out.trans (hb6.mono (by omega))).setCell (Nat.le_refl _) _).setCell (Nat.le_refl _) _, (HTX.out.keeps hb6).fill _ _, hI6.only (G := [wr.heap.size]) ((Only.set [wr.heap.size] w6 0 (by simp) _).trans (Only.set [wr.heap.size] _ 1 (by simp) _)) (by simp; omega), by omega⟩
             generalize ((w6.setCell ⟨wr.heap.size, 0, none⟩ (.int .i64 (m : Int))).setCell ⟨wr.heap.size, 1, none⟩ (.slice a6 xs.length c6)) = w7 at *)
          | (have F : Below wr.heap.size wr (w6.alloc (Obj.cells #[Value.int IntKind.i64 (m : Int), Value.slice a6 xs.length c6] 26)) ∧ Two (w6.alloc (Obj.cells #[Value.int IntKind.i64 (m : Int), Value.slice a6 xs.length c6] 26)) w6.heap.size (.int .i64 (m : Int)) (.slice a6 xs.length c6) ∧ IntsAt (w6.alloc (Obj.cells #[Value.int IntKind.i64 (m : Int), Value.slice a6 xs.length c6] 26)) g6 a6 (renL ns xs) ∧ wr.heap.size ≤ g6 := by
               have hb : Below wr.heap.size wr.drew w6 := hb6
               exact ⟨((Below.refl wr.heap.size wr).drew.trans hb).alloc hb.size _, Two.new w6 _ _ _, hI6.keeps ((Below.refl _ _).alloc (Nat.le_refl _) _), hg6⟩
             generalize (w6.alloc (Obj.cells #[Value.int IntKind.i64 (m : Int), Value.slice a6 xs.length c6] 26)) = w7 at *)
          obtain ⟨hB7, hT7, hI7, hg7⟩ := F
          have hlb := least_len HC.out k
          have hlr := renL_length HNS0.out HC.out
          obtain ⟨lb, hlbe⟩ : ∃ lb, lessL (renL ns xs) (Nam.leastOf xs ((allNames m).take k) xs) = lb := ⟨_, rfl⟩
          have hless := l9Less_any a6 c6 (renL ns xs) ab cb (Nam.leastOf xs ((allNames m).take k) xs) (by omega) lb hlbe w7 hI7.ints (HIK.out.keeps hB7).ints
          rw [hlb, hlr] at hless
          have hnext := least_next xs (allNames m) k (by rw [HNN.out]; exact hlt) xs
          rw [HNS.out, hlbe] at hnext
          have HLESS := Lib.hid hless
          have HNEXT := Lib.hid hnext
          have HIB7 := Lib.hid (HIK.out.keeps hB7)
          have HTB7 := Lib.hid (HTBK.out.keeps hB7)
          have HT7 := Lib.hid hT7
          have HI7 := Lib.hid hI7
          have HB7 := Lib.hid hB7
          have hs7 := hB7.size
          obtain ⟨y0, y1, y2, y3, y4⟩ := hT7
          obtain ⟨z0, z1, z2, z3, z4⟩ := HTB7.out
          clear hB7 hI7 hlb hlr hlbe hless hnext x0 x1 x2 x3 x4 hb6 hI6
          go_wp2_with fail
          with_reducible refine HLESS.out.mono ?_
          rintro e w8 ⟨rfl, nq, rfl⟩
          have hb8 := Mem.below_drewN w7 nq
          have HI8 := Lib.hid (HI7.out.keeps hb8)
          have HIB8 := Lib.hid (HIB7.out.keeps hb8)
          have HT8 := Lib.hid (HT7.out.keeps hb8)
          have HTB8 := Lib.hid (HTB7.out.keeps hb8)
          have HB8 : Hid (Below wr.heap.size wr (w7.drewN nq)) := HB7.out.trans (hb8.mono hs7)
          clear y0 y1 y2 y3 y4 z0 z1 z2 z3 z4 hb8
          generalize w7.drewN nq = w8 at *
          obtain ⟨y0, y1, y2, y3, y4⟩ := HT8.out
          obtain ⟨z0, z1, z2, z3, z4⟩ := HTB8.out
          cases lb with
          | true =>
            go_wp2
            go_roundw
            case rel =>
              refine ⟨k + 1, g6, a6, c6, by omega, by go_num, HTB8.out.fill _ _, ?_, by omega, .inr (by omega), hc6, ?_⟩
              · rw [HNEXT.out]
                exact HI8.out.only (G := [gb]) ((Only.set [gb] w8 0 (by simp) _).trans (Only.set [gb] _ 1 (by simp) _)) (by simp; omega)
              · exact (HON.out.trans (Only.of_below [gb] HB8.out)).trans ((Only.set [gb] w8 0 (by simp) _).trans (Only.set [gb] _ 1 (by simp) _))
            case measure => simp [intOf]; omega
          | false =>
            go_wp2
            go_roundw
            case rel => exact ⟨k + 1, g, ab, cb, by omega, by go_num, HTB8.out, by rw [HNEXT.out]; exact HIB8.out, hgk, hgn, hcb, HON.out.trans (Only.of_below [gb] HB8.out)⟩
            case measure => simp [intOf]; omega
      · have HE : Hid (Nam.leastOf xs ((allNames m).take k) xs = canonL m xs) := by
          have h1 : k = (allNames m).length := by rw [HNN.out]; omega
          have : Nam.leastOf xs ((allNames m).take k) xs = canonL m xs := by rw [h1, List.take_length]; rfl
          exact this
        have hcl := canon_length HC.out
        have HCL := Lib.hid hcl
        have HIC : Hid (IntsAt wr g ab (canonL m xs)) := by
          have h := HIK.out
          rw [HE.out] at h; exact h
        obtain ⟨z0, z1, z2, z3, z4⟩ := HTBK.out
        obtain ⟨r0, r1, r2, r3, r4⟩ := HTRK.out
        clear hcl
        go_wp2
        refine ret_cx2 br rfl rfl rfl (x := .int .i64 (m : Int)) (y := .slice ab xs.length cb) (by go_simp) (by go_simp) rfl ?_
        have hcl := HCL.out
        have hws : ((wr.setCell ⟨br, 0, none⟩ (.int .i64 (m : Int))).setCell ⟨br, 1, none⟩ (.slice ab xs.length cb)).heap.size = wr.heap.size := by simp [World.setCell]
        refine ⟨_, rfl, ?_, (HBK.out.setCell (by dsimp only; omega) _).setCell (by dsimp only; omega) _⟩
        show HasInts _ w.heap.size _ (canonL m xs)
        by_cases hx : xs = []
        · have h0 : canonL m xs = [] := List.eq_nil_of_length_eq_zero (by rw [hcl, hx]; rfl)
          refine ⟨ab, cb, w.heap.size, by rw [hcl], by rw [hcl]; exact hcb, Nat.le_refl _, by rw [h0]; exact fun j hj => absurd hj (Nat.not_lt_zero _), .inl (by rw [hws]; omega)⟩
        · have h1 : 0 < (canonL m xs).length := by
            rw [hcl]; exact List.length_pos_iff.2 hx
          have h2 := (HIC.out 0 h1).2.1
          refine ⟨ab, cb, g, by rw [hcl], by rw [hcl]; exact hcb, by omega, ?_, .inl (by rw [hws]; exact h2)⟩
          exact HIC.out.only (G := [br]) ((Only.set [br] wr 0 (by simp) _).trans (Only.set [br] _ 1 (by simp) _)) (by simp; omega)

end Go.Proofs.YtbkkdgmiokdbmaaGreat

/-! WALKS: spec's chapter 9: l9Symmetries. -/

namespace Go.Proofs.YtbkkdgmiokdbmaaGreat
open Go.RowKit
open Sets Nam

/-- the symmetries among the first k lists of names -/
def symTo (n : Nat) (xs : List Int) (k : Nat) : List (List Nat) := ((allNames n).take k).filter fun ns => renL ns xs == xs
theorem symTo_zero (n : Nat) (xs : List Int) : symTo n xs 0 = [] := rfl
theorem symTo_hit {n : Nat} {xs : List Int} {k : Nat} (h : k < (allNames n).length) (hs : (renL ((allNames n).getD k []) xs == xs) = true) : symTo n xs (k + 1) = symTo n xs k ++ [(allNames n).getD k []] := by
  have e : (allNames n).getD k [] = (allNames n)[k] := by rw [List.getD, List.getElem?_eq_getElem h]; rfl
  rw [e] at hs ⊢
  unfold symTo
  rw [List.take_add_one, List.getElem?_eq_getElem h, List.filter_append]
  simp [hs]
theorem symTo_miss {n : Nat} {xs : List Int} {k : Nat} (h : k < (allNames n).length) (hs : (renL ((allNames n).getD k []) xs == xs) = false) : symTo n xs (k + 1) = symTo n xs k := by
  have e : (allNames n).getD k [] = (allNames n)[k] := by rw [List.getD, List.getElem?_eq_getElem h]; rfl
  rw [e] at hs
  unfold symTo
  rw [List.take_add_one, List.getElem?_eq_getElem h, List.filter_append]
  simp [hs]
theorem symTo_len (n : Nat) (xs : List Int) (k : Nat) : (symTo n xs k).length ≤ (allNames n).length := by
  unfold symTo
  exact Nat.le_trans (List.length_filter_le _ _) (by rw [List.length_take]; omega)

theorem run_field_cx (n : Int) (a : Option Addr) (l c : Nat) (w : World) : Sem.run Tryz.prog (Instr.field 26 (.agg #[.int .i64 n, .slice a l c]) 1) w = .ok (.slice a l c) w := by
  kernel_rfl

attribute [local go_sem ↓] run_field_cx

set_option maxRecDepth 100000 in
set_option maxHeartbeats 1000000 in
theorem l9Sym_any (m : Nat) (hm1 : 1 ≤ m) (hm6 : m ≤ 6) (a : Option Addr) (c : Nat) (xs : List Int) (hC : isC (m : Int) xs = true) (w : World) (h : Ints w a xs) :
    Calls Tryz.prog 57 #[cx (m : Int) (.slice a xs.length c)] w fun e w' => ∃ v R, e = .returned v ∧ OwnMx w' w.heap.size v R ((symL m xs).map Zs) ∧ Below w.heap.size w w' := by
  obtain ⟨i9, hi9, hz90, hz91, hz92⟩ := info_parts info_row
  have hb0 : Below w.heap.size w ((w.alloc (Obj.cells #[Value.int IntKind.i64 (m : Int), Value.slice a xs.length c] 26)).alloc (.cells #[] 24)) := ((Below.refl _ _).alloc (Nat.le_refl _) _).alloc (by simp) _
  have htc := (Two.new w (.int .i64 (m : Int)) (.slice a xs.length c) 26).alloc (.cells #[] 24)
  have hM0 := OwnMx.lit (w.alloc (Obj.cells #[Value.int IntKind.i64 (m : Int), Value.slice a xs.length c] 26)) w.heap.size (by simp)
  rw [World.size_alloc] at hM0
  have hs2 : ((w.alloc (Obj.cells #[Value.int IntKind.i64 (m : Int), Value.slice a xs.length c] 26)).alloc (.cells #[] 24)).heap.size = w.heap.size + 1 + 1 := by simp
  have H0 := Lib.hid h
  have HC := Lib.hid hC
  have hl64 := isC_le hC
  obtain ⟨t0, t1, t2, t3, t4⟩ := htc
  have HTC := Lib.hid ((Two.new w (.int .i64 (m : Int)) (.slice a xs.length c) 26).alloc (.cells #[] 24))
  have HM0 := Lib.hid hM0
  have HB0 := Lib.hid hb0
  have HS2 := Lib.hid hs2
  clear h hC hM0 hb0 hs2
  go_enter Tryz.func57, Tryz.ntmps57
  go_wp2_with fail
  generalize ((w.alloc (Obj.cells #[Value.int IntKind.i64 (m : Int), Value.slice a xs.length c] 26)).alloc (.cells #[] 24)) = w2 at *
  have hst := l9All_start m hm6 w2
  rw [HS2.out] at hst
  with_reducible refine hst.mono ?_
  clear hst
  rintro e w4 ⟨v4, R4, rfl, hM4, hb4⟩
  have hs2 := HS2.out
  rw [← hs2] at hM4 hb4
  have hlM : ((allNames m).map Zs).length = (allNames m).length := List.length_map ..
  obtain ⟨N, hNN⟩ : ∃ N, (allNames m).length = N := ⟨_, rfl⟩
  obtain ⟨go, ao, co, hv4, hgo, hMX⟩ := hM4.mx
  rw [hlM, hNN] at hgo hv4
  subst hv4
  have HROWS := Lib.hid (fun i (hi : i < (allNames m).length) => (hM4.rows i (by rw [hlM]; exact hi)).1)
  have HGO := Lib.hid hgo
  have HMX := Lib.hid hMX
  have HNB := Lib.hid hM4.nodup
  have HLR := Lib.hid (hM4.len.trans (hlM.trans hNN))
  have TC4 := Lib.hid (HTC.out.keeps hb4)
  have HO4 := Lib.hid (HM0.out.keeps hb4)
  have HB4 : Hid (Below w.heap.size w w4) := HB0.out.trans (hb4.mono (by omega))
  have hsz4 := hb4.size
  have hN := allNames_len hm6
  obtain ⟨gb, hgb⟩ : ∃ gb, w.heap.size + 1 = gb := ⟨_, rfl⟩
  rw [hgb] at HO4
  rw [hNN] at hN
  have hgbw : w.heap.size < gb := by omega
  have hgb2 : gb < w2.heap.size := by omega
  have HNN := Lib.hid hNN
  have HGB := Lib.hid hgb
  have HLM := Lib.hid (hlM.trans hNN)
  clear hgb hNN hlM t0 t1 t2 t3 t4 hM4 hMX hgo hb4 HTC HM0 hs2
  go_wp2
  try rw [HGB.out]
  go_loopw [3, 5] (fun u i wr => ∃ (k : Nat) (R' : List (Nat × Nat)), k ≤ N ∧ i = .int .i64 (k : Int) ∧ OwnMx wr w.heap.size u R' ((symTo m xs k).map Zs) ∧ Only [gb] w4 wr ∧ (u.ownBlock = some gb ∨ ∃ z, u.ownBlock = some z ∧ w4.heap.size ≤ z) ∧ ∀ g, g ∈ blks R' → ∃ j, j < k ∧ blk R4 j = g) (fun _ i _ => N - (intOf i).toNat)
  case atStart => exact ⟨0, [], Nat.zero_le _, rfl, HO4.out, Only.refl _ _, .inl rfl, fun g h => by simp at h⟩
  case round =>
    obtain ⟨k, R', hk, rfl, hO, hOn, hu, hR⟩ := hrel
    have hsz5 := hOn.size
    have HO := Lib.hid hO
    have HON := Lib.hid hOn
    have HU := Lib.hid hu
    have HR := Lib.hid hR
    have HTCK := Lib.hid (two_only TC4.out hOn (by simp; omega))
    have HBK : Hid (Below w.heap.size w wr) := HB4.out.trans (hOn.below (fun g hg => by simp at hg; omega) (by omega))
    have HIAK := Lib.hid (H0.out.keeps HBK.out)
    have hszk := HBK.out.size
    clear hO hOn hu hR
    by_cases hlt : k < N
    · have hNk : k < (allNames m).length := by rw [HNN.out]; exact hlt
      have hNs := all_at hNk
      obtain ⟨ns, hns⟩ : ∃ ns, (allNames m).getD k [] = ns := ⟨_, rfl⟩
      rw [hns] at hNs
      have hgo := HGO.out (by omega)
      have hnl : (Zs ns).length = m := (Zs_len ns).trans hNs.len
      have hrow := names_row (allNames m) k hNk
      rw [hns] at hrow
      have hkM : k < ((allNames m).map Zs).length := by rw [HLM.out]; exact hlt
      have hcell : wr.cell? ⟨go, k, none⟩ = some (.slice (some ⟨blk R4 k, 0, none⟩) m (room R4 k)) := by
        have h1 := HMX.out.cell hkM
        rw [hrow, hnl] at h1
        rw [World.cell?_of_block (w := w4) (HON.out.block go hgo.2 (by simp; omega))]
        exact h1
      have hao : ao = some ⟨go, 0, none⟩ := (HMX.out.out k hkM).1
      have hblo := HROWS.out k hNk
      have hbhi := (HMX.out.rows k hkM).1
      have hr2 : IntsAt wr (blk R4 k) (some ⟨blk R4 k, 0, none⟩) (Zs ns) := by
        have h1 := (HMX.out.rows k hkM).2
        rw [hrow] at h1
        exact h1.only HON.out (by simp; omega)
      have hnew : blk R4 k ∉ blks R' := fun hm => by
        obtain ⟨j, hj, e⟩ := HR.out _ hm
        have := blk_inj HNB.out (by rw [HLR.out]; omega) (by rw [HLR.out]; exact hlt) e
        omega
      have hnu : ∀ z, (Value.slice ao 0 0).ownBlock = z → True := fun _ _ => trivial
      have HR2 := Lib.hid hr2
      have HNS := Lib.hid hns
      have HNS0 := Lib.hid hNs
      have HNEW := Lib.hid hnew
      have HNL := Lib.hid hnl
      obtain ⟨sb, hsb⟩ : ∃ sb, (renL ns xs == xs) = sb := ⟨_, rfl⟩
      have HSB := Lib.hid hsb
      have hlr := renL_length hNs HC.out
      have HCALL := Lib.hid (l9Complex_row hm1 hm6 a c HC.out (some ⟨blk R4 k, 0, none⟩) (room R4 k) hNs wr.drew HIAK.out hr2.ints)
      have HPOST : Hid (∀ (w6 : World) (a6 : Option Addr) (c6 g6 : Nat), IntsAt w6 g6 a6 (renL ns xs) → Below wr.heap.size wr w6 → Calls Tryz.prog 80 #[.slice a6 xs.length c6, .slice a xs.length c] w6 fun e w' => e = .returned (.bool sb) ∧ Below w6.heap.size w6 w') := by
        have : ∀ (w6 : World) (a6 : Option Addr) (c6 g6 : Nat), IntsAt w6 g6 a6 (renL ns xs) → Below wr.heap.size wr w6 → Calls Tryz.prog 80 #[.slice a6 xs.length c6, .slice a xs.length c] w6 fun e w' => e = .returned (.bool sb) ∧ Below w6.heap.size w6 w' := fun w6 a6 c6 g6 hI hB => by
          have hsame := l2Same_any a6 a c6 c (renL ns xs) xs (by rw [hlr]; omega) (by omega) w6 hI.ints (HIAK.out.keeps hB)
          rw [hlr, hsb] at hsame
          exact hsame
        exact this
      subst hao
      obtain ⟨t0, t1, t2, _, _⟩ := HTCK.out
      have hszg := hgo.2
      clear hNk hNs hns hgo hnl hrow hkM hr2 hnew hsb hlr hnu
      go_wp2_with fail
      go_region_law (first | (go_simp; go_at_call 39; refine HCALL.out.mono ?_; rintro e w6 ⟨a6, c6, g6, rfl, hc6, hg6, hI6, hb6⟩; have HB6 : Hid (Below wr.heap.size wr w6) := ((Below.refl wr.heap.size wr).drew.trans hb6); have HSAME := Lib.hid (HPOST.out w6 a6 c6 g6 hI6 HB6.out); clear hb6; obtain ⟨s0, s1, s2, _, _⟩ := HTCK.out.keeps HB6.out) | (go_simp; go_at_call 80; refine HSAME.out.mono ?_; rintro e w7 ⟨rfl, hb7⟩; have HB7 : Hid (Below wr.heap.size wr w7) := HB6.out.trans (hb7.mono HB6.out.size); clear hb7) | fail "arm")
      all_goals
        have hszk7 := HB7.out.size
        have HO7 := Lib.hid (HO.out.keeps HB7.out)
        have hcell7 : w7.cell? ⟨go, k, none⟩ = some (.slice (some ⟨blk R4 k, 0, none⟩) m (room R4 k)) := by
          rw [HB7.out.cell (p := ⟨go, k, none⟩) (by dsimp only; omega)]; exact hcell
        have HR7 := Lib.hid (HR2.out.keeps HB7.out)
        have hsl := symTo_len m xs k
        have hmapl : ((symTo m xs k).map Zs).length = (symTo m xs k).length := List.length_map ..
        clear s0 s1 s2 t0 t1 t2 hcell hI6
        cases sb with
        | true =>
          have HN1 : Hid ((symTo m xs (k + 1)).map Zs = (symTo m xs k).map Zs ++ [Zs ns]) := by
            have h1 := symTo_hit (n := m) (xs := xs) (k := k) (by rw [HNN.out]; exact hlt) (by rw [HNS.out]; exact HSB.out)
            rw [HNS.out] at h1
            have : (symTo m xs (k + 1)).map Zs = (symTo m xs k).map Zs ++ [Zs ns] := by rw [h1, List.map_append]; rfl
            exact this
          obtain ⟨Ms, hMs⟩ : ∃ Ms, (symTo m xs k).map Zs = Ms := ⟨_, rfl⟩
          rw [hMs] at HO7 HN1 hmapl
          have HOW := Lib.hid HO7.out.own
          have hml : Ms.length ≤ 46656 := by rw [hmapl]; have := HNN.out; omega
          clear hMs hmapl hsl
          go_wp2_with (at_builtin; refine wpList_append_own_at _ rfl _ _ 69 rfl w.heap.size 24 i9 (.slice none 0 0) 1 24 Tryz.underlying69 hi9 hz90 hz91 hz92 rfl (by decide) _ _ _ rfl (HOW.out.alloc _) ⟨w7.heap.size, 0, none⟩ 1 1 [.slice (some ⟨blk R4 k, 0, none⟩) m (room R4 k)] rfl rfl ?c1 ?c2 ?c3 ?c4 ?c5 ?_)
          case c1 => intro j u hj; exact Mem.cell_new w7 _ _ j u hj
          case c2 => intro u hu; simp at hu; subst hu; rfl
          case c3 => unfold maxLen; omega
          case c4 => omega
          case c5 => simp; omega
          intro v' w9 hown1 hgrow _ hob
          have hBA : Below w7.heap.size w7 (w7.alloc (.cells #[.slice (some ⟨blk R4 k, 0, none⟩) m (room R4 k)] 24)) := (Below.refl _ _).alloc (Nat.le_refl _) _
          have hob2 : v'.ownBlock = u3.ownBlock ∨ ∃ z, v'.ownBlock = some z ∧ (w7.alloc (.cells #[.slice (some ⟨blk R4 k, 0, none⟩) m (room R4 k)] 24)).heap.size ≤ z := by
            rcases hob with e | e
            · exact .inl e
            · exact .inr ⟨_, e, by first | exact Nat.le_refl _ | (rw [World.size_alloc]; exact Nat.le_refl _)⟩
          have hnv : u3.ownBlock ≠ some (blk R4 k) := fun e => by
            rcases HU.out with h | ⟨z, h, hz⟩
            · rw [e] at h; cases h; omega
            · rw [e] at h; cases h; omega
          have hO9 : OwnMx w9 w.heap.size v' (R' ++ [(blk R4 k, room R4 k)]) (Ms ++ [Zs ns]) := by
            refine OwnMx.next (HO7.out.keeps hBA) (by omega) (by simp; omega) (HR7.out.keeps hBA) HNEW.out hnv ?_ hgrow hob2
            rw [HNL.out]; exact hown1
          have hon : Only [gb] w4 w9 := only_step (o := some gb) HON.out (HB7.out.trans (hBA.mono hszk7)) (only_grown hgrow) HU.out
          have hu9 : v'.ownBlock = some gb ∨ ∃ z, v'.ownBlock = some z ∧ w4.heap.size ≤ z := by
            rcases hob2 with e | ⟨z, e, hz⟩
            · rw [e]; exact HU.out
            · exact .inr ⟨z, e, by rw [World.size_alloc] at hz; omega⟩
          have HO9 := Lib.hid hO9
          have HON9 := Lib.hid hon
          have HU9 := Lib.hid hu9
          clear hown1 hgrow hob hob2 hO9 hon hu9 hnv
          go_wp2
          go_roundw
          case rel =>
            refine ⟨k + 1, R' ++ [(blk R4 k, room R4 k)], by omega, by go_num, by rw [HN1.out]; exact HO9.out, HON9.out, HU9.out, fun g hg => ?_⟩
            rw [show blks (R' ++ [(blk R4 k, room R4 k)]) = blks R' ++ [blk R4 k] by simp [blks], List.mem_append, List.mem_singleton] at hg
            rcases hg with h | rfl
            · obtain ⟨j, hj, e⟩ := HR.out g h
              exact ⟨j, by omega, e⟩
            · exact ⟨k, by omega, rfl⟩
          case measure => simp [intOf]; omega
        | false =>
          have HN1 : Hid (symTo m xs (k + 1) = symTo m xs k) := by
            have : symTo m xs (k + 1) = symTo m xs k := symTo_miss (by rw [HNN.out]; exact hlt) (by rw [HNS.out]; exact HSB.out)
            exact this
          clear hmapl hsl
          go_wp2
          go_roundw
          case rel => exact ⟨k + 1, R', by omega, by go_num, by rw [HN1.out]; exact HO7.out, HON.out.trans (Only.of_below [gb] HB7.out), HU.out, fun g h => (HR.out g h).elim fun j ⟨hj, e⟩ => ⟨j, by omega, e⟩⟩
          case measure => simp [intOf]; omega
    · have HE : Hid (symTo m xs k = symL m xs) := by
        have h1 : k = (allNames m).length := by rw [HNN.out]; omega
        have : symTo m xs k = symL m xs := by unfold symTo symL; rw [h1, List.take_length]
        exact this
      go_wp2
      go_ret
      exact ⟨_, R', rfl, by rw [← HE.out]; exact HO.out, HBK.out⟩

end Go.Proofs.YtbkkdgmiokdbmaaGreat
