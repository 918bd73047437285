/-
  WALKS: spec's draws of chapter 13: a matrix.
-/
import Derived.Test.YthjgpbcdcgagfaaJg12
import Derived.Test.YthjgpbcdcgagfaaJg10
import Derived.Test.YthjgpbcdcgagfaaJg11
import Derived.Deep.RegionLaw
namespace Go.Proofs.Ythjgpbcdcgagfaa
open Go.RowKit

theorem OwnMx.away {w w' : World} {base B : Nat} {v : Value} {R : List (Nat × Nat)} {M : Lin.Mat} (h : OwnMx w base v R M) (hg : w.grownBy w' (some B)) (hB : B < base) : OwnMx w' base v R M := by
  refine ⟨World.ownsRow.kept (row := some B) h.own hg (.inr fun e => ?_), h.len, h.nodup, fun i hi => ?_, h.apart⟩
  · have := (h.own.lt B e).1; omega
  · obtain ⟨q1, q2, q3⟩ := h.rows i hi
    exact ⟨q1, Nat.lt_of_lt_of_le q2 hg.size, q3.far hg (by omega)⟩
theorem Mx.away {w w' : World} {B go : Nat} {ao : Option Addr} {R : List (Nat × Nat)} {M : Lin.Mat} (h : Mx w go ao R M) (hg : w.grownBy w' (some B)) (hgo : 0 < M.length → go ≠ B) (hR : ∀ g, g ∈ blks R → g ≠ B) : Mx w' go ao R M :=
  h.only (only_grown hg) (fun h0 hm => by simp at hm; exact hgo h0 hm) (fun g hg2 hm => by simp at hm; exact hR g hg2 hm)

theorem set_blk (R : List (Nat × Nat)) (i j : Nat) (x : Nat × Nat) (hi : i < R.length) : (R.set i x).getD j (0, 0) = if j = i then x else R.getD j (0, 0) := by
  simp only [List.getD, List.getElem?_set]
  by_cases e : j = i
  · subst e; simp [hi]
  · rw [if_neg (fun h => e h.symm), if_neg e]
theorem mem_set_blk {R : List (Nat × Nat)} {i : Nat} {x : Nat × Nat} {z : Nat} (h : z ∈ blks (R.set i x)) : z = x.1 ∨ z ∈ blks R := by
  obtain ⟨y, hy, rfl⟩ := List.mem_map.1 h
  rcases List.mem_or_eq_of_mem_set hy with h1 | h1
  · exact .inr (List.mem_map.2 ⟨y, h1, rfl⟩)
  · exact .inl (by rw [h1])
/-- Another row takes a row's place. -/
theorem Mx.setOut {w : World} {go : Nat} {R : List (Nat × Nat)} {M : Lin.Mat} (h : Mx w go (some ⟨go, 0, none⟩) R M) {i : Nat} (hi : i < M.length) {g c : Nat} {r : List Int} (hg : g ∉ blks R) (hne : g ≠ go) (hlt : g < w.heap.size) (hr : IntsAt w g (some ⟨g, 0, none⟩) r) :
    Mx (w.setCell ⟨go, i, none⟩ (.slice (some ⟨g, 0, none⟩) r.length c)) go (some ⟨go, 0, none⟩) (R.set i (g, c)) (M.set i r) := by
  have hiR : i < R.length := by rw [h.len]; exact hi
  have hon : Only [go] w (w.setCell ⟨go, i, none⟩ (.slice (some ⟨g, 0, none⟩) r.length c)) := Only.set _ _ _ (by simp) _
  have hb : ∀ j, blk (R.set i (g, c)) j = if j = i then g else blk R j := fun j => by
    simp only [blk]
    rw [set_blk R i j _ hiR]
    by_cases e : j = i
    · rw [if_pos e, if_pos e]
    · rw [if_neg e, if_neg e]
  have hrm : ∀ j, room (R.set i (g, c)) j = if j = i then c else room R j := fun j => by
    simp only [room]
    rw [set_blk R i j _ hiR]
    by_cases e : j = i
    · rw [if_pos e, if_pos e]
    · rw [if_neg e, if_neg e]
  refine ⟨by rw [List.length_set, List.length_set]; exact h.len, ?_, fun j hj => ?_, fun j hj => ?_, fun hm => ?_⟩
  · have e0 : ∀ (Q : List (Nat × Nat)) j, (hj : j < Q.length) → (blks Q)[j]'(by simpa using hj) = blk Q j := fun Q j hj => by simp [blk, blks, List.getD, List.getElem?_eq_getElem hj]
    have hl := e0 (R.set i (g, c))
    unfold List.Nodup
    rw [List.pairwise_iff_getElem]
    intro a b ha hb2 hab he
    have ha' : a < (R.set i (g, c)).length := by simpa using ha
    have hb' : b < (R.set i (g, c)).length := by simpa using hb2
    rw [hl a ha', hl b hb', hb, hb] at he
    rw [List.length_set] at ha' hb'
    by_cases e1 : a = i
    · rw [if_pos e1] at he
      by_cases e2 : b = i
      · omega
      · rw [if_neg e2] at he; exact hg (he ▸ blk_mem hb')
    · rw [if_neg e1] at he
      by_cases e2 : b = i
      · rw [if_pos e2] at he; exact hg (he ▸ blk_mem ha')
      · rw [if_neg e2] at he
        have := blk_inj h.nodup ha' hb' he
        omega
  · rw [List.length_set] at hj
    obtain ⟨q1, q2, q3, q4⟩ := h.out j hj
    refine ⟨q1, by simpa [World.setCell] using q2, ?_, by rw [World.frozen?_setCell]; exact q4⟩
    rw [hb, hrm, row_set M i j _ hi]
    by_cases e : j = i
    · subst e
      rw [if_pos rfl, if_pos rfl, if_pos rfl]
      exact World.cell?_setCell_same _ _ _ q3
    · rw [if_neg e, if_neg e, if_neg e, World.cell?_setCell_other _ _ _ _ (fun e2 => e (by have := congrArg Addr.off e2; simpa using this.symm))]
      exact q3
  · rw [List.length_set] at hj
    rw [hb, row_set M i j _ hi]
    by_cases e : j = i
    · rw [if_pos e, if_pos e]
      exact ⟨by simpa [World.setCell] using hlt, hr.only hon (by rw [List.mem_singleton]; exact hne)⟩
    · rw [if_neg e, if_neg e]
      obtain ⟨q1, q2⟩ := h.rows j hj
      refine ⟨by simpa [World.setCell] using q1, q2.only hon ?_⟩
      rw [List.mem_singleton]
      intro e2
      exact h.apart (e2 ▸ blk_mem (by rw [h.len]; exact hj))
  · rcases mem_set_blk hm with e | e
    · exact hne e.symm
    · exact h.apart e

/-- What a draw of a matrix hands back. -/
def DrawnMx (k : Nat) (w : World) (base : Nat) (v : Value) (M : Lin.Mat) : Prop := HasMx w base v M ∧ M.length ≤ k ∧ ∀ r, r ∈ M → r.length ≤ 6

theorem OwnMx.drawn {w : World} {base : Nat} {v : Value} {R : List (Nat × Nat)} {M : Lin.Mat} {k : Nat} (h : OwnMx w base v R M) (h1 : M.length ≤ k) (h2 : ∀ r, r ∈ M → r.length ≤ 6) : DrawnMx k w base v M := ⟨h.has, h1, h2⟩
theorem pick_some (B : Nat) (a : Option Addr) (n c : Nat) (hn : n ≤ 140737488355328) (b o cc : Nat) (zs : List Int) (h0 : 0 < zs.length) (h1 : zs.length ≤ 4294967296) (w : World) (hc : Cur w B a n c) (hbB : b ≠ B) (hr : IntRow w b o zs) :
    Calls Try.prog 59 #[.pointer (some ⟨B, 0, none⟩), .slice (some ⟨b, o, none⟩) zs.length cc] w fun e w' => ∃ x : Int, e = .returned (.int .i64 x) ∧ Drew w w' B a n c :=
  (pickInt_any B a n c hn b o cc zs h0 h1 w hc hbB hr).mono fun _ _ ⟨_, _, he, hd⟩ => ⟨_, he, hd⟩
theorem tail_plain (M : Lin.Mat) (N K i : Nat) (hi : i = N) (hK : K ≤ 6) (h : M.length = i ∧ ∀ r, r ∈ M → r.length = K) : M.length = N ∧ ∀ r, r ∈ M → r.length ≤ 6 :=
  ⟨by rw [h.1, hi], fun r hr => by rw [h.2 r hr]; exact hK⟩
theorem set_le {M : Lin.Mat} {i : Nat} {r : List Int} (h : ∀ r, r ∈ M → r.length ≤ 6) (hr : r.length ≤ 6) : ∀ x, x ∈ M.set i r → x.length ≤ 6 := fun x hx => by
  rcases List.mem_or_eq_of_mem_set hx with e | e
  · exact h x e
  · rw [e]; exact hr

set_option maxRecDepth 100000 in
set_option maxHeartbeats 8000000 in
theorem l13Draw_any (a : Option Addr) (n c : Nat) (hn : n ≤ 140737488355328) (N K : Nat) (zN zK : Int) (eN : zN = (N : Int)) (eK : zK = (K : Int)) (hN : N ≤ 6) (hK : K ≤ 6) (B : Nat) (w : World) (hBw : B < w.heap.size) (hc : Cur w B a n c) :
    Calls Try.prog 58 #[.pointer (some ⟨B, 0, none⟩), .int .i64 zN, .int .i64 zK] w fun e w' => ∃ v M, e = .returned v ∧ DrawnMx 6 w' w.heap.size v M ∧ Cur w' B a n c ∧ w.grownBy w' (some B) := by
  obtain ⟨i0, hi, hz0, hz1, hz2⟩ := info_parts info_int
  obtain ⟨i9, hi9, hz90, hz91, hz92⟩ := info_parts info_row
  subst eN eK
  have hb0 : Below w.heap.size w (w.alloc (.cells #[] 24)) := (Below.refl _ _).alloc (Nat.le_refl _) _
  have HO0 := Lib.hid (OwnMx.lit w w.heap.size (Nat.le_refl _))
  have HK0 := Lib.hid (hc.keeps hBw hb0)
  have HG0 := Lib.hid (Mem.but_of_below hb0 (some B))
  have HOLD := Lib.hid hc.old
  have hs0 : w.heap.size < (w.alloc (.cells #[] 24)).heap.size := by simp
  clear hc hb0
  go_enter Try.func58, Try.ntmps58
  go_wp2
  go_loopw [7, 8] (fun v z wr => ∃ (i : Nat) (R : List (Nat × Nat)) (M : Lin.Mat), i ≤ N ∧ z = .int .i64 (i : Int) ∧ OwnMx wr w.heap.size v R M ∧ Hid (M.length = i ∧ ∀ r, r ∈ M → r.length = K) ∧ Cur wr B a n c ∧ w.grownBy wr (some B) ∧ w.heap.size < wr.heap.size) (fun _ z _ => N - (intOf z).toNat)
  case atStart => exact ⟨0, [], [], Nat.zero_le _, rfl, HO0.out, ⟨rfl, fun r hr => by simp at hr⟩, HK0.out, HG0.out, hs0⟩
  case round =>
    clear HO0 HK0 HG0 hs0
    obtain ⟨i, R, M, hi2, rfl, hO, HMM, hC, hG, hs⟩ := hrel
    have HO := Lib.hid hO
    have HC := Lib.hid hC
    have HG := Lib.hid hG
    obtain ⟨wo, rfl⟩ : ∃ wo : World, wo = wr := ⟨_, rfl⟩
    clear hO hC hG
    by_cases hiN : i < N
    · have hdi : decide ((i : Int) < (N : Int)) = true := by simpa using hiN
      have hbs : Below wo.heap.size wo (wo.alloc (.cells #[] 3)) := (Below.refl _ _).alloc (Nat.le_refl _) _
      have HST := Lib.hid (OwnInts.lit wo wo.heap.size [] (Nat.le_refl _) (by simp))
      have HCS := Lib.hid (HC.out.keeps (by omega) hbs)
      have HGS := Lib.hid (Mem.but_of_below hbs (some B))
      clear hbs
      go_wp2
      go_loopw [9, 10] (fun v z wr => ∃ (j gg cc : Nat) (xs : List Int), j ≤ K ∧ z = .int .i64 (j : Int) ∧ v = .slice (some ⟨gg, 0, none⟩) j cc ∧ OwnInts wr wo.heap.size v xs ∧ Hid (xs.length = j) ∧ Cur wr B a n c ∧ wo.grownBy wr (some B)) (fun _ z _ => K - (intOf z).toNat)
      case atStart => exact ⟨0, wo.heap.size, 0, [], Nat.zero_le _, rfl, rfl, HST.out, rfl, HCS.out, HGS.out⟩
      case round =>
        clear HST HCS HGS
        obtain ⟨j, gg, cc, xs, hj, rfl, rfl, hO3, HXL, hC3, hG3⟩ := hrel
        have HO3 := Lib.hid hO3
        have HC3 := Lib.hid hC3
        have HG3 := Lib.hid hG3
        have hsz3 := hG3.size
        clear hO3 hC3 hG3
        by_cases hjK : j < K
        · have hdj : decide ((j : Int) < (K : Int)) = true := by simpa using hjK
          go_wp2_with fail
          refine (below_lit B a n c hn _ 7 rfl (by decide) (by decide) _ HC3.out).mono ?_
          rintro e w1 ⟨q, hq, rfl, hd⟩
          have HO4 := Lib.hid (OwnInts.away HO3.out hd.2 (by omega))
          have HC4 := Lib.hid hd.1
          have HG4 := Lib.hid (HG3.out.trans hd.2)
          have hsz4 := HG4.out.size
          have hb5 : Below w1.heap.size w1 (w1.alloc (.cells #[.int .i64 0, .int .i64 1, .int .i64 (-1), .int .i64 0, .int .i64 2, .int .i64 (q : Int)] 3)) := (Below.refl _ _).alloc (Nat.le_refl _) _
          have HO5 := Lib.hid (HO4.out.keeps hb5)
          have HC5 := Lib.hid (HC4.out.keeps (by omega) hb5)
          have HG5 := Lib.hid (HG4.out.trans (Mem.but_of_below hb5 (some B)))
          have HROW := Lib.hid (row_ints w1 [0, 1, -1, 0, 2, (q : Int)] 3)
          have hsz5 : w1.heap.size + 1 = (w1.alloc (.cells #[.int .i64 0, .int .i64 1, .int .i64 (-1), .int .i64 0, .int .i64 2, .int .i64 (q : Int)] 3)).heap.size := by simp
          clear hd hb5 HO3 HC3 HG3 HO4 HC4 HG4
          go_wp2_with fail
          refine (pickInt_any B a n c hn w1.heap.size 0 6 [0, 1, -1, 0, 2, (q : Int)] (by simp) (by simp) _ HC5.out (by omega) (by exact HROW.out)).mono ?_
          rintro e w2 ⟨r, hr, rfl, hd⟩
          obtain ⟨x, hx⟩ : ∃ x, ([0, 1, -1, 0, 2, (q : Int)] : List Int).getD r 0 = x := ⟨_, rfl⟩
          rw [hx]
          have hO6 := OwnInts.away HO5.out hd.2 (by omega)
          unfold OwnInts at hO6
          rw [HXL.out] at hO6
          have HO6 := Lib.hid hO6
          have HC6 := Lib.hid hd.1
          have HG6 := Lib.hid (HG5.out.trans hd.2)
          have hsz6 := HG6.out.size
          have HBG := Lib.hid (fun g (hg : (Value.slice (some ⟨gg, 0, none⟩) j cc).ownBlock = some g) => (HO6.out.lt g hg).1)
          have hge : w.heap.size ≤ wo.heap.size := by omega
          clear hd hx hO6 HO5 HC5 HG5 HROW hsz5
          go_wp2_with (at_builtin; refine wpList_append_own_at _ rfl _ _ 24 rfl wo.heap.size 3 i0 (.int .i64 0) 1 8 Try.underlying24 hi hz0 hz1 hz2 rfl (by decide) _ _ _ rfl (HO6.out.alloc _) ⟨w2.heap.size, 0, none⟩ 1 1 [.int .i64 x] rfl rfl ?c1 ?c2 ?c3 ?c4 ?c5 ?_)
          case c1 => intro j u hj; exact Mem.cell_new w2 _ _ j u hj
          case c2 => intro u hu; simp at hu; subst hu; rfl
          case c3 => unfold maxLen; omega
          case c4 => omega
          case c5 => simp; omega
          intro v' w3 hown1 hgrow _ hob
          obtain ⟨gg2, cap, rfl, -⟩ := hown1.form (by omega)
          have hba : Below w2.heap.size w2 (w2.alloc (.cells #[.int .i64 x] 3)) := (Below.refl _ _).alloc (Nat.le_refl _) _
          have hb3 : Below wo.heap.size w2 w3 := (hba.mono (by omega)).grown hgrow (by simp; omega) HBG.out
          have hO7 : OwnInts w3 wo.heap.size (.slice (some ⟨gg2, 0, none⟩) (j + 1) cap) (xs ++ [x]) := by
            unfold OwnInts
            rw [List.length_append, List.map_append, HXL.out]
            exact hown1
          have HC7 := Lib.hid (HC6.out.below (b := wo.heap.size) (by omega) hb3 (fun j2 hj2 g o e => by have := HC.out.old j2 hj2 g o e; omega))
          have HG7 := Lib.hid (but_below HG6.out hb3 (Nat.le_refl _))
          have HO7 := Lib.hid hO7
          have HXL7 : Hid ((xs ++ [x]).length = j + 1) := by
            have : (xs ++ [x]).length = j + 1 := by rw [List.length_append, HXL.out]; rfl
            exact this
          clear hown1 hgrow hob hO7 hba hb3 HO6 HC6 HG6
          go_wp2
          refine ⟨⟨j + 1, gg2, cap, _, by omega, by go_num, rfl, HO7.out, HXL7, HC7.out, HG7.out⟩, ?_⟩
          simp [intOf]; omega
        · have hdj : decide ((j : Int) < (K : Int)) = false := by simpa using hjK
          have hE : j = K := by omega
          have hOI : OwnInts wr wo.heap.size (.slice (some ⟨gg, 0, none⟩) j cc) xs := HO3.out
          have hxl := HXL.out
          obtain ⟨hg1, hg2, hIr, -⟩ := hOI.known
          have HIR := Lib.hid hIr
          have HMX := Lib.hid (HO.out.away HG3.out (by omega))
          have hml := HMM.out.1
          have HOW := Lib.hid HMX.out.own
          rw [hml] at HOW
          have hnn : u7.ownBlock ≠ some gg := fun e => by have := (HO.out.own.lt gg e).2; omega
          have HNN := Lib.hid hnn
          have hnr : Hid (gg ∉ blks R) := fun hm => by have := (HO.out.old hm).2; omega
          have hi6 : i ≤ 6 := by omega
          have HE := Lib.hid hE
          have HML := Lib.hid hml
          have HGA := Lib.hid (HG.out.trans HG3.out)
          clear hOI hIr hnn hE hxl hml
          go_wp2_with (at_builtin; refine wpList_append_own_at _ rfl _ _ 29 rfl w.heap.size 24 i9 (.slice none 0 0) 1 24 Try.underlying29 hi9 hz90 hz91 hz92 rfl (by decide) _ _ _ rfl (HOW.out.alloc _) ⟨wr.heap.size, 0, none⟩ 1 1 [.slice (some ⟨gg, 0, none⟩) j cc] rfl rfl ?c1 ?c2 ?c3 ?c4 ?c5 ?_)
          case c1 => intro j u hj; exact Mem.cell_new wr _ _ j u hj
          case c2 => intro u hu; simp at hu; subst hu; rfl
          case c3 => unfold maxLen; omega
          case c4 => omega
          case c5 => simp; omega
          intro v' w3 hown1 hgrow _ hob
          have hBA : Below wr.heap.size wr (wr.alloc (.cells #[.slice (some ⟨gg, 0, none⟩) j cc] 24)) := (Below.refl _ _).alloc (Nat.le_refl _) _
          have hb3 : Below w.heap.size wr w3 := (hBA.mono (by omega)).grown hgrow (by simp; omega) (fun g hg => (HMX.out.own.lt g hg).1)
          have hO5 : OwnMx w3 w.heap.size v' (R ++ [(gg, cc)]) (M ++ [xs]) := by
            refine OwnMx.next (HMX.out.keeps hBA) (by omega) (by simp; omega) (HIR.out.keeps hBA) hnr.out HNN.out ?_ hgrow ?_
            · rw [HML.out, HXL.out]; exact hown1
            · rcases hob with e | e
              · exact .inl e
              · exact .inr ⟨_, e, by rw [World.size_alloc]; exact Nat.le_refl _⟩
          have HC7 := Lib.hid (HC3.out.below (b := w.heap.size) (by omega) hb3 (fun j2 hj2 g o e => HOLD.out j2 hj2 g o e))
          have HG7 := Lib.hid (but_below HGA.out hb3 (Nat.le_refl _))
          have HO5 := Lib.hid hO5
          have HM5 : Hid ((M ++ [xs]).length = i + 1 ∧ ∀ r, r ∈ M ++ [xs] → r.length = K) := by
            refine ⟨by rw [List.length_append, HML.out]; rfl, fun r hr => ?_⟩
            rcases List.mem_append.1 hr with h | h
            · exact HMM.out.2 r h
            · rw [List.mem_singleton.1 h, HXL.out]; exact HE.out
          have hs5 : w.heap.size < w3.heap.size := by have := hb3.size; omega
          clear hown1 hgrow hob hO5 hBA hb3
          go_wp2
          go_roundw
          case rel => exact ⟨i + 1, _, _, by omega, by go_num, HO5.out, HM5, HC7.out, HG7.out, hs5⟩
          case measure => simp [intOf]; omega
    · have hdi : decide ((i : Int) < (N : Int)) = false := by simpa using hiN
      have HLN : Hid (M.length = N ∧ ∀ r, r ∈ M → r.length ≤ 6) := tail_plain M N K i (by omega) hK HMM.out
      have HRK : Hid (∀ r, r ∈ M → r.length = K) := HMM.out.2
      clear HMM
      by_cases hN0 : 0 < N
      · have hdN : decide (0 < (N : Int)) = true := decide_eq_true (by omega)
        by_cases hK0 : 0 < K
        · have hdK : decide (0 < (K : Int)) = true := decide_eq_true (by omega)
          go_wp2_with fail
          refine (once_b B a n c hn _ 14 rfl (by decide) (by decide) _ HC.out).mono ?_
          rintro e w1 ⟨b1, rfl, hd⟩
          have O1 := Lib.hid (HO.out.away hd.2 (by omega))
          have C1 := Lib.hid hd.1
          have G1 := Lib.hid (HG.out.trans hd.2)
          have hs1 : w.heap.size < w1.heap.size := Nat.lt_of_lt_of_le hs hd.2.size
          clear hd HO HC HG
          cases b1 with
          | false =>
            by_cases h1 : 1 < N
            · have hd1 : decide (1 < (N : Int)) = true := decide_eq_true (by omega)
              go_wp2_with fail
              refine (once_b B a n c hn _ 16 rfl (by decide) (by decide) _ C1.out).mono ?_
              rintro e wq ⟨bq, rfl, hd⟩
              have OQ := Lib.hid (O1.out.away hd.2 (by omega))
              have CQ := Lib.hid hd.1
              have GQ := Lib.hid (G1.out.trans hd.2)
              have hsq : w.heap.size < wq.heap.size := Nat.lt_of_lt_of_le hs1 hd.2.size
              clear hd
              cases bq with
              | false =>
                go_wp2
                go_ret
                exact ⟨_, M, rfl, OQ.out.drawn (by rw [HLN.out.1]; exact hN) HLN.out.2, CQ.out, GQ.out⟩
              | true =>
                obtain ⟨goq, aoq, coq, hvq, hgoq, hXq⟩ := OQ.out.mx
                obtain ⟨haq, -, hcq, hfq⟩ := hXq.out 1 (by rw [HLN.out.1]; exact h1)
                rw [HLN.out.1] at hvq
                subst haq
                first | subst hvq | (have e3 : go0 = goq ∧ co0 = coq := by simpa using hvq
                                     have e1 := e3.1.symm
                                     have e2 := e3.2.symm
                                     subst e1 e2)
                have hgo1 := hgoq (by rw [HLN.out.1]; omega)
                have hba : Below wq.heap.size wq (wq.alloc (.cells #[.int .i64 1] 3)) := (Below.refl _ _).alloc (Nat.le_refl _) _
                have hXa := hXq.keeps hba
                have hrow : IntsAt (wq.alloc (.cells #[.int .i64 1] 3)) wq.heap.size (some ⟨wq.heap.size, 0, none⟩) [1] := by
                  have h := OwnInts.lit wq wq.heap.size [1] (Nat.le_refl _) (by simp)
                  exact (OwnInts.known h).2.2.1
                have hX2 := hXa.setOut (i := 1) (g := wq.heap.size) (c := 1) (r := [1]) (by rw [HLN.out.1]; exact h1) (fun hm => by have := OQ.out.old hm; omega) (by omega) (by simp) hrow
                have hca : (wq.alloc (.cells #[.int .i64 1] 3)).cell? ⟨goq, 1, none⟩ = some (.slice (some ⟨blk R 1, 0, none⟩) (Lin.row M 1).length (room R 1)) := by rw [hba.cell (p := ⟨goq, 1, none⟩) hgo1.2]; exact hcq
                have hfa : (wq.alloc (.cells #[.int .i64 1] 3)).frozen? ⟨goq, 1, none⟩ = false := by rw [hba.frozen (p := ⟨goq, 1, none⟩) hgo1.2]; exact hfq
                have hb2 : Below w.heap.size wq ((wq.alloc (.cells #[.int .i64 1] 3)).setCell ⟨goq, 1, none⟩ (.slice (some ⟨wq.heap.size, 0, none⟩) 1 1)) := (hba.mono (by omega)).setCell (p := ⟨goq, 1, none⟩) hgo1.1 _
                have CE := Lib.hid (CQ.out.below (b := w.heap.size) hBw hb2 HOLD.out)
                have GE := Lib.hid (but_below GQ.out hb2 (Nat.le_refl _))
                have HE : Hid (DrawnMx 6 ((wq.alloc (.cells #[.int .i64 1] 3)).setCell ⟨goq, 1, none⟩ (.slice (some ⟨wq.heap.size, 0, none⟩) 1 1)) w.heap.size (.slice (some ⟨goq, 0, none⟩) N coq) (M.set 1 [1])) := by
                  refine ⟨⟨some ⟨goq, 0, none⟩, coq, goq, _, by rw [List.length_set, HLN.out.1], fun _ => ⟨hgo1.1, by simp [World.setCell]; omega⟩, fun z hz => ?_, hX2⟩, by rw [List.length_set, HLN.out.1]; exact hN, set_le HLN.out.2 (by simp)⟩
                  rcases mem_set_blk hz with e | e
                  · rw [e]; exact ⟨by omega, by simp [World.setCell]⟩
                  · have := OQ.out.old e
                    exact ⟨this.1, by simp [World.setCell]; omega⟩
                obtain ⟨Bz, hBz⟩ : ∃ b, blk R 1 = b := ⟨_, rfl⟩
                obtain ⟨lz, hlz⟩ : ∃ b, (Lin.row M 1).length = b := ⟨_, rfl⟩
                obtain ⟨Cz, hCz⟩ : ∃ b, room R 1 = b := ⟨_, rfl⟩
                rw [hBz, hlz, hCz] at hca
                clear hXq hXa hX2 hba hb2 hrow hcq hfq hgoq hBz hlz hCz
                have hcm := World.setCell_alloc_past (w := wq) (.cells #[.int .i64 1] 3) goq 1 (.slice (some ⟨wq.heap.size, 0, none⟩) 1 1) hgo1.2
                rw [hcm] at HE CE GE
                clear hcm
                go_wp2
                go_ret
                exact ⟨_, _, rfl, HE.out, CE.out, GE.out⟩
            · have hd1 : decide (1 < (N : Int)) = false := decide_eq_false (by omega)
              go_wp2
              go_ret
              exact ⟨_, M, rfl, O1.out.drawn (by rw [HLN.out.1]; exact hN) HLN.out.2, C1.out, G1.out⟩
          | true =>
            have hlm : 0 < M.length := by rw [HLN.out.1]; exact hN0
            obtain ⟨go0, ao0, co0, hv0, hgo0, hX0⟩ := O1.out.mx
            obtain ⟨ha0, -, hc0, hf0⟩ := hX0.out 0 hlm
            have hrl : (Lin.row M 0).length = K := HRK.out _ (Lin.row_mem hlm)
            have hx0 := hX0.ent hlm (j := 0) (by rw [hrl]; exact hK0)
            have hy0 := hX0.soft hlm (j := 0) (by rw [hrl]; exact hK0)
            rw [HLN.out.1] at hv0
            rw [hrl] at hc0
            subst ha0
            subst hv0
            have hgg := hgo0 hlm
            have hbR := (O1.out.rows 0 hlm)
            have hba : Below w1.heap.size w1 (w1.alloc (.cells #[.int .i64 1000, .int .i64 1001, .int .i64 (-1001)] 3)).drew := by
              have h : Below w1.heap.size w1 (w1.alloc (.cells #[.int .i64 1000, .int .i64 1001, .int .i64 (-1001)] 3)) := (Below.refl _ _).alloc (Nat.le_refl _) _
              exact ⟨h.os, h.tape, h.output, h.size, h.block⟩
            have O2 := Lib.hid (O1.out.keeps hba)
            have C2 := Lib.hid (C1.out.keeps (by omega) hba)
            have G2 := Lib.hid (G1.out.trans (Mem.but_of_below hba (some B)))
            have HROW : Hid (IntRow (w1.alloc (.cells #[.int .i64 1000, .int .i64 1001, .int .i64 (-1001)] 3)).drew w1.heap.size 0 [1000, 1001, -1001]) := row_ints w1 [1000, 1001, -1001] 3
            have HP := Lib.hid (pick_some B a n c hn w1.heap.size 0 3 [1000, 1001, -1001] (by decide) (by decide) _ C2.out (by omega) HROW.out)
            have HOUT : Hid (∀ w3 : World, (w1.alloc (.cells #[.int .i64 1000, .int .i64 1001, .int .i64 (-1001)] 3)).drew.grownBy w3 (some B) → w3.cell? ⟨go0, 0, none⟩ = some (.slice (some ⟨blk R 0, 0, none⟩) K (room R 0)) ∧ w3.cell? ⟨blk R 0, 0, none⟩ = some (.int .i64 (Lin.ent M 0 0)) ∧ w3.frozen? ⟨blk R 0, 0, none⟩ = false) := by
              have : ∀ w3 : World, (w1.alloc (.cells #[.int .i64 1000, .int .i64 1001, .int .i64 (-1001)] 3)).drew.grownBy w3 (some B) → w3.cell? ⟨go0, 0, none⟩ = some (.slice (some ⟨blk R 0, 0, none⟩) K (room R 0)) ∧ w3.cell? ⟨blk R 0, 0, none⟩ = some (.int .i64 (Lin.ent M 0 0)) ∧ w3.frozen? ⟨blk R 0, 0, none⟩ = false := fun w3 h3 => by
                have e1 := (h3.block go0 (Nat.lt_of_lt_of_le hgg.2 hba.size) (fun e => by have := Option.some.inj e; omega)).trans (hba.block go0 hgg.2)
                have e2 := (h3.block (blk R 0) (Nat.lt_of_lt_of_le hbR.2.1 hba.size) (fun e => by have := Option.some.inj e; omega)).trans (hba.block (blk R 0) hbR.2.1)
                exact ⟨by rw [World.cell?_of_block (w := w1) e1]; exact hc0, by rw [World.cell?_of_block (w := w1) e2]; exact hx0, by rw [World.frozen?_of_block (w := w1) e2]; exact hy0⟩
              exact this
            have hca : (w1.alloc (.cells #[.int .i64 1000, .int .i64 1001, .int .i64 (-1001)] 3)).cell? ⟨go0, 0, none⟩ = some (.slice (some ⟨blk R 0, 0, none⟩) K (room R 0)) := by
              have h : Below w1.heap.size w1 (w1.alloc (.cells #[.int .i64 1000, .int .i64 1001, .int .i64 (-1001)] 3)) := (Below.refl _ _).alloc (Nat.le_refl _) _
              rw [h.cell (p := ⟨go0, 0, none⟩) hgg.2]; exact hc0
            have HNX := Lib.hid (fun (w3 : World) (x : Int) (h3 : (w1.alloc (.cells #[.int .i64 1000, .int .i64 1001, .int .i64 (-1001)] 3)).drew.grownBy w3 (some B)) => (O2.out.away h3 (by omega)).set hlm 0 x)
            have HL2 : Hid (∀ x, (M.set 0 ((Lin.row M 0).set 0 x)).length = N ∧ ∀ r, r ∈ M.set 0 ((Lin.row M 0).set 0 x) → r.length ≤ 6) := by
              have : ∀ x, (M.set 0 ((Lin.row M 0).set 0 x)).length = N ∧ ∀ r, r ∈ M.set 0 ((Lin.row M 0).set 0 x) → r.length ≤ 6 := fun x => ⟨by rw [List.length_set, HLN.out.1], set_le HLN.out.2 (by rw [List.length_set, hrl]; exact hK)⟩
              exact this
            have hbl := hbR.1
            obtain ⟨Bz, hBz⟩ : ∃ b, blk R 0 = b := ⟨_, rfl⟩
            obtain ⟨Cz, hCz⟩ : ∃ b, room R 0 = b := ⟨_, rfl⟩
            obtain ⟨y, hy⟩ : ∃ b, Lin.ent M 0 0 = b := ⟨_, rfl⟩
            rw [hBz] at hbl
            rw [hBz, hCz] at hc0 hca
            simp only [hBz, hCz, hy] at HOUT
            simp only [hBz] at HNX
            clear hX0 hx0 hy0 hgo0 hbR hba hrl hBz hCz hy O1 C1 G1
            go_wp2_with fail
            go_region_law (first | (go_simp; go_at_call 59; refine HP.out.mono ?_; rintro e w3 ⟨x, rfl, hd⟩; obtain ⟨q1, q2, q3⟩ := HOUT.out w3 hd.2; have C3 := Lib.hid hd.1; have HGD := Lib.hid hd.2; have G3 := Lib.hid (G2.out.trans hd.2); clear hd) | fail "arm")
            all_goals
              have O4 := Lib.hid (HNX.out w3 x HGD.out)
              have L4 := Lib.hid (HL2.out x)
              have hb4 : Below w.heap.size w3 (w3.setCell ⟨Bz, 0, none⟩ (.int .i64 x)) := (Below.refl _ _).setCell (p := ⟨Bz, 0, none⟩) hbl _
              have C4 := Lib.hid (C3.out.below (b := w.heap.size) hBw hb4 HOLD.out)
              have G4 := Lib.hid (but_below G3.out hb4 (Nat.le_refl _))
              have hs4 : w.heap.size < (w3.setCell ⟨Bz, 0, none⟩ (.int .i64 x)).heap.size := by have := HGD.out.size; simp at this; simp [World.setCell]; omega
              generalize hw4 : w3.setCell ⟨Bz, 0, none⟩ (.int .i64 x) = w4 at *
              obtain ⟨M4, hM4⟩ : ∃ Q, M.set 0 ((Lin.row M 0).set 0 x) = Q := ⟨_, rfl⟩
              rw [hM4] at O4
              rw [hM4] at L4
              clear hb4 hM4 q1 q2 q3 HOUT HP HNX HL2 O2 C2 G2 HROW
              by_cases h1 : 1 < N
              · have hd1 : decide (1 < (N : Int)) = true := decide_eq_true (by omega)
                go_wp2_with fail
                refine (once_b B a n c hn _ 16 rfl (by decide) (by decide) _ C4.out).mono ?_
                rintro e wq ⟨bq, rfl, hd⟩
                have OQ := Lib.hid (O4.out.away hd.2 (by omega))
                have CQ := Lib.hid hd.1
                have GQ := Lib.hid (G4.out.trans hd.2)
                have hsq : w.heap.size < wq.heap.size := Nat.lt_of_lt_of_le hs4 hd.2.size
                clear hd
                cases bq with
                | false =>
                  go_wp2
                  go_ret
                  exact ⟨_, M4, rfl, OQ.out.drawn (by rw [L4.out.1]; exact hN) L4.out.2, CQ.out, GQ.out⟩
                | true =>
                  obtain ⟨goq, aoq, coq, hvq, hgoq, hXq⟩ := OQ.out.mx
                  obtain ⟨haq, -, hcq, hfq⟩ := hXq.out 1 (by rw [L4.out.1]; exact h1)
                  rw [L4.out.1] at hvq
                  subst haq
                  first | subst hvq | (have e3 : go0 = goq ∧ co0 = coq := by simpa using hvq
                                       have e1 := e3.1.symm
                                       have e2 := e3.2.symm
                                       subst e1 e2)
                  have hgo1 := hgoq (by rw [L4.out.1]; omega)
                  have hba : Below wq.heap.size wq (wq.alloc (.cells #[.int .i64 1] 3)) := (Below.refl _ _).alloc (Nat.le_refl _) _
                  have hXa := hXq.keeps hba
                  have hrow : IntsAt (wq.alloc (.cells #[.int .i64 1] 3)) wq.heap.size (some ⟨wq.heap.size, 0, none⟩) [1] := by
                    have h := OwnInts.lit wq wq.heap.size [1] (Nat.le_refl _) (by simp)
                    exact (OwnInts.known h).2.2.1
                  have hX2 := hXa.setOut (i := 1) (g := wq.heap.size) (c := 1) (r := [1]) (by rw [L4.out.1]; exact h1) (fun hm => by have := OQ.out.old hm; omega) (by omega) (by simp) hrow
                  have hca : (wq.alloc (.cells #[.int .i64 1] 3)).cell? ⟨goq, 1, none⟩ = some (.slice (some ⟨blk R 1, 0, none⟩) (Lin.row M4 1).length (room R 1)) := by rw [hba.cell (p := ⟨goq, 1, none⟩) hgo1.2]; exact hcq
                  have hfa : (wq.alloc (.cells #[.int .i64 1] 3)).frozen? ⟨goq, 1, none⟩ = false := by rw [hba.frozen (p := ⟨goq, 1, none⟩) hgo1.2]; exact hfq
                  have hb2 : Below w.heap.size wq ((wq.alloc (.cells #[.int .i64 1] 3)).setCell ⟨goq, 1, none⟩ (.slice (some ⟨wq.heap.size, 0, none⟩) 1 1)) := (hba.mono (by omega)).setCell (p := ⟨goq, 1, none⟩) hgo1.1 _
                  have CE := Lib.hid (CQ.out.below (b := w.heap.size) hBw hb2 HOLD.out)
                  have GE := Lib.hid (but_below GQ.out hb2 (Nat.le_refl _))
                  have HE : Hid (DrawnMx 6 ((wq.alloc (.cells #[.int .i64 1] 3)).setCell ⟨goq, 1, none⟩ (.slice (some ⟨wq.heap.size, 0, none⟩) 1 1)) w.heap.size (.slice (some ⟨goq, 0, none⟩) N coq) (M4.set 1 [1])) := by
                    refine ⟨⟨some ⟨goq, 0, none⟩, coq, goq, _, by rw [List.length_set, L4.out.1], fun _ => ⟨hgo1.1, by simp [World.setCell]; omega⟩, fun z hz => ?_, hX2⟩, by rw [List.length_set, L4.out.1]; exact hN, set_le L4.out.2 (by simp)⟩
                    rcases mem_set_blk hz with e | e
                    · rw [e]; exact ⟨by omega, by simp [World.setCell]⟩
                    · have := OQ.out.old e
                      exact ⟨this.1, by simp [World.setCell]; omega⟩
                  obtain ⟨Bz, hBz⟩ : ∃ b, blk R 1 = b := ⟨_, rfl⟩
                  obtain ⟨lz, hlz⟩ : ∃ b, (Lin.row M4 1).length = b := ⟨_, rfl⟩
                  obtain ⟨Cz, hCz⟩ : ∃ b, room R 1 = b := ⟨_, rfl⟩
                  rw [hBz, hlz, hCz] at hca
                  clear hXq hXa hX2 hba hb2 hrow hcq hfq hgoq hBz hlz hCz
                  have hcm := World.setCell_alloc_past (w := wq) (.cells #[.int .i64 1] 3) goq 1 (.slice (some ⟨wq.heap.size, 0, none⟩) 1 1) hgo1.2
                  rw [hcm] at HE CE GE
                  clear hcm
                  go_wp2
                  go_ret
                  exact ⟨_, _, rfl, HE.out, CE.out, GE.out⟩
              · have hd1 : decide (1 < (N : Int)) = false := decide_eq_false (by omega)
                go_wp2
                go_ret
                exact ⟨_, M4, rfl, O4.out.drawn (by rw [L4.out.1]; exact hN) L4.out.2, C4.out, G4.out⟩
        · have hdK : decide (0 < (K : Int)) = false := decide_eq_false (by omega)
          by_cases h1 : 1 < N
          · have hd1 : decide (1 < (N : Int)) = true := decide_eq_true (by omega)
            go_wp2_with fail
            refine (once_b B a n c hn _ 16 rfl (by decide) (by decide) _ HC.out).mono ?_
            rintro e wq ⟨bq, rfl, hd⟩
            have OQ := Lib.hid (HO.out.away hd.2 (by omega))
            have CQ := Lib.hid hd.1
            have GQ := Lib.hid (HG.out.trans hd.2)
            have hsq : w.heap.size < wq.heap.size := Nat.lt_of_lt_of_le hs hd.2.size
            clear hd
            cases bq with
            | false =>
              go_wp2
              go_ret
              exact ⟨_, M, rfl, OQ.out.drawn (by rw [HLN.out.1]; exact hN) HLN.out.2, CQ.out, GQ.out⟩
            | true =>
              obtain ⟨goq, aoq, coq, hvq, hgoq, hXq⟩ := OQ.out.mx
              obtain ⟨haq, -, hcq, hfq⟩ := hXq.out 1 (by rw [HLN.out.1]; exact h1)
              rw [HLN.out.1] at hvq
              subst haq
              first | subst hvq | (have e3 : go0 = goq ∧ co0 = coq := by simpa using hvq
                                   have e1 := e3.1.symm
                                   have e2 := e3.2.symm
                                   subst e1 e2)
              have hgo1 := hgoq (by rw [HLN.out.1]; omega)
              have hba : Below wq.heap.size wq (wq.alloc (.cells #[.int .i64 1] 3)) := (Below.refl _ _).alloc (Nat.le_refl _) _
              have hXa := hXq.keeps hba
              have hrow : IntsAt (wq.alloc (.cells #[.int .i64 1] 3)) wq.heap.size (some ⟨wq.heap.size, 0, none⟩) [1] := by
                have h := OwnInts.lit wq wq.heap.size [1] (Nat.le_refl _) (by simp)
                exact (OwnInts.known h).2.2.1
              have hX2 := hXa.setOut (i := 1) (g := wq.heap.size) (c := 1) (r := [1]) (by rw [HLN.out.1]; exact h1) (fun hm => by have := OQ.out.old hm; omega) (by omega) (by simp) hrow
              have hca : (wq.alloc (.cells #[.int .i64 1] 3)).cell? ⟨goq, 1, none⟩ = some (.slice (some ⟨blk R 1, 0, none⟩) (Lin.row M 1).length (room R 1)) := by rw [hba.cell (p := ⟨goq, 1, none⟩) hgo1.2]; exact hcq
              have hfa : (wq.alloc (.cells #[.int .i64 1] 3)).frozen? ⟨goq, 1, none⟩ = false := by rw [hba.frozen (p := ⟨goq, 1, none⟩) hgo1.2]; exact hfq
              have hb2 : Below w.heap.size wq ((wq.alloc (.cells #[.int .i64 1] 3)).setCell ⟨goq, 1, none⟩ (.slice (some ⟨wq.heap.size, 0, none⟩) 1 1)) := (hba.mono (by omega)).setCell (p := ⟨goq, 1, none⟩) hgo1.1 _
              have CE := Lib.hid (CQ.out.below (b := w.heap.size) hBw hb2 HOLD.out)
              have GE := Lib.hid (but_below GQ.out hb2 (Nat.le_refl _))
              have HE : Hid (DrawnMx 6 ((wq.alloc (.cells #[.int .i64 1] 3)).setCell ⟨goq, 1, none⟩ (.slice (some ⟨wq.heap.size, 0, none⟩) 1 1)) w.heap.size (.slice (some ⟨goq, 0, none⟩) N coq) (M.set 1 [1])) := by
                refine ⟨⟨some ⟨goq, 0, none⟩, coq, goq, _, by rw [List.length_set, HLN.out.1], fun _ => ⟨hgo1.1, by simp [World.setCell]; omega⟩, fun z hz => ?_, hX2⟩, by rw [List.length_set, HLN.out.1]; exact hN, set_le HLN.out.2 (by simp)⟩
                rcases mem_set_blk hz with e | e
                · rw [e]; exact ⟨by omega, by simp [World.setCell]⟩
                · have := OQ.out.old e
                  exact ⟨this.1, by simp [World.setCell]; omega⟩
              obtain ⟨Bz, hBz⟩ : ∃ b, blk R 1 = b := ⟨_, rfl⟩
              obtain ⟨lz, hlz⟩ : ∃ b, (Lin.row M 1).length = b := ⟨_, rfl⟩
              obtain ⟨Cz, hCz⟩ : ∃ b, room R 1 = b := ⟨_, rfl⟩
              rw [hBz, hlz, hCz] at hca
              clear hXq hXa hX2 hba hb2 hrow hcq hfq hgoq hBz hlz hCz
              have hcm := World.setCell_alloc_past (w := wq) (.cells #[.int .i64 1] 3) goq 1 (.slice (some ⟨wq.heap.size, 0, none⟩) 1 1) hgo1.2
              rw [hcm] at HE CE GE
              clear hcm
              go_wp2
              go_ret
              exact ⟨_, _, rfl, HE.out, CE.out, GE.out⟩
          · have hd1 : decide (1 < (N : Int)) = false := decide_eq_false (by omega)
            go_wp2
            go_ret
            exact ⟨_, M, rfl, HO.out.drawn (by rw [HLN.out.1]; exact hN) HLN.out.2, HC.out, HG.out⟩
      · have hdN : decide (0 < (N : Int)) = false := decide_eq_false (by omega)
        have hd1 : decide (1 < (N : Int)) = false := decide_eq_false (by omega)
        go_wp2
        go_ret
        exact ⟨_, M, rfl, HO.out.drawn (by rw [HLN.out.1]; exact hN) HLN.out.2, HC.out, HG.out⟩

end Go.Proofs.Ythjgpbcdcgagfaa
