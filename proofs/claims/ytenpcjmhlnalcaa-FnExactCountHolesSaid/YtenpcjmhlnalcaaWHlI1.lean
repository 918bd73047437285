/-
  WALKS: impl's chapter 14: the ranks of the borders of all sizes.
-/
import Derived.Test.YtenpcjmhlnalcaaHlI
import Derived.Test.YtenpcjmhlnalcaaWMatIB
import Derived.Test.YtenpcjmhlnalcaaJg27
import Derived.Test.YtenpcjmhlnalcaaJg9
import Derived.Shelf.Abstract
namespace Go.Proofs.Ytenpcjmhlnalcaa
open Go.RowKit
open Sets Lin Hom

theorem bordZ_lim (n : Int) (xs : List Int) (k : Int) : (bordZ n xs k).length ≤ 1099511627776 ∧ ∀ i, i < (bordZ n xs k).length → (Lin.row (bordZ n xs k) i).length ≤ 1099511627776 :=
  ⟨(bordZ_off n xs k).1, fun i hi => by have := offM_row (bordZ n xs k) i hi; have := (bordZ_off n xs k).2; omega⟩

set_option maxRecDepth 100000 in
set_option maxHeartbeats 2000000 in
theorem holes1_any (p : Int) (P : Nat) (n : Int) (xs : List Int) (k : Nat) {base : Nat} {v : Value} (w : World) (hk : w.cell? ⟨P, 0, none⟩ = some (.int .i64 p)) (h : HasMx w base v (bordZ n xs (k : Int))) :
    Calls Try.prog 33 #[v, .pointer (some ⟨P, 0, none⟩)] w fun e w' => e = .returned (.int .i64 (rkB n xs p k)) ∧ Below w.heap.size w w' := by
  obtain ⟨ao, co, go, R, rfl, -, -, h4⟩ := h
  have hC := implRank_any p go ao co R _ (bordZ_lim n xs k).1 (bordZ_lim n xs k).2 w h4
  rw [show rankZ (bordZ n xs (k : Int)) p = rkB n xs p k from rfl] at hC
  obtain ⟨r, hr⟩ : ∃ r, rkB n xs p k = r := ⟨_, rfl⟩
  obtain ⟨l, hl⟩ : ∃ l, (bordZ n xs (k : Int)).length = l := ⟨_, rfl⟩
  rw [hr, hl] at hC
  rw [hr, hl]
  have HC := Lib.hid hC
  clear h4 hC hr hl
  go_enter Try.func33, Try.ntmps33
  go_wp2_with fail
  refine HC.out.mono ?_
  rintro e w1 ⟨rfl, hb⟩
  have HB := Lib.hid hb
  clear hb
  go_wp2
  go_ret
  exact ⟨rfl, HB.out⟩

def rkL (n : Int) (xs : List Int) (p : Int) (m : Nat) : List Int := (List.range m).map fun k => rkB n xs p k
theorem rkL_length (n : Int) (xs : List Int) (p : Int) (m : Nat) : (rkL n xs p m).length = m := by simp [rkL]
theorem rkL_next (n : Int) (xs : List Int) (p : Int) (m : Nat) : rkL n xs p (m + 1) = rkL n xs p m ++ [rkB n xs p m] := by
  unfold rkL; rw [List.range_succ, List.map_append]; rfl
theorem rkL_at (n : Int) (xs : List Int) (p : Int) (m k : Nat) (h : k < m) : (rkL n xs p m).getD k 0 = rkB n xs p k := by simp [rkL, List.getD, h]

set_option maxRecDepth 100000 in
set_option maxHeartbeats 8000000 in
theorem fromB_any (n : Int) (a : Option Addr) (c : Nat) (xs : List Int) (hcap : xs.length ≤ c) (hlen : xs.length ≤ 1099511627776) (p : Int) (P : Nat) (w : World) (h : Ints w a xs) (hP : P < w.heap.size) (hk : w.cell? ⟨P, 0, none⟩ = some (.int .i64 p)) :
    Calls Try.prog 32 #[cx n (.slice a xs.length c), .func (.func 33) #[] #[.pointer (some ⟨P, 0, none⟩)]] w fun e w' => ∃ v, e = .returned v ∧ OwnInts w' w.heap.size v (rkL n xs p (top (faces n xs) + 1)) ∧ Below w.heap.size w w' := by
  obtain ⟨i0, hi, hz0, hz1, hz2⟩ := info_parts info_int
  have eg : ∀ args w, (callFunc 33 args).run Try.prog w = .ok (.enter 33 args) w := enters_of Try.func33 (by kernel_rfl) rfl
  have hb0 : Below w.heap.size w (w.alloc (Obj.cells #[Value.int IntKind.i64 n, Value.slice a xs.length c] 27)) := (Below.refl _ _).alloc (Nat.le_refl _) _
  have htwo := Two.new w (.int .i64 n) (.slice a xs.length c) 27
  have H0 := Lib.hid h
  have HB0 := Lib.hid hb0
  have HT := Lib.hid htwo
  have HK := Lib.hid (fun (W : World) (hW : Below w.heap.size w W) => (hW.cell (p := ⟨P, 0, none⟩) hP).trans hk)
  have HCN := Lib.hid (fun (W : World) (hh : Ints W a xs) => implCounts_any n a c xs hcap hlen W hh)
  have HBR := Lib.hid (fun (k : Nat) (W : World) (hh : Ints W a xs) => implBordMx_any n a c xs hcap hlen (k : Int) W hh)
  have HRK := Lib.hid (fun (k base : Nat) (v : Value) (W : World) hk (hM : HasMx W base v (bordZ n xs (k : Int))) => holes1_any p P n xs k W hk hM)
  have htop := top_le (faces n xs)
  have hcl := counts_length (faces n xs)
  obtain ⟨m, hm⟩ : ∃ m, top (faces n xs) = m := ⟨_, rfl⟩
  obtain ⟨F, hF⟩ : ∃ F, counts (faces n xs) = F := ⟨_, rfl⟩
  rw [hm] at htop hcl
  rw [hF] at hcl HCN
  rw [hm]
  have HL := Lib.hid hcl
  have HNX := Lib.hid (rkL_next n xs p)
  have HLN := Lib.hid (rkL_length n xs p)
  clear h hb0 htwo hk hm hF hcl
  go_enter Try.func32, Try.ntmps32
  obtain ⟨t0, t1, t2, _, _⟩ := HT.out
  go_wp2_with fail
  refine (HCN.out _ (H0.out.keeps HB0.out)).mono ?_
  rintro e w1 ⟨v1, rfl, hO1, hb1⟩
  obtain ⟨a1, c1, g1, rfl, -, -, -, -⟩ := hO1
  rw [HL.out]
  have HB1 : Hid (Below w.heap.size w w1) := HB0.out.trans (hb1.mono HB0.out.size)
  have HT1 := Lib.hid (HT.out.keeps hb1)
  clear hb1 t0 t1 t2
  go_wp2
  go_loopw [5, 11] (fun v i wr => ∃ k : Nat, k ≤ m + 1 ∧ i = .int .i64 (k : Int) ∧ OwnInts wr w.heap.size v (rkL n xs p k) ∧ Below w.heap.size w wr ∧ Two wr w.heap.size (.int .i64 n) (.slice a xs.length c) ∧ v.ownBlock ≠ some w.heap.size) (fun _ i _ => m + 1 - (intOf i).toNat)
  case atStart => exact ⟨0, Nat.zero_le _, rfl, OwnInts.nil _ _, HB1.out, HT1.out, by simp [Value.ownBlock]⟩
  case round =>
    obtain ⟨k, hk, rfl, hO, hB, hT, hn⟩ := hrel
    have HO := Lib.hid hO
    have HB := Lib.hid hB
    have HT := Lib.hid hT
    have HN := Lib.hid hn
    have hbl := hT.1
    have hsz := hB.size
    obtain ⟨wo, rfl⟩ : ∃ wo : World, wo = wr := ⟨_, rfl⟩
    by_cases hlt : k < m + 1
    · have hd : decide ((k : Int) < (m : Int) + 1) = true := decide_eq_true (by omega)
      obtain ⟨t0, t1, t2, _, _⟩ := hT
      clear hO hB hn
      go_wp2_with fail
      refine (HBR.out k _ (H0.out.keeps HB.out)).mono ?_
      rintro e w2 ⟨v2, rfl, hM2, hb2⟩
      have HM2 := Lib.hid hM2
      have HB2 := Lib.hid hb2
      have HC2 := Lib.hid (HRK.out k _ _ w2 (HK.out w2 (HB.out.trans (hb2.mono hsz))) hM2)
      obtain ⟨r, hr⟩ : ∃ r, rkB n xs p k = r := ⟨_, rfl⟩
      have HNK := Lib.hid (HNX.out k)
      rw [hr] at HC2 HNK
      have hz2w := hb2.size
      clear hM2 hb2 t0 t1 t2 hr
      go_wp2_with (first
        | (go_at_fn 33; refine HC2.out.mono ?_; rintro e w3 ⟨rfl, hb3⟩; have HB3 : Hid (Below wo.heap.size wo w3) := HB2.out.trans (hb3.mono HB2.out.size); have HO3 := Lib.hid (HO.out.keeps HB3.out); have HT3 := Lib.hid (HT.out.keeps HB3.out); have hz3 := HB3.out.size; unfold OwnInts at HO3; rw [HLN.out] at HO3; clear hb3)
        | (at_builtin; refine wpList_append_own_at _ rfl _ _ 22 rfl w.heap.size 3 i0 (.int .i64 0) 1 8 Try.underlying22 hi hz0 hz1 hz2 rfl (by decide) _ _ _ rfl (HO3.out.alloc _) ⟨w3.heap.size, 0, none⟩ 1 1 [.int .i64 r] rfl rfl ?c1 ?c2 ?c3 ?c4 ?c5 ?_)
        | fail "arm")
      case c1 => intro j u hj; exact Mem.cell_new w3 _ _ j u hj
      case c2 => intro u hu; simp at hu; subst hu; rfl
      case c3 => unfold maxLen; omega
      case c4 => omega
      case c5 => simp; omega
      intro v' w4 hown1 hgrow _ hob
      have hBA : Below w3.heap.size w3 (w3.alloc (.cells #[.int .i64 r] 3)) := (Below.refl _ _).alloc (Nat.le_refl _) _
      have HB5 : Hid (Below w.heap.size w w4) := ((HB.out.trans (HB3.out.mono hsz)).trans (hBA.mono (by omega))).grown hgrow (by simp; omega) (fun g hg => (HO3.out.lt g hg).1)
      have HT5 : Hid (Two w4 w.heap.size (.int .i64 n) (.slice a xs.length c)) := Two.grow2 (HT3.out.keeps hBA) hgrow HN.out
      have HO5 : Hid (OwnInts w4 w.heap.size v' (rkL n xs p (k + 1))) := by
        have : OwnInts w4 w.heap.size v' (rkL n xs p (k + 1)) := by
          rw [HNK.out]
          unfold OwnInts
          rw [List.length_append, List.map_append, HLN.out]
          exact hown1
        exact this
      have HN5 : Hid (v'.ownBlock ≠ some w.heap.size) := by
        have : v'.ownBlock ≠ some w.heap.size := by
          rcases hob with e | e
          · rw [e]; exact HN.out
          · rw [e]; simp; omega
        exact this
      clear hown1 hgrow hob hBA
      go_wp2
      go_roundw
      case rel => exact ⟨k + 1, by omega, by go_num, HO5.out, HB5.out, HT5.out, HN5.out⟩
      case measure => simp [intOf]; omega
    · have hd : decide ((k : Int) < (m : Int) + 1) = false := decide_eq_false (by omega)
      have E := Lib.hid (show k = m + 1 by omega)
      clear hO hB hT hn
      go_wp2
      go_ret
      exact ⟨_, rfl, by have h := HO.out; rw [E.out] at h; exact h, HB.out⟩

end Go.Proofs.Ytenpcjmhlnalcaa
