/-
  WALKS: spec's shellings: FindShelling, IsShellable.
-/
import Derived.Test.YtmonaiojejbhkaaWShS2
import Derived.Test.YtmonaiojejbhkaaJg15
import Derived.Test.YtmonaiojejbhkaaJg16
import Derived.Test.YtmonaiojejbhkaaJg6
namespace Go.Proofs.Ytmonaiojejbhkaa
open Go.RowKit
open Sets Hn Kk Sh

/-- What IsShellable may answer. -/
def ShPost (n : Int) (xs : List Int) (b : Bool) : Prop := b = true → isC n xs = true ∧ xs.length ≤ 8 ∧ Shell (upTo xs 64)

theorem upTo_fsets (xs : List Int) (s : Nat) (hs : s ≤ 64) : FSets (upTo xs s) := fun j hj => by
  have hm : (upTo xs s).getD j 0 ∈ upTo xs s := by rw [List.getD, List.getElem?_eq_getElem hj]; exact List.getElem_mem hj
  obtain ⟨_, t, ht, e⟩ := upTo_mem hm
  exact ⟨t, e, by omega⟩

set_option maxRecDepth 100000 in
set_option maxHeartbeats 8000000 in
theorem specFind_any (n : Int) (a : Option Addr) (c : Nat) (xs : List Int) (hlen : xs.length ≤ 1099511627776) (w : World) (h : Ints w a xs) :
    Calls Try.prog 60 #[cx n (.slice a xs.length c)] w fun e w' => ∃ (a' : Option Addr) (n' c' : Nat) (b : Bool), e = .returned (.tuple #[.slice a' n' c', .bool b]) ∧ ShPost n xs b ∧ Below w.heap.size w w' := by
  obtain ⟨i0, hi, hz0, hz1, hz2⟩ := info_parts info_int
  have hb0 : Below w.heap.size w (w.alloc (Obj.cells #[Value.int IntKind.i64 n, Value.slice a xs.length c] 33)) := (Below.refl _ _).alloc (Nat.le_refl _) _
  have htw := Two.new w (.int .i64 n) (.slice a xs.length c) 33
  have HT0 := Lib.hid htw
  have HH0 := Lib.hid (h.keeps hb0)
  have HB0 := Lib.hid hb0
  have hz := hb0.size
  obtain ⟨b0, hC⟩ : ∃ b, isC n xs = b := ⟨_, rfl⟩
  have HCI := Lib.hid hC
  have hcc := HH0.out
  obtain ⟨l, hl⟩ : ∃ l, xs.length = l := ⟨_, rfl⟩
  have HL := Lib.hid hl
  rw [hl] at hcc HH0 HB0 HT0 hz ⊢
  have HCC := Lib.hid (specIsC_len n a c xs l hl b0 hC (by omega) _ hcc)
  clear hC hb0 h htw hl hcc
  go_enter Try.func60, Try.ntmps60
  obtain ⟨t0, t1, t2, -, -⟩ := HT0.out
  go_wp2_with fail
  refine HCC.out.mono ?_
  rintro e w1 ⟨rfl, hb1⟩
  have HB1 : Hid (Below w.heap.size w w1) := HB0.out.trans (hb1.mono hz)
  have HT1 := Lib.hid (HT0.out.keeps hb1)
  have HX1 := Lib.hid (HH0.out.keeps hb1)
  clear hb1 t0 t1 t2 HT0 HH0
  have hz1w := HB1.out.size
  cases b0 with
  | false =>
    go_wp2
    go_ret2
    refine ⟨_, _, _, false, rfl, ?_, HB1.out.alloc hz1w _⟩
    intro h; cases h
  | true =>
  obtain ⟨t0, t1, t2, -, -⟩ := HT1.out
  by_cases h8 : 8 < l
  · have hd8 : decide (8 < l) = true := by simpa using h8
    have hd8z : decide (8 < (l : Int)) = true := by simp; omega
    clear h8
    go_wp2
    go_ret2
    refine ⟨_, _, _, false, rfl, ?_, HB1.out.alloc hz1w _⟩
    intro h; cases h
  have hd8 : decide (8 < l) = false := by simpa using h8
  have hd8z : decide (8 < (l : Int)) = false := by simp; omega
  have hO0 := OwnInts.lit w1 w1.heap.size [] (Nat.le_refl _) (by simp)
  have hb2 : Below w1.heap.size w1 (w1.alloc (.cells #[] 3)) := (Below.refl _ _).alloc (Nat.le_refl _) _
  have HO0 := Lib.hid hO0
  have HB2 := Lib.hid hb2
  have hl8 : l ≤ 8 := by omega
  have HFS := Lib.hid (upTo_fsets xs 64 (by omega))
  have HFEW := Lib.hid (@upTo_few xs (by rw [HL.out]; exact hl8))
  clear hO0 hb2 h8
  go_wp2
  go_loopw [4, 5] (fun v iv wr => ∃ (s m cc gg : Nat), s ≤ 64 ∧ iv = .int .i64 (s : Int) ∧ v = .slice (some ⟨gg, 0, none⟩) m cc ∧ (upTo xs s).length = m ∧ OwnInts wr w1.heap.size (.slice (some ⟨gg, 0, none⟩) m cc) (upTo xs s) ∧ Below w1.heap.size w1 wr) (fun _ iv _ => 64 - (intOf iv).toNat)
  case atStart => exact ⟨0, 0, _, _, by omega, rfl, rfl, rfl, HO0.out, HB2.out⟩
  case round =>
    clear HO0 HB2 t0 t1 t2
    obtain ⟨s, m, cc, gg, hs, rfl, rfl, hm, hO, hB⟩ := hrel
    have HO := Lib.hid hO
    have HB := Lib.hid hB
    have HM := Lib.hid hm
    have hmle : m ≤ s := by rw [← hm]; exact upTo_le xs s
    have hsz := hB.size
    clear hO hB hm
    by_cases hs64 : s = 64
    · subst hs64
      have hO1 := HO.out
      have hbA : Below wr.heap.size wr (wr.alloc (.cells #[] 3)) := (Below.refl _ _).alloc (Nat.le_refl _) _
      have hI : Ints (wr.alloc (.cells #[] 3)) (some ⟨gg, 0, none⟩) (upTo xs 64) := (OwnInts.known hO1).2.2.1.ints.keeps hbA
      have HCALL := Lib.hid (l19Find_any (upTo xs 64) m HM.out (by have := HFEW.out; rw [HM.out] at this; exact this) HFS.out m [] 0 rfl (by omega) List.nodup_nil (fun x hx => by cases hx) shellB_nil gg 0 cc 0 (some ⟨wr.heap.size, 0, none⟩) (wr.alloc (.cells #[] 3)) hI (fun j hj => absurd hj (Nat.not_lt_zero _)))
      have HBA : Hid (Below w.heap.size w (wr.alloc (.cells #[] 3))) := Lib.hid ((HB1.out.trans (HB.out.mono hz1w)).alloc (by omega) _)
      have hszA := HBA.out.size
      clear hO1 hbA hI
      go_wp2_with fail
      refine HCALL.out.mono ?_
      rintro e w5 ⟨a5, n5, c5, b5, rfl, hsh5, hb5⟩
      have HSH : Hid (ShPost n xs b5) := Lib.hid (fun e => ⟨HCI.out, by rw [HL.out]; exact hl8, hsh5 e⟩)
      have HB5 : Hid (Below w.heap.size w w5) := Lib.hid (HBA.out.trans (hb5.mono hszA))
      clear hsh5 hb5
      go_wp2
      go_ret2
      exact ⟨_, _, _, b5, rfl, HSH.out, HB5.out⟩
    · have hds : decide ((s : Int) < 64) = true := by simp; omega
      have hds2 : decide (s < 64) = true := by simp; omega
      have hs6 : s < 64 := by omega
      obtain ⟨t0, t1, t2, -, -⟩ := HT1.out.keeps HB.out
      have hXw := HX1.out.keeps HB.out
      cases hq : xs.contains (s : Int) with
      | false =>
        have HQ := Lib.hid (l2HasS_any a c xs l HL.out (by omega) (s : Int) false hq wr hXw)
        have hnx := upTo_miss hq
        have HNX := Lib.hid hnx
        clear hq hnx hXw hs64
        go_wp2_with fail
        refine HQ.out.mono ?_
        rintro e w' ⟨rfl, rfl⟩
        go_wp2
        go_roundw
        case rel => exact ⟨s + 1, m, cc, gg, by omega, by go_num, rfl, by rw [HNX.out]; exact HM.out, by rw [HNX.out]; exact HO.out, HB.out⟩
        case measure => simp [intOf]; omega
      | true =>
        have HQ := Lib.hid (l2HasS_any a c xs l HL.out (by omega) (s : Int) true hq wr hXw)
        have HNX := Lib.hid (upTo_hit hq)
        have HO2 : Hid (wr.ownsRow w1.heap.size 3 1 (.slice (some ⟨gg, 0, none⟩) m cc) m ((upTo xs s).map (Value.int .i64))) := Lib.hid (by have h := HO.out; unfold OwnInts at h; rw [HM.out] at h; exact h)
        clear hq hXw hs64
        go_wp2_with fail
        refine HQ.out.mono ?_
        rintro e w' ⟨rfl, rfl⟩
        go_wp2_with (at_builtin; refine wpList_append_own_at _ rfl _ _ 26 rfl w1.heap.size 3 i0 (.int .i64 0) 1 8 Try.underlying26 hi hz0 hz1 hz2 rfl (by decide) (.slice (some ⟨gg, 0, none⟩) m cc) m ((upTo xs s).map (Value.int .i64)) rfl (HO2.out.alloc _) ⟨wr.heap.size, 0, none⟩ 1 1 [.int .i64 (s : Int)] rfl rfl ?c1 ?c2 ?c3 ?c4 ?c5 ?_)
        case c1 => intro j u hj; exact Mem.cell_new wr _ _ j u hj
        case c2 => intro u hu; simp at hu; subst hu; rfl
        case c3 => unfold maxLen; omega
        case c4 => omega
        case c5 => simp; omega
        intro v3 w3 hown hgrow _ _
        obtain ⟨g3, cc3, rfl, -⟩ := hown.form (by omega)
        have hb3 : Below w1.heap.size w1 w3 := (HB.out.alloc hsz _).grown hgrow (by simp; omega) (fun g hg => (HO2.out.lt g hg).1)
        have hO3 : OwnInts w3 w1.heap.size (.slice (some ⟨g3, 0, none⟩) (m + 1) cc3) (upTo xs (s + 1)) := by
          unfold OwnInts
          rw [HNX.out, List.length_append, List.map_append, HM.out]
          exact hown
        have HO3 := Lib.hid hO3
        have HB3 := Lib.hid hb3
        clear hown hgrow hb3 hO3
        go_wp2
        go_roundw
        case rel => exact ⟨s + 1, m + 1, cc3, g3, by omega, by go_num, rfl, by rw [HNX.out, List.length_append, HM.out]; rfl, HO3.out, HB3.out⟩
        case measure => simp [intOf]; omega

set_option maxRecDepth 100000 in
set_option maxHeartbeats 4000000 in
theorem specShellable_any (n : Int) (a : Option Addr) (c : Nat) (xs : List Int) (hlen : xs.length ≤ 1099511627776) (w : World) (h : Ints w a xs) :
    Calls Try.prog 29 #[cx n (.slice a xs.length c)] w fun e w' => ∃ b : Bool, e = .returned (.bool b) ∧ ShPost n xs b ∧ Below w.heap.size w w' := by
  have hb0 : Below w.heap.size w (w.alloc (Obj.cells #[Value.int IntKind.i64 n, Value.slice a xs.length c] 33)) := (Below.refl _ _).alloc (Nat.le_refl _) _
  have htw := Two.new w (.int .i64 n) (.slice a xs.length c) 33
  have HC := Lib.hid (specFind_any n a c xs hlen _ (h.keeps hb0))
  have HB0 := Lib.hid hb0
  have hz := hb0.size
  have HT0 := Lib.hid htw
  clear hb0 htw h
  go_enter Try.func29, Try.ntmps29
  obtain ⟨t0, t1, t2, -, -⟩ := HT0.out
  go_wp2_with fail
  refine HC.out.mono ?_
  rintro e w1 ⟨a5, n5, c5, b5, rfl, hsh, hb1⟩
  have HB1 : Hid (Below w.heap.size w w1) := Lib.hid (HB0.out.trans (hb1.mono hz))
  have HS := Lib.hid hsh
  clear hb1 hsh
  go_wp2
  go_ret
  exact ⟨b5, rfl, HS.out, HB1.out⟩

end Go.Proofs.Ytmonaiojejbhkaa
