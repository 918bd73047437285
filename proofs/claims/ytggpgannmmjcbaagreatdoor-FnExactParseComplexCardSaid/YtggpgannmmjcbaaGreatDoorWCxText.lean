/-
  WALKS: ComplexText, spec's and impl's: the count of the points, a colon, the facets' texts.
-/
import Derived.Test.YtggpgannmmjcbaaGreatDoorWCx3
import Derived.Test.YtggpgannmmjcbaaGreatDoorWSetsText
import Derived.Test.YtggpgannmmjcbaaGreatDoorWFmt
import Derived.Test.YtggpgannmmjcbaaGreatDoorWSz
import Derived.Lib.ItoaLen
import Derived.Deep.RegionHeld3
namespace Go.Proofs.YtggpgannmmjcbaaGreatDoor
open Go.RowKit
open Sets

theorem setsText_size (xs : List Int) : (setsText xs).size ≤ 7 * xs.length := by
  have h1 : (setsText xs).size = (joined (txts xs xs.length) ⟨#[44]⟩ (txts xs xs.length).length).length := by unfold setsText; simp [ByteArray.size]
  rw [h1]
  have h2 := joined_length (txts xs xs.length) ⟨#[44]⟩ (txts xs xs.length).length (Nat.le_refl _)
  have h3 := bytesOf_le (txts xs xs.length) 6 (fun x hx => by
    unfold txts at hx
    obtain ⟨y, _, rfl⟩ := List.mem_map.1 hx
    exact txt_size y)
  have h4 := txts_length xs xs.length
  have h5 : (⟨#[44]⟩ : ByteArray).size = 1 := rfl
  rw [h5] at h2
  omega
/-- ComplexText. -/
def cxText (n : Int) (xs : List Int) : ByteArray := if isC n xs = true then (⟨(Lib.itoa n).toArray⟩ ++ ⟨#[58]⟩) ++ setsText xs else ⟨#[]⟩

set_option maxRecDepth 100000 in
set_option maxHeartbeats 4000000 in
theorem implCxText_any (n : Int) (a : Option Addr) (c : Nat) (xs : List Int) (hcap : xs.length ≤ c) (hlen : xs.length ≤ 1048576) (w : World) (h : Ints w a xs) (ht : Tab w) :
    Calls Tryz.prog 18 #[cx n (.slice a xs.length c)] w fun e w' => e = .returned (.string (cxText n xs)) ∧ Below w.heap.size w w' := by
  have hB : Below w.heap.size w (w.alloc (.cells #[.int .i64 n, .slice a xs.length c] 24)) := (Below.refl _ _).alloc (by simp) _
  have HX := Lib.hid (h.keeps hB)
  have HT := Lib.hid (Two.new w (.int .i64 n) (.slice a xs.length c) 24)
  have HB := Lib.hid hB
  have HTab := Lib.hid (ht.keeps hB)
  clear h hB ht
  obtain ⟨t1, t2, t3, _, _⟩ := HT.out
  unfold cxText
  cases hc : isC n xs with
  | false =>
    have hca := fun w h => implIsC_any n a c xs hcap (by omega) w h
    rw [hc] at hca
    have HC := Lib.hid hca
    clear hca hc
    rw [if_neg (by simp)]
    go_enter Tryz.func18, Tryz.ntmps18
    go_wp2_with fail
    refine (HC.out _ HX.out).mono ?_
    rintro e w1 ⟨rfl, hb1⟩
    go_wp2_with fail
    go_ret
    exact ⟨rfl, HB.out.trans (hb1.mono (by simp))⟩
  | true =>
    have hn := isC_n hc
    have hl := isC_le hc
    have hca := fun w h => implIsC_any n a c xs hcap (by omega) w h
    rw [hc] at hca
    have HC := Lib.hid hca
    obtain ⟨hn1, hn2⟩ := hn
    clear hca hc
    rw [if_pos rfl]
    have hf21 : (⟨(Lib.itoa n).toArray⟩ : ByteArray).size ≤ 21 := by
      have := Lib.itoa_length_le n (by omega) (by omega)
      simpa [ByteArray.size] using this
    have hg := setsText_size xs
    have hfc := fun w (h : Tab w) => fmt_any n (by omega) (by omega) w h
    have hgc := fun w h => implSetsText_any a c xs (by omega) w h
    generalize (⟨(Lib.itoa n).toArray⟩ : ByteArray) = f at *
    generalize setsText xs = g at *
    have hf1 : (f ++ (⟨#[58]⟩ : ByteArray)).size ≤ 22 := by rw [ByteArray.size_append]; have : (⟨#[58]⟩ : ByteArray).size = 1 := rfl; omega
    have hg1 : g.size ≤ 1024 := by omega
    have hs1 : ¬ (f.size + (⟨#[58]⟩ : ByteArray).size > 9223372036854775807) := by have : (⟨#[58]⟩ : ByteArray).size = 1 := rfl; omega
    have hs2 : ¬ ((f ++ (⟨#[58]⟩ : ByteArray)).size + g.size > 9223372036854775807) := by omega
    have hr1 : ∀ w, (Op.stringOp .add f (⟨#[58]⟩ : ByteArray)).run Tryz.prog w = .ok (.string (f ++ (⟨#[58]⟩ : ByteArray))) w := fun w => run_string_add_sum w _ _ (by omega)
    have hr2 : ∀ w, (Op.stringOp .add (f ++ (⟨#[58]⟩ : ByteArray)) g).run Tryz.prog w = .ok (.string ((f ++ (⟨#[58]⟩ : ByteArray)) ++ g)) w := fun w => run_string_add_sum w _ _ (by omega)
    have HF := Lib.hid hfc
    have HG := Lib.hid hgc
    clear hfc hgc hg
    go_enter Tryz.func18, Tryz.ntmps18
    go_wp2_with fail
    refine (HC.out _ HX.out).mono ?_
    rintro e w1 ⟨rfl, hb1⟩
    have T1 := Lib.hid (HT.out.keeps hb1)
    have X1 := Lib.hid (HX.out.keeps hb1)
    have B1 := Lib.hid (HB.out.trans (hb1.mono (by simp)))
    have Tab1 := Lib.hid (HTab.out.keeps hb1)
    have hz1 := B1.out.size
    clear hb1 t1 t2 t3
    obtain ⟨t1, t2, t3, _, _⟩ := T1.out
    go_wp2_with fail
    go_region_held3 (fun w' => w'.cell? ⟨w.heap.size, 0, none⟩ = some (.int .i64 n) ∧ w'.cell? ⟨w.heap.size, 1, none⟩ = some (.slice a xs.length c) ∧ Below w1.heap.size w1 w') (first | (exact ⟨T1.out.drew.2.1, T1.out.drew.2.2.1, bdrew1 _⟩) | (exact ⟨(T1.out.keeps (below_fresh hbA)).2.1, (T1.out.keeps (below_fresh hbA)).2.2.1, below_fresh hbA⟩) | (exact ⟨((T1.out.keeps (below_fresh hbA)).keeps hbB).2.1, ((T1.out.keeps (below_fresh hbA)).keeps hbB).2.2.1, (below_fresh hbA).trans (hbB.mono (below_fresh hbA).size)⟩)) (first | (go_at_call 33; refine (HF.out _ (Tab1.out.keeps (bdrew1 _))).mono ?_; rintro e wA ⟨rfl, hbA⟩) | (go_at_call 34; refine (HG.out _ (X1.out.keeps (below_fresh hbA))).mono ?_; rintro e wB ⟨rfl, hbB⟩))
    have hW : Below w1.heap.size w1 wB := (below_fresh hbA).trans (hbB.mono (below_fresh hbA).size)
    go_wp2_with fail
    go_ret
    exact ⟨rfl, B1.out.trans (hW.mono hz1)⟩

end Go.Proofs.YtggpgannmmjcbaaGreatDoor
