/-
  WALKS: the draw of chapter 14 that may make a cone.
-/
import Derived.Test.YtenpcjmhlnalcaaGreatJg41
import Derived.Test.YtenpcjmhlnalcaaGreatWJoinS4
namespace Go.Proofs.YtenpcjmhlnalcaaGreat
open Go.RowKit
open Sets Join

set_option maxRecDepth 100000 in
set_option maxHeartbeats 4000000 in
theorem drawNone_any (a : Option Addr) (n c : Nat) (hn : n ≤ 140737488355328) (w : World) (hc : Code w a n) :
    Calls Tryz.prog 7 #[.slice a n c] w fun e w' => Drawn2 w e w' := by
  have hb0 : Below w.heap.size w (w.alloc (.cells #[.int .i64 0, .slice none 0 0] 26)) := (Below.refl _ _).alloc (Nat.le_refl _) _
  have HC0 := Lib.hid (hc.keeps hb0)
  have HB0 := Lib.hid hb0
  have HT0 := Lib.hid (Two.new w (.int .i64 0) (.slice none 0 0) 26)
  clear hc hb0
  go_enter Tryz.func7, Tryz.ntmps7
  go_wp2_with fail
  refine (l14Case_any a n c hn _ HC0.out).mono ?_
  rintro e w1 ⟨N, v, xs, k, rfl, hl, hO, hb1⟩
  obtain ⟨a5, c5, g5, rfl, hc5, hg5, hr5, _⟩ := OwnInts.ata hO hb1.size
  simp only [World.size_alloc] at hO hg5
  have hs1 := hb1.size
  simp only [World.size_alloc] at hs1
  have hnb : (Value.slice a5 xs.length c5).ownBlock ≠ some (w1.heap.size + 1) := fun e => by have := (World.ownsRow.lt hO _ e).2; omega
  have hba : Below w1.heap.size w1 (w1.alloc (.cells #[.int .i64 N, .slice a5 xs.length c5] 26)) := (Below.refl _ _).alloc (Nat.le_refl _) _
  have HO := Lib.hid (hO.alloc (.cells #[.int .i64 N, .slice a5 xs.length c5] 26))
  have HI := Lib.hid (hr5.ints.keeps hba)
  have HB : Hid (Below w.heap.size w (w1.alloc (.cells #[.int .i64 N, .slice a5 xs.length c5] 26))) := (HB0.out.trans (hb1.mono (by simp))).trans (hba.mono (by omega))
  have HT := Lib.hid (Two.keeps (Two.keeps HT0.out hb1) hba)
  have HX := Lib.hid (Two.new w1 (.int .i64 N) (.slice a5 xs.length c5) 26)
  have HC := Lib.hid ((HC0.out.keeps hb1).keeps hba)
  clear hO hb1 hr5 hba HC0 HB0 HT0
  go_wp2_with fail
  refine (new_any a n c hn _ HC.out).mono ?_
  rintro e w2 ⟨rfl, hcur, hz2, hb2⟩
  replace HO := Lib.hid (OwnInts.keeps HO.out hb2)
  replace HI := Lib.hid (HI.out.keeps hb2)
  replace HT := Lib.hid (Two.keeps HT.out hb2)
  replace HX := Lib.hid (Two.keeps HX.out hb2)
  replace HB := Lib.hid (HB.out.trans (hb2.mono HB.out.size))
  simp only [World.size_alloc] at hcur hz2
  have HK := Lib.hid hcur
  clear hcur hb2 HC
  obtain ⟨N7, hN7⟩ : ∃ z, oN (joinO N 1 xs [1]) = z := ⟨_, rfl⟩
  obtain ⟨L7, hL7⟩ : ∃ z, oL (joinO N 1 xs [1]) = z := ⟨_, rfl⟩
  obtain ⟨ok, hok⟩ : ∃ z, (joinO N 1 xs [1]).isSome = z := ⟨_, rfl⟩
  have hle : L7.length ≤ 64 := by rw [← hL7]; exact joinO_le N 1 xs [1]
  have hcc := fun w h => specCone_any N a5 c5 xs (by omega) w h
  rw [hN7, hL7, hok] at hcc
  have HCC := Lib.hid hcc
  clear hcc hN7 hL7 hok
  obtain ⟨x0, x1, x2, x3, x4⟩ := HX.out
  go_wp2_with fail
  refine (HCC.out _ HI.out).mono ?_
  rintro e w3 ⟨v, rfl, hO2, hb3⟩
  obtain ⟨a7, c7, g7, rfl, hc7, hg7, hr7, _⟩ := OwnInts.ata hO2 hb3.size
  have hs3 := hb3.size
  have hba : Below w3.heap.size w3 (w3.alloc (.cells #[.int .i64 N7, .slice a7 L7.length c7] 26)) := (Below.refl _ _).alloc (Nat.le_refl _) _
  have HO7 := Lib.hid (hO2.alloc (.cells #[.int .i64 N7, .slice a7 L7.length c7] 26))
  replace HO := Lib.hid (OwnInts.keeps (OwnInts.keeps HO.out hb3) hba)
  replace HT := Lib.hid (Two.keeps (Two.keeps HT.out hb3) hba)
  replace HX := Lib.hid (Two.keeps (Two.keeps HX.out hb3) hba)
  have HX7 := Lib.hid (Two.new w3 (.int .i64 N7) (.slice a7 L7.length c7) 26)
  have HK2 := Lib.hid ((HK.out.keeps (by omega) hb3).keeps (by omega) hba)
  replace HB := Lib.hid ((HB.out.trans (hb3.mono HB.out.size)).trans (hba.mono (Nat.le_trans HB.out.size hb3.size)))
  have hne1 : w.heap.size ≠ w1.heap.size := by omega
  have hne2 : w1.heap.size ≠ w.heap.size := by omega
  have hne3 : w.heap.size ≠ w3.heap.size := by omega
  have hne4 : w3.heap.size ≠ w.heap.size := by omega
  clear hO2 hb3 hr7 hba x0 x1 x2 x3 x4 HI HK HCC
  cases ok with
  | false =>
    obtain ⟨t0, t1, t2, t3, t4⟩ := HT.out
    obtain ⟨x0, x1, x2, x3, x4⟩ := HX.out
    go_wp2
    refine ret_cx2 w.heap.size rfl rfl rfl (x := .int .i64 N) (y := .slice a5 xs.length c5) (by go_simp) (by go_simp) rfl ?_
    exact ⟨N, _, xs, k, rfl, hl, (OwnInts.set (OwnInts.set HO.out _ _ _ (by omega)) _ _ _ (by omega)).lower (by omega), (HB.out.setCell (by simp) _).setCell (by simp) _⟩
  | true =>
    go_wp2_with fail
    refine (once_b _ a n c hn _ 4 rfl (by decide) (by decide) _ HK2.out).mono ?_
    rintro e w4 ⟨b, rfl, hd⟩
    have hz4 := hd.2.size
    simp only [World.size_alloc] at hz4
    replace HO : Hid (OwnInts w4 (w.heap.size + 1) (.slice a5 xs.length c5) xs) := World.ownsRow.kept (row := some (w1.heap.size + 1)) HO.out hd.2 (.inr hnb)
    replace HO7 := Lib.hid (OwnInts.away HO7.out hd.2 (by omega))
    replace HT := Lib.hid (Two.far HT.out hd.2 (by omega))
    replace HX := Lib.hid (Two.far HX.out hd.2 (by omega))
    replace HX7 := Lib.hid (Two.far HX7.out hd.2 (by omega))
    replace HB := Lib.hid (HB.out.trans (Mem.below_of_but hd.2 (by omega) HB.out.size))
    clear hd
    obtain ⟨t0, t1, t2, t3, t4⟩ := HT.out
    cases b with
    | true =>
      obtain ⟨x0, x1, x2, x3, x4⟩ := HX7.out
      go_wp2
      refine ret_cx2 w.heap.size rfl rfl rfl (x := .int .i64 N7) (y := .slice a7 L7.length c7) (by go_simp) (by go_simp) rfl ?_
      exact ⟨N7, _, L7, k, rfl, by omega, (OwnInts.set (OwnInts.set HO7.out _ _ _ (by omega)) _ _ _ (by omega)).lower (by omega), (HB.out.setCell (by simp) _).setCell (by simp) _⟩
    | false =>
      obtain ⟨x0, x1, x2, x3, x4⟩ := HX.out
      go_wp2
      refine ret_cx2 w.heap.size rfl rfl rfl (x := .int .i64 N) (y := .slice a5 xs.length c5) (by go_simp) (by go_simp) rfl ?_
      exact ⟨N, _, xs, k, rfl, hl, (OwnInts.set (OwnInts.set HO.out _ _ _ (by omega)) _ _ _ (by omega)).lower (by omega), (HB.out.setCell (by simp) _).setCell (by simp) _⟩

end Go.Proofs.YtenpcjmhlnalcaaGreat
