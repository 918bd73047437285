/-
  WALKS: impl's chapter 10: the closure that remembers how many ways there are to choose.
-/
import Derived.Test.YtmonaiojejbhkaaHMap
import Derived.Laws.EntriesVeiled
import Derived.Shelf.Abstract
import Derived.Carry
import Derived.IntWalk
namespace Go.Proofs.Ytmonaiojejbhkaa
open Go.RowKit
open Hn

/-- The closure's value. -/
def remV (A C : Nat) : Value := .func (.func 73) #[] #[.pointer (some ⟨A, 0, none⟩), .pointer (some ⟨C, 0, none⟩)]

/-- Its two boxes, and its map. -/
def Rem (w : World) (A C M m : Nat) : Prop :=
  w.cell? ⟨A, 0, none⟩ = some (.map (some M)) ∧ w.cell? ⟨C, 0, none⟩ = some (remV A C) ∧ A < w.heap.size ∧ C < w.heap.size ∧ A ≠ M ∧ C ≠ M ∧ CMap w M m

theorem Rem.away {w w' : World} {A C M m : Nat} {row : Option Nat} (h : Rem w A C M m) (hg : w.grownBy w' row) (h1 : some A ≠ row) (h2 : some C ≠ row) (h3 : some M ≠ row) : Rem w' A C M m := by
  obtain ⟨a, c, la, lc, na, nc, hm⟩ := h
  have := hg.size
  exact ⟨(World.cell?_of_block (w := w) (w' := w') (a := ⟨A, 0, none⟩) (hg.block A la h1)).trans a, (World.cell?_of_block (w := w) (w' := w') (a := ⟨C, 0, none⟩) (hg.block C lc h2)).trans c, by omega, by omega, na, nc, hm.away hg h3⟩
theorem Rem.keeps {w w' : World} {A C M m : Nat} (h : Rem w A C M m) (hb : Below w.heap.size w w') : Rem w' A C M m := h.away (Mem.but_of_below hb none) (by simp) (by simp) (by simp)
theorem Rem.put {w w' : World} {A C M m j : Nat} (h : Rem w A C M m) (hg : w.grownBy w' (some M)) (hm : CMap w' M j) : Rem w' A C M j := by
  obtain ⟨a, c, la, lc, na, nc, _⟩ := h
  have := hg.size
  exact ⟨(World.cell?_of_block (w := w) (w' := w') (a := ⟨A, 0, none⟩) (hg.block A la (by simpa using na))).trans a, (World.cell?_of_block (w := w) (w' := w') (a := ⟨C, 0, none⟩) (hg.block C lc (by simpa using nc))).trans c, by omega, by omega, na, nc, hm⟩
theorem Rem.mono {w : World} {A C M m j : Nat} (h : Rem w A C M m) (hj : m ≤ j) : Rem w A C M j := by
  obtain ⟨a, c, la, lc, na, nc, hm⟩ := h
  exact ⟨a, c, la, lc, na, nc, hm.mono hj⟩
theorem Rem.drewN {w : World} {A C M m : Nat} (h : Rem w A C M m) (n : Nat) : Rem (w.drewN n) A C M m := h
theorem Rem.map {w : World} {A C M m : Nat} (h : Rem w A C M m) : CMap w M m := h.2.2.2.2.2.2

theorem cell_at (w : World) (v : Value) (t : TypeId) (B : Nat) (h : B = w.heap.size) : (w.alloc (.cells #[v] t)).cell? ⟨B, 0, none⟩ = some v := by
  subst h; exact Mem.cell_new w [v] t 0 v rfl

set_option maxRecDepth 100000 in
set_option maxHeartbeats 2000000 in
theorem remember_any (w : World) :
    Calls Try.prog 47 #[] w fun e w' => ∃ A C M : Nat, e = .returned (remV A C) ∧ w.heap.size ≤ A ∧ w.heap.size ≤ C ∧ w.heap.size ≤ M ∧ Rem w' A C M 0 ∧ Below w.heap.size w w' := by
  have hm := CMap.made w
  have hmm := @run_makeMap Try.prog
  go_enter Try.func47, Try.ntmps47
  go_wp2
  go_ret
  refine ⟨w.heap.size + 1, w.heap.size + 1 + 1, w.heap.size, rfl, by omega, by omega, Nat.le_refl _, ⟨?_, ?_, ?_, ?_, by omega, by omega, (hm.keeps ((Below.refl _ _).alloc (Nat.le_refl _) _)).keeps ((Below.refl _ _).alloc (Nat.le_refl _) _)⟩, ?_⟩
  · rw [World.cell?_alloc_past _ _ _ (by simp only [World.size_alloc]; omega)]
    refine cell_at _ _ _ _ ?_
    simp only [World.size_alloc]
  · refine cell_at _ _ _ _ ?_
    simp only [World.size_alloc]
  · simp
  · simp
  · exact (((Below.refl _ _).alloc (Nat.le_refl _) _).alloc (by simp) _).alloc (by simp; omega) _

set_option maxRecDepth 100000 in
set_option maxHeartbeats 2000000 in
theorem choose1_out (A C : Nat) (n k : Int) (h : k < 0 ∨ n < k) (w : World) :
    Calls Try.prog 73 #[.int .i64 n, .int .i64 k, .pointer (some ⟨A, 0, none⟩), .pointer (some ⟨C, 0, none⟩)] w fun e w' => e = .returned (.int .i64 0) ∧ w' = w := by
  by_cases h0 : k < 0
  · have hd : decide (k < 0) = true := by simpa using h0
    go_enter Try.func73, Try.ntmps73
    go_wp2
    go_ret
    exact ⟨rfl, rfl⟩
  · have h1 : n < k := by omega
    have hd : decide (k < 0) = false := by simpa using h0
    have hd1 : decide (n < k) = true := by simpa using h1
    clear h
    go_enter Try.func73, Try.ntmps73
    go_wp2
    go_ret
    exact ⟨rfl, rfl⟩

set_option maxRecDepth 100000 in
set_option maxHeartbeats 4000000 in
theorem choose1_in (A C M : Nat) : ∀ (k n m : Nat) (w : World), k ≤ n → n ≤ 60 → m + k < 1099511627776 → Rem w A C M m →
    Calls Try.prog 73 #[.int .i64 (n : Int), .int .i64 (k : Int), .pointer (some ⟨A, 0, none⟩), .pointer (some ⟨C, 0, none⟩)] w fun e w' => e = .returned (.int .i64 (ch n k : Nat)) ∧ Rem w' A C M (m + k) ∧ w.grownBy w' (some M) := by
  intro k
  induction k with
  | zero =>
    intro n m w hkn hn hm hR
    have HR := Lib.hid hR
    have hd1 : decide ((n : Int) < 0) = false := by simp
    rw [ch_zero]
    clear hR
    go_enter Try.func73, Try.ntmps73
    go_wp2
    go_ret
    exact ⟨rfl, HR.out, Mem.but_refl _ _⟩
  | succ k ih =>
    intro n m w hkn hn hm hR
    obtain ⟨N, hN⟩ : ∃ N, n = N + 1 := ⟨n - 1, by omega⟩
    obtain ⟨K, hK⟩ : ∃ K, K = k + 1 := ⟨_, rfl⟩
    have HR := Lib.hid hR
    obtain ⟨r1, r2o, r3, r4, r5, r6, r7⟩ := hR
    have HM := Lib.hid r7
    have hd0 : decide ((K : Int) < 0) = false := by simp
    have hd1 : decide (n < K) = false := by simp; omega
    have hd2 : ((K : Int) == 0) = false := by simp; omega
    have r2 : w.cell? ⟨C, 0, none⟩ = some (.func (.func 73) #[] #[.pointer (some ⟨A, 0, none⟩), .pointer (some ⟨C, 0, none⟩)]) := r2o
    clear r2o
    have hk0 : (K : Int) ≠ 0 := by omega
    have eg : ∀ args w, (callFunc 73 args).run Try.prog w = .ok (.enter 73 args) w := enters_of Try.func73 (by kernel_rfl) rfl
    obtain ⟨y, hy⟩ : ∃ y, ch n K = y := ⟨_, rfl⟩
    obtain ⟨x, hx⟩ : ∃ x, ch N k = x := ⟨_, rfl⟩
    have hmul := ch_mul N k
    rw [← hN, ← hK, hx, hy] at hmul
    have hby := ch_big n K hn
    rw [hy] at hby
    have hval : wrap64 ((wrap64 ((x : Int) * (n : Int))).tdiv (K : Int)) = (y : Int) := by
      have hz : y * K ≤ 118264581564861424 * 60 := Nat.mul_le_mul hby (by omega)
      have e3 : ((y * K : Nat) : Int).tdiv (K : Int) = (y : Int) := by
        have : ((y * K : Nat) : Int) = (y : Int) * (K : Int) := by simp
        rw [this]
        exact Int.mul_tdiv_cancel _ hk0
      have e2 : (x : Int) * (n : Int) = ((y * K : Nat) : Int) := by rw [hmul]; simp
      rw [e2]
      generalize y * K = z at hz e3
      rw [IntWalk.wrap64_in (z : Int) (by omega), e3, IntWalk.wrap64_in (y : Int) (by omega)]
    have IH : Hid (Calls Try.prog 73 #[.int .i64 ((n : Int) - 1), .int .i64 ((K : Int) - 1), .pointer (some ⟨A, 0, none⟩), .pointer (some ⟨C, 0, none⟩)] w fun e w' => e = .returned (.int .i64 (x : Int)) ∧ Rem w' A C M (m + k) ∧ w.grownBy w' (some M)) := by
      have h := ih N m w (by omega) (by omega) (by omega) HR.out
      rw [hx, show (N : Int) = (n : Int) - 1 by omega, show (k : Int) = (K : Int) - 1 by omega] at h
      exact h
    have HV := Lib.hid hval
    have HY := Lib.hid hy
    have HK := Lib.hid hK
    have hK60 : K ≤ 60 := by omega
    have hK1 : 1 ≤ K := by omega
    have hn1 : 1 ≤ n := by omega
    have hmk : m + k < 1099511627776 := by omega
    rw [← hK, hy]
    clear r7 ih hval hy hx hmul hN hK hm hkn
    go_enter Try.func73, Try.ntmps73
    have hmax : m + k < maxLen := by unfold maxLen; omega
    have HMX := Lib.hid hmax
    clear hmax
    go_wp2_with (first
      | (at_lookup; refine wpList_cmap_look _ rfl _ _ rfl M m rfl HM.out n K hn hK60 rfl ?_; intro c ok hok)
      | (go_at_fn 73; refine IH.out.mono ?_; rintro e w1 ⟨rfl, hR1, hg1⟩; have HR1 := Lib.hid hR1; have HG1 := Lib.hid hg1; obtain ⟨s1, _, s3, s4, _, _, _⟩ := hR1; clear hg1)
      | (at_mapUpdate; refine wpList_cmap_put _ rfl _ _ _ rfl M (m + k) rfl HR1.out.map HMX.out n K hn hK60 rfl _ rfl (HV.out.trans (by rw [HY.out])) ?_; intro w2 hM2 hg2))
    · go_ret
      have hR2 := HR1.out.put hg2 hM2
      rw [show m + k + 1 = m + K by rw [HK.out]; omega] at hR2
      exact ⟨by rw [HV.out]; rfl, hR2, HG1.out.trans hg2⟩
    · rename_i hc
      have e : c = (y : Int) := by rw [hok (by simpa using hc), HY.out]
      go_ret
      exact ⟨by rw [e]; rfl, HR.out.mono (by omega), Mem.but_refl _ _⟩

/-- .. at numbers that are given as such. -/
theorem choose1_z (A C M : Nat) (n k m : Nat) (zn zk : Int) (hzn : zn = (n : Int)) (hzk : zk = (k : Int)) (x : Nat) (hx : ch n k = x) (w : World) (hkn : k ≤ n) (hn : n ≤ 60) (hm : m + 60 < 1099511627776) (hR : Rem w A C M m) :
    Calls Try.prog 73 #[.int .i64 zn, .int .i64 zk, .pointer (some ⟨A, 0, none⟩), .pointer (some ⟨C, 0, none⟩)] w fun e w' => e = .returned (.int .i64 (x : Int)) ∧ Rem w' A C M (m + 60) ∧ w.grownBy w' (some M) := by
  subst hzn hzk hx
  refine (choose1_in A C M k n m w hkn hn (by omega) hR).mono ?_
  rintro e w' ⟨rfl, h1, h2⟩
  exact ⟨rfl, h1.mono (by omega), h2⟩

set_option maxRecDepth 100000 in
set_option maxHeartbeats 4000000 in
theorem implChooseZ_any (n k : Int) (w : World) : Calls Try.prog 57 #[.int .i64 n, .int .i64 k] w fun e w' => e = .returned (.int .i64 (chZ n k)) ∧ Below w.heap.size w w' := by
  have eg : ∀ args w, (callFunc 73 args).run Try.prog w = .ok (.enter 73 args) w := enters_of Try.func73 (by kernel_rfl) rfl
  by_cases h0 : n < 0
  · have hd : decide (n < 0) = true := by simpa using h0
    have e : chZ n k = 0 := by unfold chZ; rw [if_neg (by omega)]
    rw [e]
    go_enter Try.func57, Try.ntmps57
    go_wp2
    go_ret
    exact ⟨rfl, Below.refl _ _⟩
  · have hd : decide (n < 0) = false := by simpa using h0
    by_cases h6 : 60 < n
    · have hd6 : decide (60 < n) = true := by simpa using h6
      have e : chZ n k = 0 := by unfold chZ; rw [if_neg (by omega)]
      rw [e]
      go_enter Try.func57, Try.ntmps57
      go_wp2
      go_ret
      exact ⟨rfl, Below.refl _ _⟩
    · have hd6 : decide (60 < n) = false := by simpa using h6
      by_cases hk : k < 0 ∨ n < k
      · have HE : Hid (chZ n k = 0) := by
          have : chZ n k = 0 := by unfold chZ; rw [if_neg (by omega)]
          exact this
        have HK := Lib.hid hk
        rw [HE.out]
        clear hk
        go_enter Try.func57, Try.ntmps57
        go_wp2_with fail
        refine (remember_any _).mono ?_
        rintro e w1 ⟨A, C, M, rfl, hA, hC, hM, hR, hb⟩
        have HB := Lib.hid hb
        unfold remV
        clear hR hb
        go_wp2_with (go_at_fn 73; refine (choose1_out A C n k HK.out _).mono ?_; rintro e w2 ⟨rfl, rfl⟩)
        go_ret
        exact ⟨rfl, HB.out⟩
      · obtain ⟨N, rfl⟩ : ∃ N : Nat, n = (N : Int) := ⟨n.toNat, by omega⟩
        obtain ⟨K, rfl⟩ : ∃ K : Nat, k = (K : Int) := ⟨k.toNat, by omega⟩
        have hN : N ≤ 60 := by omega
        have hK : K ≤ N := by omega
        obtain ⟨x, hx⟩ : ∃ x, ch N K = x := ⟨_, rfl⟩
        have HE : Hid (chZ (N : Int) (K : Int) = (x : Int)) := by
          have : chZ (N : Int) (K : Int) = (x : Int) := by unfold chZ; rw [if_pos (by omega), ← hx]; rfl
          exact this
        have HX := Lib.hid hx
        rw [HE.out]
        clear hk hx
        go_enter Try.func57, Try.ntmps57
        go_wp2_with fail
        refine (remember_any _).mono ?_
        rintro e w1 ⟨A, C, M, rfl, hA, hC, hM, hR, hb⟩
        have HB := Lib.hid hb
        have HR := Lib.hid hR
        unfold remV
        clear hR hb
        go_wp2_with (go_at_fn 73; refine (choose1_z A C M N K 0 _ _ rfl rfl x HX.out _ hK hN (by omega) HR.out).mono ?_; rintro e w2 ⟨rfl, hR2, hg2⟩)
        go_ret
        exact ⟨rfl, HB.out.trans (Mem.below_of_but hg2 hM HB.out.size)⟩

end Go.Proofs.Ytmonaiojejbhkaa
