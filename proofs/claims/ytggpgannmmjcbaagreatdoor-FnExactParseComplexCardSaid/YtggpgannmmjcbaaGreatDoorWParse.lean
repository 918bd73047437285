/-
  WALKS: impl.ParseInt and impl.ParseNumber answer by 'implF' and 'numberF': the reader panics where the text is no integer in range, and the deferred call recovers.
-/
import Derived.Test.YtggpgannmmjcbaaGreatDoorWFmt
import Derived.Test.YtggpgannmmjcbaaGreatDoorWRead
import Derived.Test.YtggpgannmmjcbaaGreatDoorShelfA
import Derived.Defers
import Derived.Recover
import Derived.Lib.AtoiErrMem
namespace Go.Proofs.YtggpgannmmjcbaaGreatDoor
open Go.RowKit
open Num (implF numberF)

/-- The library's two errors are there. -/
def Errs (w : World) : Prop := (∃ tp p, w.var? Tryz.prog "strconv.ErrSyntax" = some #[.iface tp p]) ∧ (∃ tp p, w.var? Tryz.prog "strconv.ErrRange" = some #[.iface tp p])
theorem gSyn : Tryz.prog.globalNamed "strconv.ErrSyntax" = some 1 := by kernel_rfl
theorem gRng : Tryz.prog.globalNamed "strconv.ErrRange" = some 2 := by kernel_rfl
theorem Errs.keeps {w w' : World} (h : Errs w) (hb : Below w.heap.size w w') : Errs w' := by
  obtain ⟨⟨t, p, h1⟩, ⟨t', p', h2⟩⟩ := h
  exact ⟨⟨t, p, var_keeps gSyn h1 hb⟩, ⟨t', p', var_keeps gRng h2 hb⟩⟩

def Panics (w : World) (e : Ending) (w' : World) : Prop := ∃ t x, e = .panicked [{ v := .iface t x, recovered := false }] ∧ Below w.heap.size w w'

/-- What the library's reader does with a text: a number, or an error. -/
def Fails (w : World) (e : Ending) (w' : World) : Prop := ∃ x t y, e = .returned (.tuple #[.int .i64 x, .iface t y]) ∧ Below w.heap.size w w'

theorem atoi_fails (s : ByteArray) (hs : s.size ≤ 281474976710656) (w : World) (he : Errs w) (h : ∀ n, Lib.atoiAll s.data.toList ≠ .ok n) :
    Calls Tryz.prog 56 #[.string s] w (Fails w) := by
  obtain ⟨⟨t, p, h1⟩, ⟨t', p', h2⟩⟩ := he
  cases hc : Lib.atoiAll s.data.toList
  · exact absurd hc (h _)
  · exact (Any.strconv_Atoi_syntax_var Tryz.laysC172 s hs hc t p w h1).mono fun e w' ⟨N, he, _, _, hb⟩ => ⟨_, _, _, he, hb⟩
  · exact (Any.strconv_Atoi_range_var Tryz.laysC172 s hs hc t' p' w h2).mono fun e w' ⟨N, he, _, _, hb⟩ => ⟨_, _, _, he, hb⟩

theorem atoi_reads (s : ByteArray) (hs : s.size ≤ 281474976710656) (w : World) (n : Int) (h : Lib.atoiAll s.data.toList = .ok n) :
    Calls Tryz.prog 56 #[.string s] w fun e w' => e = .returned (.tuple #[.int .i64 n, .nilIface]) ∧ Below w.heap.size w w' :=
  (Tryz.strconv_Atoi_ok s (by omega) n h w).mono fun e w' ⟨he, hw⟩ => ⟨he, by
    rcases hw with rfl | ⟨t, rfl⟩
    · exact Below.refl _ _
    · exact Lib.bytesWorld_below _ _ _⟩

set_option maxRecDepth 100000 in
theorem must_fails (s : ByteArray) (hs : s.size ≤ 281474976710656) (w : World) (he : Errs w) (h : ∀ n, Lib.atoiAll s.data.toList ≠ .ok n) :
    Calls Tryz.prog 39 #[.string s] w (Panics w) := by
  have HC := Lib.hid (atoi_fails s hs w he h)
  clear he h
  go_enter Tryz.func39, Tryz.ntmps39
  go_wp2_with fail
  refine HC.out.mono ?_
  rintro e w1 ⟨x, t, y, rfl, hb1⟩
  go_wp2
  exact ⟨rfl, _, _, rfl, hb1⟩

set_option maxRecDepth 100000 in
theorem must_range (s : ByteArray) (hs : s.size ≤ 281474976710656) (w : World) (n : Int) (h : Lib.atoiAll s.data.toList = .ok n) (hn : n < -999999999999 ∨ 999999999999 < n) :
    Calls Tryz.prog 39 #[.string s] w (Panics w) := by
  have HC := Lib.hid (atoi_reads s hs w n h)
  clear h
  by_cases h1 : n < -999999999999
  all_goals
    go_enter Tryz.func39, Tryz.ntmps39
    go_wp2_with fail
    refine HC.out.mono ?_
    rintro e w1 ⟨rfl, hb1⟩
    go_wp2
    exact ⟨rfl, _, _, rfl, hb1⟩

set_option maxRecDepth 100000 in
theorem must_shape (s : ByteArray) (hs : s.size ≤ 281474976710656) (w : World) (ht : Tab w) (n : Int) (h : Lib.atoiAll s.data.toList = .ok n) (hn1 : -999999999999 ≤ n) (hn2 : n ≤ 999999999999) (hne : Lib.itoa n ≠ s.data.toList) :
    Calls Tryz.prog 39 #[.string s] w (Panics w) := by
  have HC := Lib.hid (atoi_reads s hs w n h)
  have HT := Lib.hid ht
  have hq : (!Lib.itoa n == s.toList) = true := by rw [ByteArray.toList_eq]; simpa using hne
  clear h ht hne
  go_enter Tryz.func39, Tryz.ntmps39
  go_wp2_with fail
  refine HC.out.mono ?_
  rintro e w1 ⟨rfl, hb1⟩
  have HT1 := Lib.hid (HT.out.keeps hb1)
  go_wp2_with fail
  refine (fmt_any n (by omega) (by omega) _ HT1.out).mono ?_
  rintro e w2 ⟨rfl, hb2⟩
  go_wp2
  exact ⟨rfl, _, _, rfl, hb1.trans (hb2.mono hb1.size)⟩

set_option maxRecDepth 100000 in
theorem must_ok (s : ByteArray) (hs : s.size ≤ 281474976710656) (w : World) (ht : Tab w) (n : Int) (h : Lib.atoiAll s.data.toList = .ok n) (hn1 : -999999999999 ≤ n) (hn2 : n ≤ 999999999999) (heq : Lib.itoa n = s.data.toList) :
    Calls Tryz.prog 39 #[.string s] w fun e w' => e = .returned (.int .i64 n) ∧ Below w.heap.size w w' := by
  have HC := Lib.hid (atoi_reads s hs w n h)
  have HT := Lib.hid ht
  have hq : (!Lib.itoa n == s.toList) = false := by rw [ByteArray.toList_eq]; simpa using heq
  clear h ht heq
  go_enter Tryz.func39, Tryz.ntmps39
  go_wp2_with fail
  refine HC.out.mono ?_
  rintro e w1 ⟨rfl, hb1⟩
  have HT1 := Lib.hid (HT.out.keeps hb1)
  go_wp2_with fail
  refine (fmt_any n (by omega) (by omega) _ HT1.out).mono ?_
  rintro e w2 ⟨rfl, hb2⟩
  go_wp2
  go_ret
  exact ⟨rfl, hb1.trans (hb2.mono hb1.size)⟩

/-- The reader panics where there is no integer. -/
theorem must_none (s : ByteArray) (hs : s.size ≤ 281474976710656) (w : World) (ht : Tab w) (he : Errs w) (h : implF s.data.toList = none) :
    Calls Tryz.prog 39 #[.string s] w (Panics w) := by
  by_cases hex : ∃ n, Lib.atoiAll s.data.toList = .ok n
  · obtain ⟨n, hn⟩ := hex
    by_cases hr : -999999999999 ≤ n ∧ n ≤ 999999999999
    · refine must_shape s hs w ht n hn hr.1 hr.2 (fun e => ?_)
      have := (Num.implF_iff s.data.toList n).2 ⟨e, hr⟩
      rw [h] at this
      cases this
    · exact must_range s hs w n hn (by omega)
  · exact must_fails s hs w he (fun n hn => hex ⟨n, hn⟩)

theorem must_some (s : ByteArray) (hs : s.size ≤ 281474976710656) (w : World) (ht : Tab w) (n : Int) (h : implF s.data.toList = some n) :
    Calls Tryz.prog 39 #[.string s] w fun e w' => e = .returned (.int .i64 n) ∧ Below w.heap.size w w' := by
  obtain ⟨h1, h2, h3⟩ := (Num.implF_iff s.data.toList n).1 h
  have ha := Num.atoi_itoa n (by omega) (by omega)
  rw [h1] at ha
  exact must_ok s hs w ht n ha h2 h3 h1

/-- The deferred call recovers a panic .. -/
theorem catch_panicking (u : TypeId) (pv : Value) (older : List PanicEntry) (w : World) :
    CallsD Tryz.prog 38 #[] (.panicking ({ v := .iface u pv, recovered := false } :: older)) w fun e u' w' =>
      e = .returned (.tuple #[]) ∧ u' = .panicking ({ v := .iface u pv, recovered := true } :: older) ∧ w' = w := by
  refine callsD_of_wpS Tryz.func38 rfl fun c₀ cs hu => ?_
  apply wpS_region
  simp [wpOpsS, go_sem, recoverD, hu, Tryz.ntmps38, bodyPostS, results, Tryz.results38]

/-- .. and else does nothing. -/
theorem catch_idle (w : World) :
    CallsD Tryz.prog 38 #[] .returning w fun e u' w' => e = .returned (.tuple #[]) ∧ u' = .returning ∧ w' = w := by
  refine callsD_of_wpS Tryz.func38 rfl fun c₀ cs hu => ?_
  apply wpS_region
  simp [wpOpsS, go_sem, recoverD, hu, Tryz.ntmps38, bodyPostS, results, Tryz.results38]
  cases c₀
  simp_all

set_option maxRecDepth 100000 in
theorem implInt_none (s : ByteArray) (hs : s.size ≤ 281474976710656) (w : World) (ht : Tab w) (he : Errs w) (h : implF s.data.toList = none) :
    Calls Tryz.prog 27 #[.string s] w fun e w' => e = .returned (.tuple #[.int .i64 0, .bool false]) ∧ Below w.heap.size w w' := by
  have HC := Lib.hid (must_none s hs w ht he h)
  clear ht he h
  go_enter_defers Tryz.func27, Tryz.ntmps27
  go_wp2_with fail
  refine HC.out.mono ?_
  rintro e w1 ⟨t, x, rfl, hb1⟩
  go_wp2
  refine leaves_cons (f := 38) (args := #[]) (by simp) (by simp [go_sem]) ?_
  refine (catch_panicking t x [] _).mono ?_
  rintro e u' w'' ⟨rfl, rfl, rfl⟩
  simp [Leaves, settle, results, Tryz.results27, go_sem]
  exact hb1

set_option maxRecDepth 100000 in
theorem implInt_some (s : ByteArray) (hs : s.size ≤ 281474976710656) (w : World) (ht : Tab w) (n : Int) (h : implF s.data.toList = some n) :
    Calls Tryz.prog 27 #[.string s] w fun e w' => e = .returned (.tuple #[.int .i64 n, .bool true]) ∧ Below w.heap.size w w' := by
  have HC := Lib.hid (must_some s hs w ht n h)
  clear ht h
  go_enter_defers Tryz.func27, Tryz.ntmps27
  go_wp2_with fail
  refine HC.out.mono ?_
  rintro e w1 ⟨rfl, hb1⟩
  go_wp2
  refine leaves_cons (f := 38) (args := #[]) (by simp) (by simp [go_sem]) ?_
  refine (catch_idle _).mono ?_
  rintro e u' w'' ⟨rfl, rfl, rfl⟩
  simp [Leaves, settle, results, Tryz.results27, go_sem]
  exact hb1

/-- impl.ParseInt. -/
theorem implInt_any (s : ByteArray) (hs : s.size ≤ 281474976710656) (w : World) (ht : Tab w) (he : Errs w) :
    Calls Tryz.prog 27 #[.string s] w fun e w' => e = two (implF s.data.toList) ∧ Below w.heap.size w w' := by
  cases h : implF s.data.toList with
  | none => exact implInt_none s hs w ht he h
  | some n => exact implInt_some s hs w ht n h

set_option maxRecDepth 100000 in
theorem implNumber_any (s : ByteArray) (hs : s.size ≤ 281474976710656) (w : World) (ht : Tab w) (he : Errs w) :
    Calls Tryz.prog 14 #[.string s] w fun e w' => e = two (numberF s.data.toList) ∧ Below w.heap.size w w' := by
  unfold numberF
  have hr := implInt_any s hs w ht he
  unfold two at hr
  clear ht he
  cases h : implF s.data.toList with
  | none =>
    rw [h] at hr
    have HR := Lib.hid hr
    clear hr h
    unfold two
    go_enter Tryz.func14, Tryz.ntmps14
    go_wp2_with fail
    refine HR.out.mono ?_
    rintro e w1 ⟨rfl, hb1⟩
    go_wp2
    go_ret2
    exact ⟨rfl, hb1⟩
  | some n =>
    rw [h] at hr
    have hb := ((Num.implF_iff s.data.toList n).1 h).2
    have HR := Lib.hid hr
    clear hr h
    unfold two
    by_cases hn : n < 0
    · rw [show (some n).filter (fun n => decide (0 ≤ n) && decide (n ≤ 999999)) = none by simp; omega]
      go_enter Tryz.func14, Tryz.ntmps14
      go_wp2_with fail
      refine HR.out.mono ?_
      rintro e w1 ⟨rfl, hb1⟩
      go_wp2
      go_ret2
      exact ⟨rfl, hb1⟩
    · by_cases hn2 : 999999 < n
      · rw [show (some n).filter (fun n => decide (0 ≤ n) && decide (n ≤ 999999)) = none by simp; omega]
        go_enter Tryz.func14, Tryz.ntmps14
        go_wp2_with fail
        refine HR.out.mono ?_
        rintro e w1 ⟨rfl, hb1⟩
        go_wp2
        go_ret2
        exact ⟨rfl, hb1⟩
      · rw [show (some n).filter (fun n => decide (0 ≤ n) && decide (n ≤ 999999)) = some n by simp; omega]
        go_enter Tryz.func14, Tryz.ntmps14
        go_wp2_with fail
        refine HR.out.mono ?_
        rintro e w1 ⟨rfl, hb1⟩
        go_wp2
        go_ret2
        exact ⟨rfl, hb1⟩

end Go.Proofs.YtggpgannmmjcbaaGreatDoor
