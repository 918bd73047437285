/-
  WALKS: two complexes that are the same, by the law's own helper; boxes that hold complexes.
-/
import Derived.Test.YtnpmhofeiflpeaaGreatJg29
import Derived.Test.YtnpmhofeiflpeaaGreatJg30
import Derived.Test.YtnpmhofeiflpeaaGreatJg13
namespace Go.Proofs.YtnpmhofeiflpeaaGreat
open Go.RowKit
open Sets

set_option maxRecDepth 100000 in
set_option maxHeartbeats 2000000 in
theorem sameCx_any (n : Int) (a1 a2 : Option Addr) (c1 c2 : Nat) (xs : List Int) (hlen : xs.length ≤ 1099511627776) (w : World) (h1 : Ints w a1 xs) (h2 : Ints w a2 xs) :
    Calls Tryz.prog 12 #[cx n (.slice a1 xs.length c1), cx n (.slice a2 xs.length c2)] w fun e w' => e = .returned (.bool true) ∧ Below w.heap.size w w' := by
  have H1 := Lib.hid h1
  have H2 := Lib.hid h2
  clear h1 h2
  go_enter Tryz.func12, Tryz.ntmps12
  go_wp2_with fail
  refine (sameInt_any _ _ _ _ xs hlen _ (H1.out.keeps (((Below.refl _ _).alloc (Nat.le_refl _) _).alloc (by simp) _)) (H2.out.keeps (((Below.refl _ _).alloc (Nat.le_refl _) _).alloc (by simp) _))).mono ?_
  rintro e w1 ⟨rfl, hb1⟩
  go_wp2
  go_ret
  exact ⟨rfl, (((Below.refl _ _).alloc (Nat.le_refl _) _).alloc (by simp) _).trans (hb1.mono (by simp; omega))⟩

/-- A box that holds a complex, its facets readable. -/
def Bx (w : World) (b : Nat) (n : Int) (a : Option Addr) (c : Nat) (xs : List Int) : Prop := Two w b (.int .i64 n) (.slice a xs.length c) ∧ Ints w a xs
theorem Bx.keeps {w w' : World} {b : Nat} {n : Int} {a : Option Addr} {c : Nat} {xs : List Int} (h : Bx w b n a c xs) (hb : Below w.heap.size w w') : Bx w' b n a c xs := ⟨Two.keeps h.1 hb, h.2.keeps hb⟩
theorem Bx.new {w : World} {n : Int} {a : Option Addr} {c : Nat} {xs : List Int} (h : Ints w a xs) (t : TypeId) : Bx (w.alloc (.cells #[.int .i64 n, .slice a xs.length c] t)) w.heap.size n a c xs :=
  ⟨Two.new w _ _ t, h.keeps ((Below.refl _ _).alloc (Nat.le_refl _) _)⟩
/-- What a call that answers a complex and a bool, from letters, hands back: to be put into a box. -/
theorem OwnInts.atn {w : World} {base : Nat} {v : Value} {xs : List Int} (h : OwnInts w base v xs) (hb : base ≤ w.heap.size) :
    ∃ a c, v = .slice a xs.length c ∧ xs.length ≤ c ∧ (a = none → c = 0) ∧ Ints w a xs := by
  obtain ⟨a, c, g, hv, hc, _, hr, _⟩ := OwnInts.ata h hb
  refine ⟨a, c, hv, hc, fun ha => ?_, hr.ints⟩
  unfold OwnInts at h
  rcases h.2 with ⟨h1, _⟩ | ⟨g, cap, cur, h1, _⟩
  · rw [hv] at h1
    injection h1 with _ _ h4
  · rw [hv, ha] at h1
    injection h1 with h2 _ _
    cases h2
theorem partL_le (ok : Bool) (n : Int) (q : Nat → Bool) : (oL (partO ok n q)).length ≤ 64 := by
  unfold partO
  cases ok
  · exact Nat.zero_le _
  · exact maxQ_le q

end Go.Proofs.YtnpmhofeiflpeaaGreat
