/-
  THE LAW ON NAMES: its helpers (written by gennamlaw.py).
-/
import Derived.Test.YtbkkdgmiokdbmaaGreatWNamL
import Derived.Test.YtbkkdgmiokdbmaaGreatWNamSC
import Derived.Test.YtbkkdgmiokdbmaaGreatWNamSD
import Derived.Test.YtbkkdgmiokdbmaaGreatJg11
import Derived.Test.YtbkkdgmiokdbmaaGreatJg18
import Derived.Test.YtbkkdgmiokdbmaaGreatJg39
import Derived.Test.YtbkkdgmiokdbmaaGreatJg40
import Derived.Test.YtbkkdgmiokdbmaaGreatJg42
import Derived.Test.YtbkkdgmiokdbmaaGreatJg16
import Derived.Test.YtbkkdgmiokdbmaaGreatNamX
import Derived.Test.YtbkkdgmiokdbmaaGreatNamY
import Derived.Test.YtbkkdgmiokdbmaaGreatJg45
import Derived.IntWalk
namespace Go.Proofs.YtbkkdgmiokdbmaaGreat
open Go.RowKit
open Sets Nam

theorem countsB (n : Int) (a : Option Addr) (c : Nat) (xs F : List Int) (hF : counts (faces n xs) = F) (hlen : xs.length ≤ 1099511627776) (w : World) (h : Ints w a xs) :
    Calls Tryz.prog 24 #[cx n (.slice a xs.length c)] w fun e w' => ∃ v, e = .returned v ∧ OwnInts w' w.heap.size v F ∧ Below w.heap.size w w' := by
  subst hF; exact specCounts_any n a c xs hlen w h
theorem holesB (n : Int) (a : Option Addr) (c : Nat) (xs F : List Int) (hF : holF 3 (faces n xs) (top (faces n xs)) = F) (hlen : xs.length ≤ 1099511627776) (w : World) (h : Ints w a xs) :
    Calls Tryz.prog 25 #[cx n (.slice a xs.length c), .int .i64 3] w fun e w' => ∃ v, e = .returned v ∧ OwnInts w' w.heap.size v F ∧ Below w.heap.size w w' := by
  subst hF; exact holesMod_any 3 (.inr (.inl rfl)) n a c xs hlen w h
theorem classesB (n : Int) (a : Option Addr) (c : Nat) (xs C : List Int) (hC : clsO n xs = C) (hlen : xs.length ≤ 1099511627776) (w : World) (h : Ints w a xs) :
    Calls Tryz.prog 22 #[cx n (.slice a xs.length c)] w fun e w' => ∃ v, e = .returned v ∧ OwnInts w' w.heap.size v C ∧ Below w.heap.size w w' := by
  subst hC; exact specClasses_any n a c xs hlen w h
theorem symB (n : Int) (a : Option Addr) (c : Nat) (xs : List Int) (y : Nat) (hy : symCount n xs = y) (hlen : xs.length ≤ 1099511627776) (w : World) (h : Ints w a xs) :
    Calls Tryz.prog 23 #[cx n (.slice a xs.length c)] w fun e w' => e = .returned (.int .i64 (y : Int)) ∧ Below w.heap.size w w' := by
  subst hy; exact specCountSym_any n a c xs hlen w h
theorem alikeSB (na : Int) (pa : Option Addr) (ca : Nat) (xa : List Int) (nb : Int) (pb : Option Addr) (cb : Nat) (xb : List Int) (r : Bool) (hr : alikeB na xa nb xb = r) (hla : xa.length ≤ 1099511627776) (hlb : xb.length ≤ 1099511627776) (w : World) (ha : Ints w pa xa) (hb : Ints w pb xb) :
    Calls Tryz.prog 20 #[cx na (.slice pa xa.length ca), cx nb (.slice pb xb.length cb)] w fun e w' => e = .returned (.bool r) ∧ Below w.heap.size w w' := by
  subst hr; exact specAlike_any na pa ca xa nb pb cb xb hla hlb w ha hb
theorem sizeNat (t p : Nat) (ht : t < 64) (hp : pc t = p) (w : World) : Calls Tryz.prog 27 #[.int .i64 (t : Int)] w fun e w' => e = .returned (.int .i64 (p : Int)) ∧ w = w' := by
  subst hp
  refine (specSizeOf_any (t : Int) w).mono ?_
  rintro e w' ⟨rfl, rfl⟩
  exact ⟨by rw [sizeZ_nat t ht], rfl⟩
/-- A complex is alike to its canonical one. -/
theorem canon_alike {n : Int} {xs : List Int} (h : isC n xs = true) : alikeB (oN (canonCO n xs)) (oL (canonCO n xs)) n xs = true := by
  obtain ⟨m, rfl, _, _⟩ := isC_cast h
  rw [canonCO_yes h, Int.toNat_natCast]
  show alikeB (m : Int) (canonL m xs) (m : Int) xs = true
  unfold alikeB
  rw [canonCO_yes h, canonCO_yes (canon_isC h), Int.toNat_natCast, canon_canon h]
  simp [eqC, oN, oL]

/-- A region of a function's text. -/
def regAtN (n : Nat) : Go.Code → Option Go.Code
  | .region id ops d => if id = n then some (.region id ops d) else none
  | .seq a b => match regAtN n a with
    | some c => some c
    | none => regAtN n b
  | .cond _ a b => match regAtN n a with
    | some c => some c
    | none => regAtN n b
  | .block _ a => regAtN n a
  | .loop a => regAtN n a
  | _ => none

noncomputable def namedReg (n : Nat) : Go.Code := (Tryz.f3.body.bind (regAtN n)).getD .skip

end Go.Proofs.YtbkkdgmiokdbmaaGreat
