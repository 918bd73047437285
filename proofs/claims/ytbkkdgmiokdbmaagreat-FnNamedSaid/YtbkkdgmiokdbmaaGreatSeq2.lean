/-
  A REGION THAT DRAWS ITS ORDER, in a round of a range over a function: where it holds no 'defer' it is carried out as anywhere.
-/
import Derived.Test.YtbkkdgmiokdbmaaGreatJg3
import Derived.OrdersIn
import Derived.TacticsIn
namespace Go.Proofs.YtbkkdgmiokdbmaaGreat
open Go.RowKit

/-- No operation defers. -/
def noDefer (ops : Array Oper) : Bool := ops.toList.all fun o => match o.op with | .defer _ => false | _ => true
theorem noDefer_at {ops : Array Oper} (h : noDefer ops = true) {i : Nat} {o : Oper} (ho : ops[i]? = some o) : ∀ c, o.op ≠ .defer c := fun c e => by
  unfold noDefer at h
  rw [List.all_eq_true] at h
  have h1 := h o (by rw [← Array.getElem?_toList] at ho; exact List.mem_of_getElem? ho)
  rw [e] at h1
  cases h1

theorem wpOpIn_round {F : Fence} {n : Nat} {P : Program} {ops : Array Oper} {Q : Exit → Act → World → Prop} {i : Nat} {K : Act → World → Prop} {a : Act} {w : World} (l : Nat) (hro : F.round = none) (hd : noDefer ops = true)
    (h : wpOpIn F n P ops Q i K a w) : wpOpIn (F.inRound l) n P ops Q i K a w := by
  unfold wpOpIn at *
  cases ho : ops[i]? with
  | none => rw [ho] at h; exact h
  | some o =>
    rw [ho] at h
    have hn := noDefer_at hd ho
    have e : o.semAt (F.inRound l).round a.eval = o.semAt F.round a.eval := by
      rw [hro, show (F.inRound l).round = some l from rfl, Oper.semAt_some l a.eval o hn]
      simp [Oper.semAt]
    have hw : o.wpIn F n P a w K Q → o.wpIn (F.inRound l) n P a w K Q := fun hh => by
      unfold Oper.wpIn at *
      rw [e]
      refine ⟨hh.1, ?_⟩
      have h2 := hh.2
      generalize (o.semAt F.round a.eval).run P w = r at *
      cases r with
      | ok x w' => cases x <;> exact h2
      | halt x w' => cases x <;> exact h2
    dsimp only at h ⊢
    split at h
    · rename_i hw'; rw [if_pos hw']; exact hw h
    · rename_i hw'; rw [if_neg hw']; exact h

theorem wpAnyIn_round {F : Fence} {n : Nat} {P : Program} {ops : Array Oper} {md : Region.Mode} {Q : Exit → Act → World → Prop} (l : Nat) (hro : F.round = none) (hd : noDefer ops = true) :
    ∀ (fuel : Nat) (listed : Array Bool) (a : Act) (w : World), wpAnyIn F n P md ops Q fuel listed a w → wpAnyIn (F.inRound l) n P md ops Q fuel listed a w
  | 0, _, _, _, h => h
  | fuel + 1, _, _, _, h => ⟨h.1, fun i hi => wpOpIn_round l hro hd (wpOpIn_mono (fun a' w' h' => wpAnyIn_round l hro hd fuel _ a' w' h') (h.2 i hi))⟩

/-- THE REGION. -/
theorem region_round {n : Nat} {P : Program} {ops : List Oper} {Q : Exit → Act → World → Prop} {id : Nat} {a : Act} {w : World} {l : Nat} (hm : P.follows .mixedOrders = true) (hd : noDefer ops.toArray = true)
    (h : wpAnyIn Fence.wide n P .any ops.toArray Q ops.length (Array.replicate ops.length false) a w.drew) : (Code.region id ops.toArray true).wpIn (Fence.wide.inRound l) n P Q a w :=
  wpIn_region_any hm (wpAnyIn_round l rfl hd _ _ _ _ (by simpa using h))

end Go.Proofs.YtbkkdgmiokdbmaaGreat
