/-
  No cell of these rows narrows 'for every input' (looked for: loops, veiled, ifaces, maps, wideKeys, modest, calm, conditions, laid).
  DERIVED. THE GIVEN ROWS OF THIS SEAT. 6 by the template 'for every input the law returns true; each argument reads behind the call as it read before'; 0 by the template 'total and deterministic' (their statements: YtmonaiojejbhkaaTotals.lean).
  GIVEN WITH THE SEED: the statements are not yours to turn. If you find one false, say at which input.
  Laid BY PROGRAM, IN A SANDBOX (cutbox-rows.mjs): the forced cells as the released guide's own fill.sh prints them over the translation c1d1ce1bf08bbe0a… (all of the seat's roots in one cut). By AI agents, Wed Nov 11 2026. No macro, syntax, notation, axiom, sorry.
-/
import Derived.Test.YtmonaiojejbhkaaChecked
import GoSem.Claim
import GoSem.ClaimJoined
import GoSem.ClaimMapViews
import Derived.JoinedTies
import Derived.KernelRfl
namespace Go.Proofs.Ytmonaiojejbhkaa
/- THE CELL 'sum', in the pinned program and in every row, IS THE sha256 OF THE DUMP (.gsa) THAT YtmonaiojejbhkaaProg.lean LOADS. Nothing in Lean hashes anything: it is a label: what it is worth is what the hold of that sum in a sandbox is worth. -/
noncomputable def Try.pinned : Pinned := { name := "ytmonaiojejbhkaa", sum := "c1d1ce1bf08bbe0a36d8278ef032bee2c24bc344c4179e079e468956529bebc7", checked := Try.checked }
namespace Rows
def none {H : Type} : Left H := { results := [], args := [] }

/-- 'laws.FnPowers': WHATEVER THE INPUT: true; the input reads as it did. -/
def fnPowersSpec : ChangeSpec := { name := "fnPowers", fn := fun _ => fun
  | [d] => { results := [.lit (.bool true)], args := [d] }
  | _ => none }
def fnPowersRow : OpenClaim := { program := "ytmonaiojejbhkaa", sum := "c1d1ce1bf08bbe0a36d8278ef032bee2c24bc344c4179e079e468956529bebc7", func := "loop.example/g03100/laws.FnPowers", spec := "fnPowers", unfollowed := true, recurses := true, plainKeys := false, apart := false }
def FnPowersSaid : Prop := fnPowersRow.holds Try.pinned (OpenSpec.ofChange fnPowersSpec)

/-- ITS FALSE NEIGHBOUR: 'it returns false'. Refute it at one input. -/
def fnPowersWrong : ChangeSpec := { name := "fnPowers", fn := fun _ => fun
  | [d] => { results := [.lit (.bool false)], args := [d] }
  | _ => none }
def FnPowersWrongFalsely : Prop := fnPowersRow.holds Try.pinned (OpenSpec.ofChange fnPowersWrong)

/-- 'laws.FnExactPowerBound': WHATEVER THE INPUT: true; the input reads as it did. -/
def fnExactPowerBoundSpec : ChangeSpec := { name := "fnExactPowerBound", fn := fun _ => fun
  | [d1, d2] => { results := [.lit (.bool true)], args := [d1, d2] }
  | _ => none }
def fnExactPowerBoundRow : OpenClaim := { program := "ytmonaiojejbhkaa", sum := "c1d1ce1bf08bbe0a36d8278ef032bee2c24bc344c4179e079e468956529bebc7", func := "loop.example/g03100/laws.FnExactPowerBound", spec := "fnExactPowerBound", unfollowed := true, recurses := true, plainKeys := false, apart := false }
def FnExactPowerBoundSaid : Prop := fnExactPowerBoundRow.holds Try.pinned (OpenSpec.ofChange fnExactPowerBoundSpec)

/-- ITS FALSE NEIGHBOUR: 'it returns false'. Refute it at one input. -/
def fnExactPowerBoundWrong : ChangeSpec := { name := "fnExactPowerBound", fn := fun _ => fun
  | [d1, d2] => { results := [.lit (.bool false)], args := [d1, d2] }
  | _ => none }
def FnExactPowerBoundWrongFalsely : Prop := fnExactPowerBoundRow.holds Try.pinned (OpenSpec.ofChange fnExactPowerBoundWrong)

/-- 'laws.FnExactAreMonomialCounts': WHATEVER THE INPUT: true; the input reads as it did. -/
def fnExactAreMonomialCountsSpec : ChangeSpec := { name := "fnExactAreMonomialCounts", fn := fun _ => fun
  | [d] => { results := [.lit (.bool true)], args := [d] }
  | _ => none }
def fnExactAreMonomialCountsRow : OpenClaim := { program := "ytmonaiojejbhkaa", sum := "c1d1ce1bf08bbe0a36d8278ef032bee2c24bc344c4179e079e468956529bebc7", func := "loop.example/g03100/laws.FnExactAreMonomialCounts", spec := "fnExactAreMonomialCounts", unfollowed := true, recurses := true, plainKeys := false, apart := false }
def FnExactAreMonomialCountsSaid : Prop := fnExactAreMonomialCountsRow.holds Try.pinned (OpenSpec.ofChange fnExactAreMonomialCountsSpec)

/-- ITS FALSE NEIGHBOUR: 'it returns false'. Refute it at one input. -/
def fnExactAreMonomialCountsWrong : ChangeSpec := { name := "fnExactAreMonomialCounts", fn := fun _ => fun
  | [d] => { results := [.lit (.bool false)], args := [d] }
  | _ => none }
def FnExactAreMonomialCountsWrongFalsely : Prop := fnExactAreMonomialCountsRow.holds Try.pinned (OpenSpec.ofChange fnExactAreMonomialCountsWrong)

/-- 'laws.FnExactCountMonomials': WHATEVER THE INPUT: true; the input reads as it did. -/
def fnExactCountMonomialsSpec : ChangeSpec := { name := "fnExactCountMonomials", fn := fun _ => fun
  | [d1, d2] => { results := [.lit (.bool true)], args := [d1, d2] }
  | _ => none }
def fnExactCountMonomialsRow : OpenClaim := { program := "ytmonaiojejbhkaa", sum := "c1d1ce1bf08bbe0a36d8278ef032bee2c24bc344c4179e079e468956529bebc7", func := "loop.example/g03100/laws.FnExactCountMonomials", spec := "fnExactCountMonomials", unfollowed := true, recurses := true, plainKeys := false, apart := false }
def FnExactCountMonomialsSaid : Prop := fnExactCountMonomialsRow.holds Try.pinned (OpenSpec.ofChange fnExactCountMonomialsSpec)

/-- ITS FALSE NEIGHBOUR: 'it returns false'. Refute it at one input. -/
def fnExactCountMonomialsWrong : ChangeSpec := { name := "fnExactCountMonomials", fn := fun _ => fun
  | [d1, d2] => { results := [.lit (.bool false)], args := [d1, d2] }
  | _ => none }
def FnExactCountMonomialsWrongFalsely : Prop := fnExactCountMonomialsRow.holds Try.pinned (OpenSpec.ofChange fnExactCountMonomialsWrong)

/-- 'laws.FnExactMonomialsOf': WHATEVER THE INPUT: true; the input reads as it did. -/
def fnExactMonomialsOfSpec : ChangeSpec := { name := "fnExactMonomialsOf", fn := fun _ => fun
  | [d1, d2] => { results := [.lit (.bool true)], args := [d1, d2] }
  | _ => none }
def fnExactMonomialsOfRow : OpenClaim := { program := "ytmonaiojejbhkaa", sum := "c1d1ce1bf08bbe0a36d8278ef032bee2c24bc344c4179e079e468956529bebc7", func := "loop.example/g03100/laws.FnExactMonomialsOf", spec := "fnExactMonomialsOf", unfollowed := true, recurses := true, plainKeys := false, apart := false }
def FnExactMonomialsOfSaid : Prop := fnExactMonomialsOfRow.holds Try.pinned (OpenSpec.ofChange fnExactMonomialsOfSpec)

/-- ITS FALSE NEIGHBOUR: 'it returns false'. Refute it at one input. -/
def fnExactMonomialsOfWrong : ChangeSpec := { name := "fnExactMonomialsOf", fn := fun _ => fun
  | [d1, d2] => { results := [.lit (.bool false)], args := [d1, d2] }
  | _ => none }
def FnExactMonomialsOfWrongFalsely : Prop := fnExactMonomialsOfRow.holds Try.pinned (OpenSpec.ofChange fnExactMonomialsOfWrong)

/-- 'laws.FnExactFirstMonomials': WHATEVER THE INPUT: true; the input reads as it did. -/
def fnExactFirstMonomialsSpec : ChangeSpec := { name := "fnExactFirstMonomials", fn := fun _ => fun
  | [d1, d2, d3] => { results := [.lit (.bool true)], args := [d1, d2, d3] }
  | _ => none }
def fnExactFirstMonomialsRow : OpenClaim := { program := "ytmonaiojejbhkaa", sum := "c1d1ce1bf08bbe0a36d8278ef032bee2c24bc344c4179e079e468956529bebc7", func := "loop.example/g03100/laws.FnExactFirstMonomials", spec := "fnExactFirstMonomials", unfollowed := true, recurses := true, plainKeys := false, apart := false }
def FnExactFirstMonomialsSaid : Prop := fnExactFirstMonomialsRow.holds Try.pinned (OpenSpec.ofChange fnExactFirstMonomialsSpec)

/-- ITS FALSE NEIGHBOUR: 'it returns false'. Refute it at one input. -/
def fnExactFirstMonomialsWrong : ChangeSpec := { name := "fnExactFirstMonomials", fn := fun _ => fun
  | [d1, d2, d3] => { results := [.lit (.bool false)], args := [d1, d2, d3] }
  | _ => none }
def FnExactFirstMonomialsWrongFalsely : Prop := fnExactFirstMonomialsRow.holds Try.pinned (OpenSpec.ofChange fnExactFirstMonomialsWrong)

/- THE SECOND FORM. 'bulk': how many values and letters a reading holds, each counted each time it is reached (what is shared counts as often as it is met; a slice's spare places count too). A statement '..UptoSaid' is the law's where the arguments, and the package variables that the reading takes, are together of bulk at most 1048576: NARROWER than '..Said'. Prove '..Said' where nothing that the law and all that it calls make is longer than what came in: it says more and counts as full. Else prove '..UptoSaid'. A law counts once. -/
mutual
def uptoBulk {H : Type} : DataW H → Nat
  | .lit (.string bytes) => bytes.length + 1
  | .lit _ => 1
  | .nil => 1
  | .ptr d => uptoBulk d + 1
  | .slice elems spare => uptoBulkAll elems + uptoBulkAll spare + 1
  | .agg parts => uptoBulkAll parts + 1
  | .iface _ d => uptoBulk d + 1
  | .map entries => uptoBulkEntries entries + 1
  | .held _ => 1
def uptoBulkAll {H : Type} : List (DataW H) → Nat
  | [] => 0
  | d :: r => uptoBulk d + uptoBulkAll r
def uptoBulkEntries {H : Type} : List (Lit × DataW H) → Nat
  | [] => 0
  | x :: r => uptoBulkEntry x + uptoBulkEntries r
def uptoBulkEntry {H : Type} : Lit × DataW H → Nat
  | (.string bytes, d) => bytes.length + uptoBulk d + 1
  | (_, d) => uptoBulk d + 1
 end
def uptoSmall : (H : Type) → List (DataW H) → Bool := fun _ ds => decide (uptoBulkAll ds ≤ 1048576)
def OpenSpec.upto (s : _root_.Go.ChangeSpec) : _root_.Go.OpenSpec := { _root_.Go.OpenSpec.ofChange s with cond := some uptoSmall }

/-- 'laws.FnPowers', WHERE WHAT IT READS IS OF BULK AT MOST 1048576: true; the input reads as it did. -/
def fnPowersUptoRow : OpenClaim := { program := "ytmonaiojejbhkaa", sum := "c1d1ce1bf08bbe0a36d8278ef032bee2c24bc344c4179e079e468956529bebc7", func := "loop.example/g03100/laws.FnPowers", spec := "fnPowers", unfollowed := true, recurses := true, plainKeys := false, apart := false, narrowed := true }
def FnPowersUptoSaid : Prop := fnPowersUptoRow.holds Try.pinned (OpenSpec.upto fnPowersSpec)

/-- 'laws.FnExactPowerBound', WHERE WHAT IT READS IS OF BULK AT MOST 1048576: true; the input reads as it did. -/
def fnExactPowerBoundUptoRow : OpenClaim := { program := "ytmonaiojejbhkaa", sum := "c1d1ce1bf08bbe0a36d8278ef032bee2c24bc344c4179e079e468956529bebc7", func := "loop.example/g03100/laws.FnExactPowerBound", spec := "fnExactPowerBound", unfollowed := true, recurses := true, plainKeys := false, apart := false, narrowed := true }
def FnExactPowerBoundUptoSaid : Prop := fnExactPowerBoundUptoRow.holds Try.pinned (OpenSpec.upto fnExactPowerBoundSpec)

/-- 'laws.FnExactAreMonomialCounts', WHERE WHAT IT READS IS OF BULK AT MOST 1048576: true; the input reads as it did. -/
def fnExactAreMonomialCountsUptoRow : OpenClaim := { program := "ytmonaiojejbhkaa", sum := "c1d1ce1bf08bbe0a36d8278ef032bee2c24bc344c4179e079e468956529bebc7", func := "loop.example/g03100/laws.FnExactAreMonomialCounts", spec := "fnExactAreMonomialCounts", unfollowed := true, recurses := true, plainKeys := false, apart := false, narrowed := true }
def FnExactAreMonomialCountsUptoSaid : Prop := fnExactAreMonomialCountsUptoRow.holds Try.pinned (OpenSpec.upto fnExactAreMonomialCountsSpec)

/-- 'laws.FnExactCountMonomials', WHERE WHAT IT READS IS OF BULK AT MOST 1048576: true; the input reads as it did. -/
def fnExactCountMonomialsUptoRow : OpenClaim := { program := "ytmonaiojejbhkaa", sum := "c1d1ce1bf08bbe0a36d8278ef032bee2c24bc344c4179e079e468956529bebc7", func := "loop.example/g03100/laws.FnExactCountMonomials", spec := "fnExactCountMonomials", unfollowed := true, recurses := true, plainKeys := false, apart := false, narrowed := true }
def FnExactCountMonomialsUptoSaid : Prop := fnExactCountMonomialsUptoRow.holds Try.pinned (OpenSpec.upto fnExactCountMonomialsSpec)

/-- 'laws.FnExactMonomialsOf', WHERE WHAT IT READS IS OF BULK AT MOST 1048576: true; the input reads as it did. -/
def fnExactMonomialsOfUptoRow : OpenClaim := { program := "ytmonaiojejbhkaa", sum := "c1d1ce1bf08bbe0a36d8278ef032bee2c24bc344c4179e079e468956529bebc7", func := "loop.example/g03100/laws.FnExactMonomialsOf", spec := "fnExactMonomialsOf", unfollowed := true, recurses := true, plainKeys := false, apart := false, narrowed := true }
def FnExactMonomialsOfUptoSaid : Prop := fnExactMonomialsOfUptoRow.holds Try.pinned (OpenSpec.upto fnExactMonomialsOfSpec)

/-- 'laws.FnExactFirstMonomials', WHERE WHAT IT READS IS OF BULK AT MOST 1048576: true; the input reads as it did. -/
def fnExactFirstMonomialsUptoRow : OpenClaim := { program := "ytmonaiojejbhkaa", sum := "c1d1ce1bf08bbe0a36d8278ef032bee2c24bc344c4179e079e468956529bebc7", func := "loop.example/g03100/laws.FnExactFirstMonomials", spec := "fnExactFirstMonomials", unfollowed := true, recurses := true, plainKeys := false, apart := false, narrowed := true }
def FnExactFirstMonomialsUptoSaid : Prop := fnExactFirstMonomialsUptoRow.holds Try.pinned (OpenSpec.upto fnExactFirstMonomialsSpec)

end Rows
end Go.Proofs.Ytmonaiojejbhkaa
