/-
  No cell of these rows narrows 'for every input' (looked for: loops, veiled, ifaces, maps, wideKeys, modest, calm, conditions, laid).
  DERIVED. THE GIVEN ROWS OF THIS SEAT. 9 by the template 'for every input the law returns true; each argument reads behind the call as it read before'; 0 by the template 'total and deterministic' (their statements: YtlggglegoonapaaTotals.lean).
  GIVEN WITH THE SEED: the statements are not yours to turn. If you find one false, say at which input.
  Laid BY PROGRAM, IN A SANDBOX (cutbox-rows.mjs): the forced cells as the released guide's own fill.sh prints them over the translation caf2e50d725d6409… (all of the seat's roots in one cut). By AI agents, Wed Nov 11 2026. No macro, syntax, notation, axiom, sorry.
-/
import Derived.Test.YtlggglegoonapaaChecked
import GoSem.Claim
import GoSem.ClaimJoined
import GoSem.ClaimMapViews
import Derived.JoinedTies
import Derived.KernelRfl
namespace Go.Proofs.Ytlggglegoonapaa
/- THE CELL 'sum', in the pinned program and in every row, IS THE sha256 OF THE DUMP (.gsa) THAT YtlggglegoonapaaProg.lean LOADS. Nothing in Lean hashes anything: it is a label: what it is worth is what the hold of that sum in a sandbox is worth. -/
noncomputable def Try.pinned : Pinned := { name := "ytlggglegoonapaa", sum := "caf2e50d725d6409de29d68dec28e322497b104a42fcf4c0baa4b783834bfb61", checked := Try.checked }
namespace Rows
def none {H : Type} : Left H := { results := [], args := [] }

/-- 'laws.FnCounts': WHATEVER THE INPUT: true; the input reads as it did. -/
def fnCountsSpec : ChangeSpec := { name := "fnCounts", fn := fun _ => fun
  | [d] => { results := [.lit (.bool true)], args := [d] }
  | _ => none }
def fnCountsRow : OpenClaim := { program := "ytlggglegoonapaa", sum := "caf2e50d725d6409de29d68dec28e322497b104a42fcf4c0baa4b783834bfb61", func := "loop.example/g03100/laws.FnCounts", spec := "fnCounts", unfollowed := true, recurses := true, apart := false }
def FnCountsSaid : Prop := fnCountsRow.holds Try.pinned (OpenSpec.ofChange fnCountsSpec)

/-- ITS FALSE NEIGHBOUR: 'it returns false'. Refute it at one input. -/
def fnCountsWrong : ChangeSpec := { name := "fnCounts", fn := fun _ => fun
  | [d] => { results := [.lit (.bool false)], args := [d] }
  | _ => none }
def FnCountsWrongFalsely : Prop := fnCountsRow.holds Try.pinned (OpenSpec.ofChange fnCountsWrong)

/-- 'laws.FnExactDimOf': WHATEVER THE INPUT: true; the input reads as it did. -/
def fnExactDimOfSpec : ChangeSpec := { name := "fnExactDimOf", fn := fun _ => fun
  | [d] => { results := [.lit (.bool true)], args := [d] }
  | _ => none }
def fnExactDimOfRow : OpenClaim := { program := "ytlggglegoonapaa", sum := "caf2e50d725d6409de29d68dec28e322497b104a42fcf4c0baa4b783834bfb61", func := "loop.example/g03100/laws.FnExactDimOf", spec := "fnExactDimOf", apart := false }
def FnExactDimOfSaid : Prop := fnExactDimOfRow.holds Try.pinned (OpenSpec.ofChange fnExactDimOfSpec)

/-- ITS FALSE NEIGHBOUR: 'it returns false'. Refute it at one input. -/
def fnExactDimOfWrong : ChangeSpec := { name := "fnExactDimOf", fn := fun _ => fun
  | [d] => { results := [.lit (.bool false)], args := [d] }
  | _ => none }
def FnExactDimOfWrongFalsely : Prop := fnExactDimOfRow.holds Try.pinned (OpenSpec.ofChange fnExactDimOfWrong)

/-- 'laws.FnExactFacesOfSize': WHATEVER THE INPUT: true; the input reads as it did. -/
def fnExactFacesOfSizeSpec : ChangeSpec := { name := "fnExactFacesOfSize", fn := fun _ => fun
  | [d1, d2] => { results := [.lit (.bool true)], args := [d1, d2] }
  | _ => none }
def fnExactFacesOfSizeRow : OpenClaim := { program := "ytlggglegoonapaa", sum := "caf2e50d725d6409de29d68dec28e322497b104a42fcf4c0baa4b783834bfb61", func := "loop.example/g03100/laws.FnExactFacesOfSize", spec := "fnExactFacesOfSize", unfollowed := true, recurses := true, apart := false }
def FnExactFacesOfSizeSaid : Prop := fnExactFacesOfSizeRow.holds Try.pinned (OpenSpec.ofChange fnExactFacesOfSizeSpec)

/-- ITS FALSE NEIGHBOUR: 'it returns false'. Refute it at one input. -/
def fnExactFacesOfSizeWrong : ChangeSpec := { name := "fnExactFacesOfSize", fn := fun _ => fun
  | [d1, d2] => { results := [.lit (.bool false)], args := [d1, d2] }
  | _ => none }
def FnExactFacesOfSizeWrongFalsely : Prop := fnExactFacesOfSizeRow.holds Try.pinned (OpenSpec.ofChange fnExactFacesOfSizeWrong)

/-- 'laws.FnExactFaceCounts': WHATEVER THE INPUT: true; the input reads as it did. -/
def fnExactFaceCountsSpec : ChangeSpec := { name := "fnExactFaceCounts", fn := fun _ => fun
  | [d] => { results := [.lit (.bool true)], args := [d] }
  | _ => none }
def fnExactFaceCountsRow : OpenClaim := { program := "ytlggglegoonapaa", sum := "caf2e50d725d6409de29d68dec28e322497b104a42fcf4c0baa4b783834bfb61", func := "loop.example/g03100/laws.FnExactFaceCounts", spec := "fnExactFaceCounts", unfollowed := true, recurses := true, apart := false }
def FnExactFaceCountsSaid : Prop := fnExactFaceCountsRow.holds Try.pinned (OpenSpec.ofChange fnExactFaceCountsSpec)

/-- ITS FALSE NEIGHBOUR: 'it returns false'. Refute it at one input. -/
def fnExactFaceCountsWrong : ChangeSpec := { name := "fnExactFaceCounts", fn := fun _ => fun
  | [d] => { results := [.lit (.bool false)], args := [d] }
  | _ => none }
def FnExactFaceCountsWrongFalsely : Prop := fnExactFaceCountsRow.holds Try.pinned (OpenSpec.ofChange fnExactFaceCountsWrong)

/-- 'laws.FnExactEulerOf': WHATEVER THE INPUT: true; the input reads as it did. -/
def fnExactEulerOfSpec : ChangeSpec := { name := "fnExactEulerOf", fn := fun _ => fun
  | [d] => { results := [.lit (.bool true)], args := [d] }
  | _ => none }
def fnExactEulerOfRow : OpenClaim := { program := "ytlggglegoonapaa", sum := "caf2e50d725d6409de29d68dec28e322497b104a42fcf4c0baa4b783834bfb61", func := "loop.example/g03100/laws.FnExactEulerOf", spec := "fnExactEulerOf", unfollowed := true, recurses := true, apart := false }
def FnExactEulerOfSaid : Prop := fnExactEulerOfRow.holds Try.pinned (OpenSpec.ofChange fnExactEulerOfSpec)

/-- ITS FALSE NEIGHBOUR: 'it returns false'. Refute it at one input. -/
def fnExactEulerOfWrong : ChangeSpec := { name := "fnExactEulerOf", fn := fun _ => fun
  | [d] => { results := [.lit (.bool false)], args := [d] }
  | _ => none }
def FnExactEulerOfWrongFalsely : Prop := fnExactEulerOfRow.holds Try.pinned (OpenSpec.ofChange fnExactEulerOfWrong)

/-- 'laws.FnExactIsPure': WHATEVER THE INPUT: true; the input reads as it did. -/
def fnExactIsPureSpec : ChangeSpec := { name := "fnExactIsPure", fn := fun _ => fun
  | [d] => { results := [.lit (.bool true)], args := [d] }
  | _ => none }
def fnExactIsPureRow : OpenClaim := { program := "ytlggglegoonapaa", sum := "caf2e50d725d6409de29d68dec28e322497b104a42fcf4c0baa4b783834bfb61", func := "loop.example/g03100/laws.FnExactIsPure", spec := "fnExactIsPure", apart := false }
def FnExactIsPureSaid : Prop := fnExactIsPureRow.holds Try.pinned (OpenSpec.ofChange fnExactIsPureSpec)

/-- ITS FALSE NEIGHBOUR: 'it returns false'. Refute it at one input. -/
def fnExactIsPureWrong : ChangeSpec := { name := "fnExactIsPure", fn := fun _ => fun
  | [d] => { results := [.lit (.bool false)], args := [d] }
  | _ => none }
def FnExactIsPureWrongFalsely : Prop := fnExactIsPureRow.holds Try.pinned (OpenSpec.ofChange fnExactIsPureWrong)

/-- 'laws.FnExactUsedPoints': WHATEVER THE INPUT: true; the input reads as it did. -/
def fnExactUsedPointsSpec : ChangeSpec := { name := "fnExactUsedPoints", fn := fun _ => fun
  | [d] => { results := [.lit (.bool true)], args := [d] }
  | _ => none }
def fnExactUsedPointsRow : OpenClaim := { program := "ytlggglegoonapaa", sum := "caf2e50d725d6409de29d68dec28e322497b104a42fcf4c0baa4b783834bfb61", func := "loop.example/g03100/laws.FnExactUsedPoints", spec := "fnExactUsedPoints", apart := false }
def FnExactUsedPointsSaid : Prop := fnExactUsedPointsRow.holds Try.pinned (OpenSpec.ofChange fnExactUsedPointsSpec)

/-- ITS FALSE NEIGHBOUR: 'it returns false'. Refute it at one input. -/
def fnExactUsedPointsWrong : ChangeSpec := { name := "fnExactUsedPoints", fn := fun _ => fun
  | [d] => { results := [.lit (.bool false)], args := [d] }
  | _ => none }
def FnExactUsedPointsWrongFalsely : Prop := fnExactUsedPointsRow.holds Try.pinned (OpenSpec.ofChange fnExactUsedPointsWrong)

/-- 'laws.FnExactIsSimplex': WHATEVER THE INPUT: true; the input reads as it did. -/
def fnExactIsSimplexSpec : ChangeSpec := { name := "fnExactIsSimplex", fn := fun _ => fun
  | [d] => { results := [.lit (.bool true)], args := [d] }
  | _ => none }
def fnExactIsSimplexRow : OpenClaim := { program := "ytlggglegoonapaa", sum := "caf2e50d725d6409de29d68dec28e322497b104a42fcf4c0baa4b783834bfb61", func := "loop.example/g03100/laws.FnExactIsSimplex", spec := "fnExactIsSimplex", apart := false }
def FnExactIsSimplexSaid : Prop := fnExactIsSimplexRow.holds Try.pinned (OpenSpec.ofChange fnExactIsSimplexSpec)

/-- ITS FALSE NEIGHBOUR: 'it returns false'. Refute it at one input. -/
def fnExactIsSimplexWrong : ChangeSpec := { name := "fnExactIsSimplex", fn := fun _ => fun
  | [d] => { results := [.lit (.bool false)], args := [d] }
  | _ => none }
def FnExactIsSimplexWrongFalsely : Prop := fnExactIsSimplexRow.holds Try.pinned (OpenSpec.ofChange fnExactIsSimplexWrong)

/-- 'laws.FnExactDegreeOf': WHATEVER THE INPUT: true; the input reads as it did. -/
def fnExactDegreeOfSpec : ChangeSpec := { name := "fnExactDegreeOf", fn := fun _ => fun
  | [d1, d2] => { results := [.lit (.bool true)], args := [d1, d2] }
  | _ => none }
def fnExactDegreeOfRow : OpenClaim := { program := "ytlggglegoonapaa", sum := "caf2e50d725d6409de29d68dec28e322497b104a42fcf4c0baa4b783834bfb61", func := "loop.example/g03100/laws.FnExactDegreeOf", spec := "fnExactDegreeOf", apart := false }
def FnExactDegreeOfSaid : Prop := fnExactDegreeOfRow.holds Try.pinned (OpenSpec.ofChange fnExactDegreeOfSpec)

/-- ITS FALSE NEIGHBOUR: 'it returns false'. Refute it at one input. -/
def fnExactDegreeOfWrong : ChangeSpec := { name := "fnExactDegreeOf", fn := fun _ => fun
  | [d1, d2] => { results := [.lit (.bool false)], args := [d1, d2] }
  | _ => none }
def FnExactDegreeOfWrongFalsely : Prop := fnExactDegreeOfRow.holds Try.pinned (OpenSpec.ofChange fnExactDegreeOfWrong)

/- THE SECOND FORM. 'bulk': how many values and letters a reading holds, each counted each time it is reached (what is shared counts as often as it is met; a slice's spare places count too). A statement '..UptoSaid' is the law's where the arguments, and the package variables that the reading takes, are together of bulk at most 1048576: NARROWER than '..Said'. Prove '..Said' where nothing that the law and all that it calls make is longer than what came in: it says more and counts as full. Else prove '..UptoSaid'. A law counts once. -/
mutual
def uptoBulk {H : Type} : DataW H → Nat
  | .lit (.string bytes) => bytes.length + 1
  | .lit _ => 1
  | .nil => 1
  | .ptr d => uptoBulk d + 1
  | .slice elems spare => uptoBulkAll elems + uptoBulkAll spare + 1
  | .agg parts => uptoBulkAll parts + 1
  | .iface _ d => uptoBulk d + 1
  | .map entries => uptoBulkEntries entries + 1
  | .held _ => 1
def uptoBulkAll {H : Type} : List (DataW H) → Nat
  | [] => 0
  | d :: r => uptoBulk d + uptoBulkAll r
def uptoBulkEntries {H : Type} : List (Lit × DataW H) → Nat
  | [] => 0
  | x :: r => uptoBulkEntry x + uptoBulkEntries r
def uptoBulkEntry {H : Type} : Lit × DataW H → Nat
  | (.string bytes, d) => bytes.length + uptoBulk d + 1
  | (_, d) => uptoBulk d + 1
 end
def uptoSmall : (H : Type) → List (DataW H) → Bool := fun _ ds => decide (uptoBulkAll ds ≤ 1048576)
def OpenSpec.upto (s : _root_.Go.ChangeSpec) : _root_.Go.OpenSpec := { _root_.Go.OpenSpec.ofChange s with cond := some uptoSmall }

/-- 'laws.FnCounts', WHERE WHAT IT READS IS OF BULK AT MOST 1048576: true; the input reads as it did. -/
def fnCountsUptoRow : OpenClaim := { program := "ytlggglegoonapaa", sum := "caf2e50d725d6409de29d68dec28e322497b104a42fcf4c0baa4b783834bfb61", func := "loop.example/g03100/laws.FnCounts", spec := "fnCounts", unfollowed := true, recurses := true, apart := false, narrowed := true }
def FnCountsUptoSaid : Prop := fnCountsUptoRow.holds Try.pinned (OpenSpec.upto fnCountsSpec)

/-- 'laws.FnExactDimOf', WHERE WHAT IT READS IS OF BULK AT MOST 1048576: true; the input reads as it did. -/
def fnExactDimOfUptoRow : OpenClaim := { program := "ytlggglegoonapaa", sum := "caf2e50d725d6409de29d68dec28e322497b104a42fcf4c0baa4b783834bfb61", func := "loop.example/g03100/laws.FnExactDimOf", spec := "fnExactDimOf", apart := false, narrowed := true }
def FnExactDimOfUptoSaid : Prop := fnExactDimOfUptoRow.holds Try.pinned (OpenSpec.upto fnExactDimOfSpec)

/-- 'laws.FnExactFacesOfSize', WHERE WHAT IT READS IS OF BULK AT MOST 1048576: true; the input reads as it did. -/
def fnExactFacesOfSizeUptoRow : OpenClaim := { program := "ytlggglegoonapaa", sum := "caf2e50d725d6409de29d68dec28e322497b104a42fcf4c0baa4b783834bfb61", func := "loop.example/g03100/laws.FnExactFacesOfSize", spec := "fnExactFacesOfSize", unfollowed := true, recurses := true, apart := false, narrowed := true }
def FnExactFacesOfSizeUptoSaid : Prop := fnExactFacesOfSizeUptoRow.holds Try.pinned (OpenSpec.upto fnExactFacesOfSizeSpec)

/-- 'laws.FnExactFaceCounts', WHERE WHAT IT READS IS OF BULK AT MOST 1048576: true; the input reads as it did. -/
def fnExactFaceCountsUptoRow : OpenClaim := { program := "ytlggglegoonapaa", sum := "caf2e50d725d6409de29d68dec28e322497b104a42fcf4c0baa4b783834bfb61", func := "loop.example/g03100/laws.FnExactFaceCounts", spec := "fnExactFaceCounts", unfollowed := true, recurses := true, apart := false, narrowed := true }
def FnExactFaceCountsUptoSaid : Prop := fnExactFaceCountsUptoRow.holds Try.pinned (OpenSpec.upto fnExactFaceCountsSpec)

/-- 'laws.FnExactEulerOf', WHERE WHAT IT READS IS OF BULK AT MOST 1048576: true; the input reads as it did. -/
def fnExactEulerOfUptoRow : OpenClaim := { program := "ytlggglegoonapaa", sum := "caf2e50d725d6409de29d68dec28e322497b104a42fcf4c0baa4b783834bfb61", func := "loop.example/g03100/laws.FnExactEulerOf", spec := "fnExactEulerOf", unfollowed := true, recurses := true, apart := false, narrowed := true }
def FnExactEulerOfUptoSaid : Prop := fnExactEulerOfUptoRow.holds Try.pinned (OpenSpec.upto fnExactEulerOfSpec)

/-- 'laws.FnExactIsPure', WHERE WHAT IT READS IS OF BULK AT MOST 1048576: true; the input reads as it did. -/
def fnExactIsPureUptoRow : OpenClaim := { program := "ytlggglegoonapaa", sum := "caf2e50d725d6409de29d68dec28e322497b104a42fcf4c0baa4b783834bfb61", func := "loop.example/g03100/laws.FnExactIsPure", spec := "fnExactIsPure", apart := false, narrowed := true }
def FnExactIsPureUptoSaid : Prop := fnExactIsPureUptoRow.holds Try.pinned (OpenSpec.upto fnExactIsPureSpec)

/-- 'laws.FnExactUsedPoints', WHERE WHAT IT READS IS OF BULK AT MOST 1048576: true; the input reads as it did. -/
def fnExactUsedPointsUptoRow : OpenClaim := { program := "ytlggglegoonapaa", sum := "caf2e50d725d6409de29d68dec28e322497b104a42fcf4c0baa4b783834bfb61", func := "loop.example/g03100/laws.FnExactUsedPoints", spec := "fnExactUsedPoints", apart := false, narrowed := true }
def FnExactUsedPointsUptoSaid : Prop := fnExactUsedPointsUptoRow.holds Try.pinned (OpenSpec.upto fnExactUsedPointsSpec)

/-- 'laws.FnExactIsSimplex', WHERE WHAT IT READS IS OF BULK AT MOST 1048576: true; the input reads as it did. -/
def fnExactIsSimplexUptoRow : OpenClaim := { program := "ytlggglegoonapaa", sum := "caf2e50d725d6409de29d68dec28e322497b104a42fcf4c0baa4b783834bfb61", func := "loop.example/g03100/laws.FnExactIsSimplex", spec := "fnExactIsSimplex", apart := false, narrowed := true }
def FnExactIsSimplexUptoSaid : Prop := fnExactIsSimplexUptoRow.holds Try.pinned (OpenSpec.upto fnExactIsSimplexSpec)

/-- 'laws.FnExactDegreeOf', WHERE WHAT IT READS IS OF BULK AT MOST 1048576: true; the input reads as it did. -/
def fnExactDegreeOfUptoRow : OpenClaim := { program := "ytlggglegoonapaa", sum := "caf2e50d725d6409de29d68dec28e322497b104a42fcf4c0baa4b783834bfb61", func := "loop.example/g03100/laws.FnExactDegreeOf", spec := "fnExactDegreeOf", apart := false, narrowed := true }
def FnExactDegreeOfUptoSaid : Prop := fnExactDegreeOfUptoRow.holds Try.pinned (OpenSpec.upto fnExactDegreeOfSpec)

end Rows
end Go.Proofs.Ytlggglegoonapaa
