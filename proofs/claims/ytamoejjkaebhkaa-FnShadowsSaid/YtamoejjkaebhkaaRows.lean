/-
  No cell of these rows narrows 'for every input' (looked for: loops, veiled, ifaces, maps, wideKeys, modest, calm, conditions, laid).
  DERIVED. THE GIVEN ROWS OF THIS SEAT. 6 by the template 'for every input the law returns true; each argument reads behind the call as it read before'; 0 by the template 'total and deterministic' (their statements: YtamoejjkaebhkaaTotals.lean).
  GIVEN WITH THE SEED: the statements are not yours to turn. If you find one false, say at which input.
  Laid BY PROGRAM, IN A SANDBOX (cutbox-rows.mjs): the forced cells as the released guide's own fill.sh prints them over the translation 9f9a9c6ef4e0cd32… (all of the seat's roots in one cut). By AI agents, Wed Nov 11 2026. No macro, syntax, notation, axiom, sorry.
-/
import Derived.Test.YtamoejjkaebhkaaChecked
import GoSem.Claim
import GoSem.ClaimJoined
import GoSem.ClaimMapViews
import Derived.JoinedTies
import Derived.KernelRfl
namespace Go.Proofs.Ytamoejjkaebhkaa
/- THE CELL 'sum', in the pinned program and in every row, IS THE sha256 OF THE DUMP (.gsa) THAT YtamoejjkaebhkaaProg.lean LOADS. Nothing in Lean hashes anything: it is a label: what it is worth is what the hold of that sum in a sandbox is worth. -/
noncomputable def Try.pinned : Pinned := { name := "ytamoejjkaebhkaa", sum := "9f9a9c6ef4e0cd328cfe4b9ac4b114a7107d78eec244805934313198c2266380", checked := Try.checked }
namespace Rows
def none {H : Type} : Left H := { results := [], args := [] }

/-- 'laws.FnShadows': WHATEVER THE INPUT: true; the input reads as it did. -/
def fnShadowsSpec : ChangeSpec := { name := "fnShadows", fn := fun _ => fun
  | [d] => { results := [.lit (.bool true)], args := [d] }
  | _ => none }
def fnShadowsRow : OpenClaim := { program := "ytamoejjkaebhkaa", sum := "9f9a9c6ef4e0cd328cfe4b9ac4b114a7107d78eec244805934313198c2266380", func := "loop.example/g03100/laws.FnShadows", spec := "fnShadows", unfollowed := true, recurses := true, plainKeys := false, apart := false }
def FnShadowsSaid : Prop := fnShadowsRow.holds Try.pinned (OpenSpec.ofChange fnShadowsSpec)

/-- ITS FALSE NEIGHBOUR: 'it returns false'. Refute it at one input. -/
def fnShadowsWrong : ChangeSpec := { name := "fnShadows", fn := fun _ => fun
  | [d] => { results := [.lit (.bool false)], args := [d] }
  | _ => none }
def FnShadowsWrongFalsely : Prop := fnShadowsRow.holds Try.pinned (OpenSpec.ofChange fnShadowsWrong)

/-- 'laws.FnExactCascadeOf': WHATEVER THE INPUT: true; the input reads as it did. -/
def fnExactCascadeOfSpec : ChangeSpec := { name := "fnExactCascadeOf", fn := fun _ => fun
  | [d1, d2] => { results := [.lit (.bool true)], args := [d1, d2] }
  | _ => none }
def fnExactCascadeOfRow : OpenClaim := { program := "ytamoejjkaebhkaa", sum := "9f9a9c6ef4e0cd328cfe4b9ac4b114a7107d78eec244805934313198c2266380", func := "loop.example/g03100/laws.FnExactCascadeOf", spec := "fnExactCascadeOf", unfollowed := true, recurses := true, plainKeys := false, apart := false }
def FnExactCascadeOfSaid : Prop := fnExactCascadeOfRow.holds Try.pinned (OpenSpec.ofChange fnExactCascadeOfSpec)

/-- ITS FALSE NEIGHBOUR: 'it returns false'. Refute it at one input. -/
def fnExactCascadeOfWrong : ChangeSpec := { name := "fnExactCascadeOf", fn := fun _ => fun
  | [d1, d2] => { results := [.lit (.bool false)], args := [d1, d2] }
  | _ => none }
def FnExactCascadeOfWrongFalsely : Prop := fnExactCascadeOfRow.holds Try.pinned (OpenSpec.ofChange fnExactCascadeOfWrong)

/-- 'laws.FnExactShadowBound': WHATEVER THE INPUT: true; the input reads as it did. -/
def fnExactShadowBoundSpec : ChangeSpec := { name := "fnExactShadowBound", fn := fun _ => fun
  | [d1, d2] => { results := [.lit (.bool true)], args := [d1, d2] }
  | _ => none }
def fnExactShadowBoundRow : OpenClaim := { program := "ytamoejjkaebhkaa", sum := "9f9a9c6ef4e0cd328cfe4b9ac4b114a7107d78eec244805934313198c2266380", func := "loop.example/g03100/laws.FnExactShadowBound", spec := "fnExactShadowBound", unfollowed := true, recurses := true, plainKeys := false, apart := false }
def FnExactShadowBoundSaid : Prop := fnExactShadowBoundRow.holds Try.pinned (OpenSpec.ofChange fnExactShadowBoundSpec)

/-- ITS FALSE NEIGHBOUR: 'it returns false'. Refute it at one input. -/
def fnExactShadowBoundWrong : ChangeSpec := { name := "fnExactShadowBound", fn := fun _ => fun
  | [d1, d2] => { results := [.lit (.bool false)], args := [d1, d2] }
  | _ => none }
def FnExactShadowBoundWrongFalsely : Prop := fnExactShadowBoundRow.holds Try.pinned (OpenSpec.ofChange fnExactShadowBoundWrong)

/-- 'laws.FnExactAreFaceCounts': WHATEVER THE INPUT: true; the input reads as it did. -/
def fnExactAreFaceCountsSpec : ChangeSpec := { name := "fnExactAreFaceCounts", fn := fun _ => fun
  | [d] => { results := [.lit (.bool true)], args := [d] }
  | _ => none }
def fnExactAreFaceCountsRow : OpenClaim := { program := "ytamoejjkaebhkaa", sum := "9f9a9c6ef4e0cd328cfe4b9ac4b114a7107d78eec244805934313198c2266380", func := "loop.example/g03100/laws.FnExactAreFaceCounts", spec := "fnExactAreFaceCounts", unfollowed := true, recurses := true, plainKeys := false, apart := false }
def FnExactAreFaceCountsSaid : Prop := fnExactAreFaceCountsRow.holds Try.pinned (OpenSpec.ofChange fnExactAreFaceCountsSpec)

/-- ITS FALSE NEIGHBOUR: 'it returns false'. Refute it at one input. -/
def fnExactAreFaceCountsWrong : ChangeSpec := { name := "fnExactAreFaceCounts", fn := fun _ => fun
  | [d] => { results := [.lit (.bool false)], args := [d] }
  | _ => none }
def FnExactAreFaceCountsWrongFalsely : Prop := fnExactAreFaceCountsRow.holds Try.pinned (OpenSpec.ofChange fnExactAreFaceCountsWrong)

/-- 'laws.FnExactFirstSets': WHATEVER THE INPUT: true; the input reads as it did. -/
def fnExactFirstSetsSpec : ChangeSpec := { name := "fnExactFirstSets", fn := fun _ => fun
  | [d1, d2] => { results := [.lit (.bool true)], args := [d1, d2] }
  | _ => none }
def fnExactFirstSetsRow : OpenClaim := { program := "ytamoejjkaebhkaa", sum := "9f9a9c6ef4e0cd328cfe4b9ac4b114a7107d78eec244805934313198c2266380", func := "loop.example/g03100/laws.FnExactFirstSets", spec := "fnExactFirstSets", unfollowed := true, recurses := true, plainKeys := false, apart := false }
def FnExactFirstSetsSaid : Prop := fnExactFirstSetsRow.holds Try.pinned (OpenSpec.ofChange fnExactFirstSetsSpec)

/-- ITS FALSE NEIGHBOUR: 'it returns false'. Refute it at one input. -/
def fnExactFirstSetsWrong : ChangeSpec := { name := "fnExactFirstSets", fn := fun _ => fun
  | [d1, d2] => { results := [.lit (.bool false)], args := [d1, d2] }
  | _ => none }
def FnExactFirstSetsWrongFalsely : Prop := fnExactFirstSetsRow.holds Try.pinned (OpenSpec.ofChange fnExactFirstSetsWrong)

/-- 'laws.FnExactCompressedComplex': WHATEVER THE INPUT: true; the input reads as it did. -/
def fnExactCompressedComplexSpec : ChangeSpec := { name := "fnExactCompressedComplex", fn := fun _ => fun
  | [d] => { results := [.lit (.bool true)], args := [d] }
  | _ => none }
def fnExactCompressedComplexRow : OpenClaim := { program := "ytamoejjkaebhkaa", sum := "9f9a9c6ef4e0cd328cfe4b9ac4b114a7107d78eec244805934313198c2266380", func := "loop.example/g03100/laws.FnExactCompressedComplex", spec := "fnExactCompressedComplex", unfollowed := true, recurses := true, plainKeys := false, apart := false }
def FnExactCompressedComplexSaid : Prop := fnExactCompressedComplexRow.holds Try.pinned (OpenSpec.ofChange fnExactCompressedComplexSpec)

/-- ITS FALSE NEIGHBOUR: 'it returns false'. Refute it at one input. -/
def fnExactCompressedComplexWrong : ChangeSpec := { name := "fnExactCompressedComplex", fn := fun _ => fun
  | [d] => { results := [.lit (.bool false)], args := [d] }
  | _ => none }
def FnExactCompressedComplexWrongFalsely : Prop := fnExactCompressedComplexRow.holds Try.pinned (OpenSpec.ofChange fnExactCompressedComplexWrong)

/- THE SECOND FORM. 'bulk': how many values and letters a reading holds, each counted each time it is reached (what is shared counts as often as it is met; a slice's spare places count too). A statement '..UptoSaid' is the law's where the arguments, and the package variables that the reading takes, are together of bulk at most 1048576: NARROWER than '..Said'. Prove '..Said' where nothing that the law and all that it calls make is longer than what came in: it says more and counts as full. Else prove '..UptoSaid'. A law counts once. -/
mutual
def uptoBulk {H : Type} : DataW H → Nat
  | .lit (.string bytes) => bytes.length + 1
  | .lit _ => 1
  | .nil => 1
  | .ptr d => uptoBulk d + 1
  | .slice elems spare => uptoBulkAll elems + uptoBulkAll spare + 1
  | .agg parts => uptoBulkAll parts + 1
  | .iface _ d => uptoBulk d + 1
  | .map entries => uptoBulkEntries entries + 1
  | .held _ => 1
def uptoBulkAll {H : Type} : List (DataW H) → Nat
  | [] => 0
  | d :: r => uptoBulk d + uptoBulkAll r
def uptoBulkEntries {H : Type} : List (Lit × DataW H) → Nat
  | [] => 0
  | x :: r => uptoBulkEntry x + uptoBulkEntries r
def uptoBulkEntry {H : Type} : Lit × DataW H → Nat
  | (.string bytes, d) => bytes.length + uptoBulk d + 1
  | (_, d) => uptoBulk d + 1
 end
def uptoSmall : (H : Type) → List (DataW H) → Bool := fun _ ds => decide (uptoBulkAll ds ≤ 1048576)
def OpenSpec.upto (s : _root_.Go.ChangeSpec) : _root_.Go.OpenSpec := { _root_.Go.OpenSpec.ofChange s with cond := some uptoSmall }

/-- 'laws.FnShadows', WHERE WHAT IT READS IS OF BULK AT MOST 1048576: true; the input reads as it did. -/
def fnShadowsUptoRow : OpenClaim := { program := "ytamoejjkaebhkaa", sum := "9f9a9c6ef4e0cd328cfe4b9ac4b114a7107d78eec244805934313198c2266380", func := "loop.example/g03100/laws.FnShadows", spec := "fnShadows", unfollowed := true, recurses := true, plainKeys := false, apart := false, narrowed := true }
def FnShadowsUptoSaid : Prop := fnShadowsUptoRow.holds Try.pinned (OpenSpec.upto fnShadowsSpec)

/-- 'laws.FnExactCascadeOf', WHERE WHAT IT READS IS OF BULK AT MOST 1048576: true; the input reads as it did. -/
def fnExactCascadeOfUptoRow : OpenClaim := { program := "ytamoejjkaebhkaa", sum := "9f9a9c6ef4e0cd328cfe4b9ac4b114a7107d78eec244805934313198c2266380", func := "loop.example/g03100/laws.FnExactCascadeOf", spec := "fnExactCascadeOf", unfollowed := true, recurses := true, plainKeys := false, apart := false, narrowed := true }
def FnExactCascadeOfUptoSaid : Prop := fnExactCascadeOfUptoRow.holds Try.pinned (OpenSpec.upto fnExactCascadeOfSpec)

/-- 'laws.FnExactShadowBound', WHERE WHAT IT READS IS OF BULK AT MOST 1048576: true; the input reads as it did. -/
def fnExactShadowBoundUptoRow : OpenClaim := { program := "ytamoejjkaebhkaa", sum := "9f9a9c6ef4e0cd328cfe4b9ac4b114a7107d78eec244805934313198c2266380", func := "loop.example/g03100/laws.FnExactShadowBound", spec := "fnExactShadowBound", unfollowed := true, recurses := true, plainKeys := false, apart := false, narrowed := true }
def FnExactShadowBoundUptoSaid : Prop := fnExactShadowBoundUptoRow.holds Try.pinned (OpenSpec.upto fnExactShadowBoundSpec)

/-- 'laws.FnExactAreFaceCounts', WHERE WHAT IT READS IS OF BULK AT MOST 1048576: true; the input reads as it did. -/
def fnExactAreFaceCountsUptoRow : OpenClaim := { program := "ytamoejjkaebhkaa", sum := "9f9a9c6ef4e0cd328cfe4b9ac4b114a7107d78eec244805934313198c2266380", func := "loop.example/g03100/laws.FnExactAreFaceCounts", spec := "fnExactAreFaceCounts", unfollowed := true, recurses := true, plainKeys := false, apart := false, narrowed := true }
def FnExactAreFaceCountsUptoSaid : Prop := fnExactAreFaceCountsUptoRow.holds Try.pinned (OpenSpec.upto fnExactAreFaceCountsSpec)

/-- 'laws.FnExactFirstSets', WHERE WHAT IT READS IS OF BULK AT MOST 1048576: true; the input reads as it did. -/
def fnExactFirstSetsUptoRow : OpenClaim := { program := "ytamoejjkaebhkaa", sum := "9f9a9c6ef4e0cd328cfe4b9ac4b114a7107d78eec244805934313198c2266380", func := "loop.example/g03100/laws.FnExactFirstSets", spec := "fnExactFirstSets", unfollowed := true, recurses := true, plainKeys := false, apart := false, narrowed := true }
def FnExactFirstSetsUptoSaid : Prop := fnExactFirstSetsUptoRow.holds Try.pinned (OpenSpec.upto fnExactFirstSetsSpec)

/-- 'laws.FnExactCompressedComplex', WHERE WHAT IT READS IS OF BULK AT MOST 1048576: true; the input reads as it did. -/
def fnExactCompressedComplexUptoRow : OpenClaim := { program := "ytamoejjkaebhkaa", sum := "9f9a9c6ef4e0cd328cfe4b9ac4b114a7107d78eec244805934313198c2266380", func := "loop.example/g03100/laws.FnExactCompressedComplex", spec := "fnExactCompressedComplex", unfollowed := true, recurses := true, plainKeys := false, apart := false, narrowed := true }
def FnExactCompressedComplexUptoSaid : Prop := fnExactCompressedComplexUptoRow.holds Try.pinned (OpenSpec.upto fnExactCompressedComplexSpec)

end Rows
end Go.Proofs.Ytamoejjkaebhkaa
