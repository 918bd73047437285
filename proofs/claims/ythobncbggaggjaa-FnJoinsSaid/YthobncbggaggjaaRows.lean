/-
  No cell of these rows narrows 'for every input' (looked for: loops, veiled, ifaces, maps, wideKeys, modest, calm, conditions, laid).
  DERIVED. THE GIVEN ROWS OF THIS SEAT. 7 by the template 'for every input the law returns true; each argument reads behind the call as it read before'; 0 by the template 'total and deterministic' (their statements: YthobncbggaggjaaTotals.lean).
  GIVEN WITH THE SEED: the statements are not yours to turn. If you find one false, say at which input.
  Laid BY PROGRAM, IN A SANDBOX (cutbox-rows.mjs): the forced cells as the released guide's own fill.sh prints them over the translation 7b7e54e1a61a76cf… (all of the seat's roots in one cut). By AI agents, Wed Nov 11 2026. No macro, syntax, notation, axiom, sorry.
-/
import Derived.Test.YthobncbggaggjaaChecked
import GoSem.Claim
import GoSem.ClaimJoined
import GoSem.ClaimMapViews
import Derived.JoinedTies
import Derived.KernelRfl
namespace Go.Proofs.Ythobncbggaggjaa
/- THE CELL 'sum', in the pinned program and in every row, IS THE sha256 OF THE DUMP (.gsa) THAT YthobncbggaggjaaProg.lean LOADS. Nothing in Lean hashes anything: it is a label: what it is worth is what the hold of that sum in a sandbox is worth. -/
noncomputable def Try.pinned : Pinned := { name := "ythobncbggaggjaa", sum := "7b7e54e1a61a76cf8e9ceb785ec6ff80c8c1cdff857c4315ed8957d7e3806b41", checked := Try.checked }
namespace Rows
def none {H : Type} : Left H := { results := [], args := [] }

/-- 'laws.FnJoins': WHATEVER THE INPUT: true; the input reads as it did. -/
def fnJoinsSpec : ChangeSpec := { name := "fnJoins", fn := fun _ => fun
  | [d] => { results := [.lit (.bool true)], args := [d] }
  | _ => none }
def fnJoinsRow : OpenClaim := { program := "ythobncbggaggjaa", sum := "7b7e54e1a61a76cf8e9ceb785ec6ff80c8c1cdff857c4315ed8957d7e3806b41", func := "loop.example/g03100/laws.FnJoins", spec := "fnJoins", unfollowed := true, recurses := true, apart := false }
def FnJoinsSaid : Prop := fnJoinsRow.holds Try.pinned (OpenSpec.ofChange fnJoinsSpec)

/-- ITS FALSE NEIGHBOUR: 'it returns false'. Refute it at one input. -/
def fnJoinsWrong : ChangeSpec := { name := "fnJoins", fn := fun _ => fun
  | [d] => { results := [.lit (.bool false)], args := [d] }
  | _ => none }
def FnJoinsWrongFalsely : Prop := fnJoinsRow.holds Try.pinned (OpenSpec.ofChange fnJoinsWrong)

/-- 'laws.FnExactJoinOf': WHATEVER THE INPUT: true; the input reads as it did. -/
def fnExactJoinOfSpec : ChangeSpec := { name := "fnExactJoinOf", fn := fun _ => fun
  | [d1, d2] => { results := [.lit (.bool true)], args := [d1, d2] }
  | _ => none }
def fnExactJoinOfRow : OpenClaim := { program := "ythobncbggaggjaa", sum := "7b7e54e1a61a76cf8e9ceb785ec6ff80c8c1cdff857c4315ed8957d7e3806b41", func := "loop.example/g03100/laws.FnExactJoinOf", spec := "fnExactJoinOf", unfollowed := true, recurses := true, apart := false }
def FnExactJoinOfSaid : Prop := fnExactJoinOfRow.holds Try.pinned (OpenSpec.ofChange fnExactJoinOfSpec)

/-- ITS FALSE NEIGHBOUR: 'it returns false'. Refute it at one input. -/
def fnExactJoinOfWrong : ChangeSpec := { name := "fnExactJoinOf", fn := fun _ => fun
  | [d1, d2] => { results := [.lit (.bool false)], args := [d1, d2] }
  | _ => none }
def FnExactJoinOfWrongFalsely : Prop := fnExactJoinOfRow.holds Try.pinned (OpenSpec.ofChange fnExactJoinOfWrong)

/-- 'laws.FnExactDisjointOf': WHATEVER THE INPUT: true; the input reads as it did. -/
def fnExactDisjointOfSpec : ChangeSpec := { name := "fnExactDisjointOf", fn := fun _ => fun
  | [d1, d2] => { results := [.lit (.bool true)], args := [d1, d2] }
  | _ => none }
def fnExactDisjointOfRow : OpenClaim := { program := "ythobncbggaggjaa", sum := "7b7e54e1a61a76cf8e9ceb785ec6ff80c8c1cdff857c4315ed8957d7e3806b41", func := "loop.example/g03100/laws.FnExactDisjointOf", spec := "fnExactDisjointOf", unfollowed := true, recurses := true, apart := false }
def FnExactDisjointOfSaid : Prop := fnExactDisjointOfRow.holds Try.pinned (OpenSpec.ofChange fnExactDisjointOfSpec)

/-- ITS FALSE NEIGHBOUR: 'it returns false'. Refute it at one input. -/
def fnExactDisjointOfWrong : ChangeSpec := { name := "fnExactDisjointOf", fn := fun _ => fun
  | [d1, d2] => { results := [.lit (.bool false)], args := [d1, d2] }
  | _ => none }
def FnExactDisjointOfWrongFalsely : Prop := fnExactDisjointOfRow.holds Try.pinned (OpenSpec.ofChange fnExactDisjointOfWrong)

/-- 'laws.FnExactConeOf': WHATEVER THE INPUT: true; the input reads as it did. -/
def fnExactConeOfSpec : ChangeSpec := { name := "fnExactConeOf", fn := fun _ => fun
  | [d] => { results := [.lit (.bool true)], args := [d] }
  | _ => none }
def fnExactConeOfRow : OpenClaim := { program := "ythobncbggaggjaa", sum := "7b7e54e1a61a76cf8e9ceb785ec6ff80c8c1cdff857c4315ed8957d7e3806b41", func := "loop.example/g03100/laws.FnExactConeOf", spec := "fnExactConeOf", unfollowed := true, recurses := true, apart := false }
def FnExactConeOfSaid : Prop := fnExactConeOfRow.holds Try.pinned (OpenSpec.ofChange fnExactConeOfSpec)

/-- ITS FALSE NEIGHBOUR: 'it returns false'. Refute it at one input. -/
def fnExactConeOfWrong : ChangeSpec := { name := "fnExactConeOf", fn := fun _ => fun
  | [d] => { results := [.lit (.bool false)], args := [d] }
  | _ => none }
def FnExactConeOfWrongFalsely : Prop := fnExactConeOfRow.holds Try.pinned (OpenSpec.ofChange fnExactConeOfWrong)

/-- 'laws.FnExactSuspensionOf': WHATEVER THE INPUT: true; the input reads as it did. -/
def fnExactSuspensionOfSpec : ChangeSpec := { name := "fnExactSuspensionOf", fn := fun _ => fun
  | [d] => { results := [.lit (.bool true)], args := [d] }
  | _ => none }
def fnExactSuspensionOfRow : OpenClaim := { program := "ythobncbggaggjaa", sum := "7b7e54e1a61a76cf8e9ceb785ec6ff80c8c1cdff857c4315ed8957d7e3806b41", func := "loop.example/g03100/laws.FnExactSuspensionOf", spec := "fnExactSuspensionOf", unfollowed := true, recurses := true, apart := false }
def FnExactSuspensionOfSaid : Prop := fnExactSuspensionOfRow.holds Try.pinned (OpenSpec.ofChange fnExactSuspensionOfSpec)

/-- ITS FALSE NEIGHBOUR: 'it returns false'. Refute it at one input. -/
def fnExactSuspensionOfWrong : ChangeSpec := { name := "fnExactSuspensionOf", fn := fun _ => fun
  | [d] => { results := [.lit (.bool false)], args := [d] }
  | _ => none }
def FnExactSuspensionOfWrongFalsely : Prop := fnExactSuspensionOfRow.holds Try.pinned (OpenSpec.ofChange fnExactSuspensionOfWrong)

/-- 'laws.FnExactConePoints': WHATEVER THE INPUT: true; the input reads as it did. -/
def fnExactConePointsSpec : ChangeSpec := { name := "fnExactConePoints", fn := fun _ => fun
  | [d] => { results := [.lit (.bool true)], args := [d] }
  | _ => none }
def fnExactConePointsRow : OpenClaim := { program := "ythobncbggaggjaa", sum := "7b7e54e1a61a76cf8e9ceb785ec6ff80c8c1cdff857c4315ed8957d7e3806b41", func := "loop.example/g03100/laws.FnExactConePoints", spec := "fnExactConePoints", apart := false }
def FnExactConePointsSaid : Prop := fnExactConePointsRow.holds Try.pinned (OpenSpec.ofChange fnExactConePointsSpec)

/-- ITS FALSE NEIGHBOUR: 'it returns false'. Refute it at one input. -/
def fnExactConePointsWrong : ChangeSpec := { name := "fnExactConePoints", fn := fun _ => fun
  | [d] => { results := [.lit (.bool false)], args := [d] }
  | _ => none }
def FnExactConePointsWrongFalsely : Prop := fnExactConePointsRow.holds Try.pinned (OpenSpec.ofChange fnExactConePointsWrong)

/-- 'laws.FnExactCrossComplex': WHATEVER THE INPUT: true; the input reads as it did. -/
def fnExactCrossComplexSpec : ChangeSpec := { name := "fnExactCrossComplex", fn := fun _ => fun
  | [d] => { results := [.lit (.bool true)], args := [d] }
  | _ => none }
def fnExactCrossComplexRow : OpenClaim := { program := "ythobncbggaggjaa", sum := "7b7e54e1a61a76cf8e9ceb785ec6ff80c8c1cdff857c4315ed8957d7e3806b41", func := "loop.example/g03100/laws.FnExactCrossComplex", spec := "fnExactCrossComplex", unfollowed := true, recurses := true, apart := false }
def FnExactCrossComplexSaid : Prop := fnExactCrossComplexRow.holds Try.pinned (OpenSpec.ofChange fnExactCrossComplexSpec)

/-- ITS FALSE NEIGHBOUR: 'it returns false'. Refute it at one input. -/
def fnExactCrossComplexWrong : ChangeSpec := { name := "fnExactCrossComplex", fn := fun _ => fun
  | [d] => { results := [.lit (.bool false)], args := [d] }
  | _ => none }
def FnExactCrossComplexWrongFalsely : Prop := fnExactCrossComplexRow.holds Try.pinned (OpenSpec.ofChange fnExactCrossComplexWrong)

/- THE SECOND FORM. 'bulk': how many values and letters a reading holds, each counted each time it is reached (what is shared counts as often as it is met; a slice's spare places count too). A statement '..UptoSaid' is the law's where the arguments, and the package variables that the reading takes, are together of bulk at most 1048576: NARROWER than '..Said'. Prove '..Said' where nothing that the law and all that it calls make is longer than what came in: it says more and counts as full. Else prove '..UptoSaid'. A law counts once. -/
mutual
def uptoBulk {H : Type} : DataW H → Nat
  | .lit (.string bytes) => bytes.length + 1
  | .lit _ => 1
  | .nil => 1
  | .ptr d => uptoBulk d + 1
  | .slice elems spare => uptoBulkAll elems + uptoBulkAll spare + 1
  | .agg parts => uptoBulkAll parts + 1
  | .iface _ d => uptoBulk d + 1
  | .map entries => uptoBulkEntries entries + 1
  | .held _ => 1
def uptoBulkAll {H : Type} : List (DataW H) → Nat
  | [] => 0
  | d :: r => uptoBulk d + uptoBulkAll r
def uptoBulkEntries {H : Type} : List (Lit × DataW H) → Nat
  | [] => 0
  | x :: r => uptoBulkEntry x + uptoBulkEntries r
def uptoBulkEntry {H : Type} : Lit × DataW H → Nat
  | (.string bytes, d) => bytes.length + uptoBulk d + 1
  | (_, d) => uptoBulk d + 1
 end
def uptoSmall : (H : Type) → List (DataW H) → Bool := fun _ ds => decide (uptoBulkAll ds ≤ 1048576)
def OpenSpec.upto (s : _root_.Go.ChangeSpec) : _root_.Go.OpenSpec := { _root_.Go.OpenSpec.ofChange s with cond := some uptoSmall }

/-- 'laws.FnJoins', WHERE WHAT IT READS IS OF BULK AT MOST 1048576: true; the input reads as it did. -/
def fnJoinsUptoRow : OpenClaim := { program := "ythobncbggaggjaa", sum := "7b7e54e1a61a76cf8e9ceb785ec6ff80c8c1cdff857c4315ed8957d7e3806b41", func := "loop.example/g03100/laws.FnJoins", spec := "fnJoins", unfollowed := true, recurses := true, apart := false, narrowed := true }
def FnJoinsUptoSaid : Prop := fnJoinsUptoRow.holds Try.pinned (OpenSpec.upto fnJoinsSpec)

/-- 'laws.FnExactJoinOf', WHERE WHAT IT READS IS OF BULK AT MOST 1048576: true; the input reads as it did. -/
def fnExactJoinOfUptoRow : OpenClaim := { program := "ythobncbggaggjaa", sum := "7b7e54e1a61a76cf8e9ceb785ec6ff80c8c1cdff857c4315ed8957d7e3806b41", func := "loop.example/g03100/laws.FnExactJoinOf", spec := "fnExactJoinOf", unfollowed := true, recurses := true, apart := false, narrowed := true }
def FnExactJoinOfUptoSaid : Prop := fnExactJoinOfUptoRow.holds Try.pinned (OpenSpec.upto fnExactJoinOfSpec)

/-- 'laws.FnExactDisjointOf', WHERE WHAT IT READS IS OF BULK AT MOST 1048576: true; the input reads as it did. -/
def fnExactDisjointOfUptoRow : OpenClaim := { program := "ythobncbggaggjaa", sum := "7b7e54e1a61a76cf8e9ceb785ec6ff80c8c1cdff857c4315ed8957d7e3806b41", func := "loop.example/g03100/laws.FnExactDisjointOf", spec := "fnExactDisjointOf", unfollowed := true, recurses := true, apart := false, narrowed := true }
def FnExactDisjointOfUptoSaid : Prop := fnExactDisjointOfUptoRow.holds Try.pinned (OpenSpec.upto fnExactDisjointOfSpec)

/-- 'laws.FnExactConeOf', WHERE WHAT IT READS IS OF BULK AT MOST 1048576: true; the input reads as it did. -/
def fnExactConeOfUptoRow : OpenClaim := { program := "ythobncbggaggjaa", sum := "7b7e54e1a61a76cf8e9ceb785ec6ff80c8c1cdff857c4315ed8957d7e3806b41", func := "loop.example/g03100/laws.FnExactConeOf", spec := "fnExactConeOf", unfollowed := true, recurses := true, apart := false, narrowed := true }
def FnExactConeOfUptoSaid : Prop := fnExactConeOfUptoRow.holds Try.pinned (OpenSpec.upto fnExactConeOfSpec)

/-- 'laws.FnExactSuspensionOf', WHERE WHAT IT READS IS OF BULK AT MOST 1048576: true; the input reads as it did. -/
def fnExactSuspensionOfUptoRow : OpenClaim := { program := "ythobncbggaggjaa", sum := "7b7e54e1a61a76cf8e9ceb785ec6ff80c8c1cdff857c4315ed8957d7e3806b41", func := "loop.example/g03100/laws.FnExactSuspensionOf", spec := "fnExactSuspensionOf", unfollowed := true, recurses := true, apart := false, narrowed := true }
def FnExactSuspensionOfUptoSaid : Prop := fnExactSuspensionOfUptoRow.holds Try.pinned (OpenSpec.upto fnExactSuspensionOfSpec)

/-- 'laws.FnExactConePoints', WHERE WHAT IT READS IS OF BULK AT MOST 1048576: true; the input reads as it did. -/
def fnExactConePointsUptoRow : OpenClaim := { program := "ythobncbggaggjaa", sum := "7b7e54e1a61a76cf8e9ceb785ec6ff80c8c1cdff857c4315ed8957d7e3806b41", func := "loop.example/g03100/laws.FnExactConePoints", spec := "fnExactConePoints", apart := false, narrowed := true }
def FnExactConePointsUptoSaid : Prop := fnExactConePointsUptoRow.holds Try.pinned (OpenSpec.upto fnExactConePointsSpec)

/-- 'laws.FnExactCrossComplex', WHERE WHAT IT READS IS OF BULK AT MOST 1048576: true; the input reads as it did. -/
def fnExactCrossComplexUptoRow : OpenClaim := { program := "ythobncbggaggjaa", sum := "7b7e54e1a61a76cf8e9ceb785ec6ff80c8c1cdff857c4315ed8957d7e3806b41", func := "loop.example/g03100/laws.FnExactCrossComplex", spec := "fnExactCrossComplex", unfollowed := true, recurses := true, apart := false, narrowed := true }
def FnExactCrossComplexUptoSaid : Prop := fnExactCrossComplexUptoRow.holds Try.pinned (OpenSpec.upto fnExactCrossComplexSpec)

end Rows
end Go.Proofs.Ythobncbggaggjaa
