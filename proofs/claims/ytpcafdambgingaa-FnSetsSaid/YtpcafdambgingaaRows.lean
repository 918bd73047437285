/-
  No cell of these rows narrows 'for every input' (looked for: loops, veiled, ifaces, maps, wideKeys, modest, calm, conditions, laid).
  DERIVED. THE GIVEN ROWS OF THIS SEAT. 12 by the template 'for every input the law returns true; each argument reads behind the call as it read before'; 0 by the template 'total and deterministic' (their statements: YtpcafdambgingaaTotals.lean).
  GIVEN WITH THE SEED: the statements are not yours to turn. If you find one false, say at which input.
  Laid BY PROGRAM, IN A SANDBOX (cutbox-rows.mjs): the forced cells as the released guide's own fill.sh prints them over the translation 03d8816041839c85… (all of the seat's roots in one cut). By AI agents, Wed Nov 11 2026. No macro, syntax, notation, axiom, sorry.
-/
import Derived.Test.YtpcafdambgingaaChecked
import GoSem.Claim
import GoSem.ClaimJoined
import GoSem.ClaimMapViews
import Derived.JoinedTies
import Derived.KernelRfl
namespace Go.Proofs.Ytpcafdambgingaa
/- THE CELL 'sum', in the pinned program and in every row, IS THE sha256 OF THE DUMP (.gsa) THAT YtpcafdambgingaaProg.lean LOADS. Nothing in Lean hashes anything: it is a label: what it is worth is what the hold of that sum in a sandbox is worth. -/
noncomputable def Try.pinned : Pinned := { name := "ytpcafdambgingaa", sum := "03d8816041839c856885d99e065dbd5780841d975eea34741eaa60dfd2532298", checked := Try.checked }
namespace Rows
def none {H : Type} : Left H := { results := [], args := [] }

/-- 'laws.FnSets': WHATEVER THE INPUT: true; the input reads as it did. -/
def fnSetsSpec : ChangeSpec := { name := "fnSets", fn := fun _ => fun
  | [d] => { results := [.lit (.bool true)], args := [d] }
  | _ => none }
def fnSetsRow : OpenClaim := { program := "ytpcafdambgingaa", sum := "03d8816041839c856885d99e065dbd5780841d975eea34741eaa60dfd2532298", func := "loop.example/g03100/laws.FnSets", spec := "fnSets", inPlace := ["internal/abi.NoEscape", "internal/bytealg.MakeNoZero"], unfollowed := true, recurses := true, apart := false }
def FnSetsSaid : Prop := fnSetsRow.holds Try.pinned (OpenSpec.ofChange fnSetsSpec)

/-- ITS FALSE NEIGHBOUR: 'it returns false'. Refute it at one input. -/
def fnSetsWrong : ChangeSpec := { name := "fnSets", fn := fun _ => fun
  | [d] => { results := [.lit (.bool false)], args := [d] }
  | _ => none }
def FnSetsWrongFalsely : Prop := fnSetsRow.holds Try.pinned (OpenSpec.ofChange fnSetsWrong)

/-- 'laws.FnExactIsSet': WHATEVER THE INPUT: true; the input reads as it did. -/
def fnExactIsSetSpec : ChangeSpec := { name := "fnExactIsSet", fn := fun _ => fun
  | [d1, d2] => { results := [.lit (.bool true)], args := [d1, d2] }
  | _ => none }
def fnExactIsSetRow : OpenClaim := { program := "ytpcafdambgingaa", sum := "03d8816041839c856885d99e065dbd5780841d975eea34741eaa60dfd2532298", func := "loop.example/g03100/laws.FnExactIsSet", spec := "fnExactIsSet", apart := false }
def FnExactIsSetSaid : Prop := fnExactIsSetRow.holds Try.pinned (OpenSpec.ofChange fnExactIsSetSpec)

/-- ITS FALSE NEIGHBOUR: 'it returns false'. Refute it at one input. -/
def fnExactIsSetWrong : ChangeSpec := { name := "fnExactIsSet", fn := fun _ => fun
  | [d1, d2] => { results := [.lit (.bool false)], args := [d1, d2] }
  | _ => none }
def FnExactIsSetWrongFalsely : Prop := fnExactIsSetRow.holds Try.pinned (OpenSpec.ofChange fnExactIsSetWrong)

/-- 'laws.FnExactSizeOf': WHATEVER THE INPUT: true; the input reads as it did. -/
def fnExactSizeOfSpec : ChangeSpec := { name := "fnExactSizeOf", fn := fun _ => fun
  | [d] => { results := [.lit (.bool true)], args := [d] }
  | _ => none }
def fnExactSizeOfRow : OpenClaim := { program := "ytpcafdambgingaa", sum := "03d8816041839c856885d99e065dbd5780841d975eea34741eaa60dfd2532298", func := "loop.example/g03100/laws.FnExactSizeOf", spec := "fnExactSizeOf", apart := false }
def FnExactSizeOfSaid : Prop := fnExactSizeOfRow.holds Try.pinned (OpenSpec.ofChange fnExactSizeOfSpec)

/-- ITS FALSE NEIGHBOUR: 'it returns false'. Refute it at one input. -/
def fnExactSizeOfWrong : ChangeSpec := { name := "fnExactSizeOf", fn := fun _ => fun
  | [d] => { results := [.lit (.bool false)], args := [d] }
  | _ => none }
def FnExactSizeOfWrongFalsely : Prop := fnExactSizeOfRow.holds Try.pinned (OpenSpec.ofChange fnExactSizeOfWrong)

/-- 'laws.FnExactPointsOf': WHATEVER THE INPUT: true; the input reads as it did. -/
def fnExactPointsOfSpec : ChangeSpec := { name := "fnExactPointsOf", fn := fun _ => fun
  | [d] => { results := [.lit (.bool true)], args := [d] }
  | _ => none }
def fnExactPointsOfRow : OpenClaim := { program := "ytpcafdambgingaa", sum := "03d8816041839c856885d99e065dbd5780841d975eea34741eaa60dfd2532298", func := "loop.example/g03100/laws.FnExactPointsOf", spec := "fnExactPointsOf", apart := false }
def FnExactPointsOfSaid : Prop := fnExactPointsOfRow.holds Try.pinned (OpenSpec.ofChange fnExactPointsOfSpec)

/-- ITS FALSE NEIGHBOUR: 'it returns false'. Refute it at one input. -/
def fnExactPointsOfWrong : ChangeSpec := { name := "fnExactPointsOf", fn := fun _ => fun
  | [d] => { results := [.lit (.bool false)], args := [d] }
  | _ => none }
def FnExactPointsOfWrongFalsely : Prop := fnExactPointsOfRow.holds Try.pinned (OpenSpec.ofChange fnExactPointsOfWrong)

/-- 'laws.FnExactBeforeSet': WHATEVER THE INPUT: true; the input reads as it did. -/
def fnExactBeforeSetSpec : ChangeSpec := { name := "fnExactBeforeSet", fn := fun _ => fun
  | [d1, d2] => { results := [.lit (.bool true)], args := [d1, d2] }
  | _ => none }
def fnExactBeforeSetRow : OpenClaim := { program := "ytpcafdambgingaa", sum := "03d8816041839c856885d99e065dbd5780841d975eea34741eaa60dfd2532298", func := "loop.example/g03100/laws.FnExactBeforeSet", spec := "fnExactBeforeSet", apart := false }
def FnExactBeforeSetSaid : Prop := fnExactBeforeSetRow.holds Try.pinned (OpenSpec.ofChange fnExactBeforeSetSpec)

/-- ITS FALSE NEIGHBOUR: 'it returns false'. Refute it at one input. -/
def fnExactBeforeSetWrong : ChangeSpec := { name := "fnExactBeforeSet", fn := fun _ => fun
  | [d1, d2] => { results := [.lit (.bool false)], args := [d1, d2] }
  | _ => none }
def FnExactBeforeSetWrongFalsely : Prop := fnExactBeforeSetRow.holds Try.pinned (OpenSpec.ofChange fnExactBeforeSetWrong)

/-- 'laws.FnExactOrderSets': WHATEVER THE INPUT: true; the input reads as it did. -/
def fnExactOrderSetsSpec : ChangeSpec := { name := "fnExactOrderSets", fn := fun _ => fun
  | [d] => { results := [.lit (.bool true)], args := [d] }
  | _ => none }
def fnExactOrderSetsRow : OpenClaim := { program := "ytpcafdambgingaa", sum := "03d8816041839c856885d99e065dbd5780841d975eea34741eaa60dfd2532298", func := "loop.example/g03100/laws.FnExactOrderSets", spec := "fnExactOrderSets", unfollowed := true, recurses := true, apart := false }
def FnExactOrderSetsSaid : Prop := fnExactOrderSetsRow.holds Try.pinned (OpenSpec.ofChange fnExactOrderSetsSpec)

/-- ITS FALSE NEIGHBOUR: 'it returns false'. Refute it at one input. -/
def fnExactOrderSetsWrong : ChangeSpec := { name := "fnExactOrderSets", fn := fun _ => fun
  | [d] => { results := [.lit (.bool false)], args := [d] }
  | _ => none }
def FnExactOrderSetsWrongFalsely : Prop := fnExactOrderSetsRow.holds Try.pinned (OpenSpec.ofChange fnExactOrderSetsWrong)

/-- 'laws.FnExactSubsetsOf': WHATEVER THE INPUT: true; the input reads as it did. -/
def fnExactSubsetsOfSpec : ChangeSpec := { name := "fnExactSubsetsOf", fn := fun _ => fun
  | [d] => { results := [.lit (.bool true)], args := [d] }
  | _ => none }
def fnExactSubsetsOfRow : OpenClaim := { program := "ytpcafdambgingaa", sum := "03d8816041839c856885d99e065dbd5780841d975eea34741eaa60dfd2532298", func := "loop.example/g03100/laws.FnExactSubsetsOf", spec := "fnExactSubsetsOf", unfollowed := true, recurses := true, apart := false }
def FnExactSubsetsOfSaid : Prop := fnExactSubsetsOfRow.holds Try.pinned (OpenSpec.ofChange fnExactSubsetsOfSpec)

/-- ITS FALSE NEIGHBOUR: 'it returns false'. Refute it at one input. -/
def fnExactSubsetsOfWrong : ChangeSpec := { name := "fnExactSubsetsOf", fn := fun _ => fun
  | [d] => { results := [.lit (.bool false)], args := [d] }
  | _ => none }
def FnExactSubsetsOfWrongFalsely : Prop := fnExactSubsetsOfRow.holds Try.pinned (OpenSpec.ofChange fnExactSubsetsOfWrong)

/-- 'laws.FnExactMaximalSets': WHATEVER THE INPUT: true; the input reads as it did. -/
def fnExactMaximalSetsSpec : ChangeSpec := { name := "fnExactMaximalSets", fn := fun _ => fun
  | [d] => { results := [.lit (.bool true)], args := [d] }
  | _ => none }
def fnExactMaximalSetsRow : OpenClaim := { program := "ytpcafdambgingaa", sum := "03d8816041839c856885d99e065dbd5780841d975eea34741eaa60dfd2532298", func := "loop.example/g03100/laws.FnExactMaximalSets", spec := "fnExactMaximalSets", unfollowed := true, recurses := true, apart := false }
def FnExactMaximalSetsSaid : Prop := fnExactMaximalSetsRow.holds Try.pinned (OpenSpec.ofChange fnExactMaximalSetsSpec)

/-- ITS FALSE NEIGHBOUR: 'it returns false'. Refute it at one input. -/
def fnExactMaximalSetsWrong : ChangeSpec := { name := "fnExactMaximalSets", fn := fun _ => fun
  | [d] => { results := [.lit (.bool false)], args := [d] }
  | _ => none }
def FnExactMaximalSetsWrongFalsely : Prop := fnExactMaximalSetsRow.holds Try.pinned (OpenSpec.ofChange fnExactMaximalSetsWrong)

/-- 'laws.FnExactMinimalSets': WHATEVER THE INPUT: true; the input reads as it did. -/
def fnExactMinimalSetsSpec : ChangeSpec := { name := "fnExactMinimalSets", fn := fun _ => fun
  | [d] => { results := [.lit (.bool true)], args := [d] }
  | _ => none }
def fnExactMinimalSetsRow : OpenClaim := { program := "ytpcafdambgingaa", sum := "03d8816041839c856885d99e065dbd5780841d975eea34741eaa60dfd2532298", func := "loop.example/g03100/laws.FnExactMinimalSets", spec := "fnExactMinimalSets", unfollowed := true, recurses := true, apart := false }
def FnExactMinimalSetsSaid : Prop := fnExactMinimalSetsRow.holds Try.pinned (OpenSpec.ofChange fnExactMinimalSetsSpec)

/-- ITS FALSE NEIGHBOUR: 'it returns false'. Refute it at one input. -/
def fnExactMinimalSetsWrong : ChangeSpec := { name := "fnExactMinimalSets", fn := fun _ => fun
  | [d] => { results := [.lit (.bool false)], args := [d] }
  | _ => none }
def FnExactMinimalSetsWrongFalsely : Prop := fnExactMinimalSetsRow.holds Try.pinned (OpenSpec.ofChange fnExactMinimalSetsWrong)

/-- 'laws.FnExactSetText': WHATEVER THE INPUT: true; the input reads as it did. -/
def fnExactSetTextSpec : ChangeSpec := { name := "fnExactSetText", fn := fun _ => fun
  | [d] => { results := [.lit (.bool true)], args := [d] }
  | _ => none }
def fnExactSetTextRow : OpenClaim := { program := "ytpcafdambgingaa", sum := "03d8816041839c856885d99e065dbd5780841d975eea34741eaa60dfd2532298", func := "loop.example/g03100/laws.FnExactSetText", spec := "fnExactSetText", apart := false }
def FnExactSetTextSaid : Prop := fnExactSetTextRow.holds Try.pinned (OpenSpec.ofChange fnExactSetTextSpec)

/-- ITS FALSE NEIGHBOUR: 'it returns false'. Refute it at one input. -/
def fnExactSetTextWrong : ChangeSpec := { name := "fnExactSetText", fn := fun _ => fun
  | [d] => { results := [.lit (.bool false)], args := [d] }
  | _ => none }
def FnExactSetTextWrongFalsely : Prop := fnExactSetTextRow.holds Try.pinned (OpenSpec.ofChange fnExactSetTextWrong)

/-- 'laws.FnExactParseSet': WHATEVER THE INPUT: true; the input reads as it did. -/
def fnExactParseSetSpec : ChangeSpec := { name := "fnExactParseSet", fn := fun _ => fun
  | [d] => { results := [.lit (.bool true)], args := [d] }
  | _ => none }
def fnExactParseSetRow : OpenClaim := { program := "ytpcafdambgingaa", sum := "03d8816041839c856885d99e065dbd5780841d975eea34741eaa60dfd2532298", func := "loop.example/g03100/laws.FnExactParseSet", spec := "fnExactParseSet", apart := false }
def FnExactParseSetSaid : Prop := fnExactParseSetRow.holds Try.pinned (OpenSpec.ofChange fnExactParseSetSpec)

/-- ITS FALSE NEIGHBOUR: 'it returns false'. Refute it at one input. -/
def fnExactParseSetWrong : ChangeSpec := { name := "fnExactParseSet", fn := fun _ => fun
  | [d] => { results := [.lit (.bool false)], args := [d] }
  | _ => none }
def FnExactParseSetWrongFalsely : Prop := fnExactParseSetRow.holds Try.pinned (OpenSpec.ofChange fnExactParseSetWrong)

/-- 'laws.FnExactSetsText': WHATEVER THE INPUT: true; the input reads as it did. -/
def fnExactSetsTextSpec : ChangeSpec := { name := "fnExactSetsText", fn := fun _ => fun
  | [d] => { results := [.lit (.bool true)], args := [d] }
  | _ => none }
def fnExactSetsTextRow : OpenClaim := { program := "ytpcafdambgingaa", sum := "03d8816041839c856885d99e065dbd5780841d975eea34741eaa60dfd2532298", func := "loop.example/g03100/laws.FnExactSetsText", spec := "fnExactSetsText", inPlace := ["internal/abi.NoEscape", "internal/bytealg.MakeNoZero"], apart := false }
def FnExactSetsTextSaid : Prop := fnExactSetsTextRow.holds Try.pinned (OpenSpec.ofChange fnExactSetsTextSpec)

/-- ITS FALSE NEIGHBOUR: 'it returns false'. Refute it at one input. -/
def fnExactSetsTextWrong : ChangeSpec := { name := "fnExactSetsText", fn := fun _ => fun
  | [d] => { results := [.lit (.bool false)], args := [d] }
  | _ => none }
def FnExactSetsTextWrongFalsely : Prop := fnExactSetsTextRow.holds Try.pinned (OpenSpec.ofChange fnExactSetsTextWrong)

/- THE SECOND FORM. 'bulk': how many values and letters a reading holds, each counted each time it is reached (what is shared counts as often as it is met; a slice's spare places count too). A statement '..UptoSaid' is the law's where the arguments, and the package variables that the reading takes, are together of bulk at most 1048576: NARROWER than '..Said'. Prove '..Said' where nothing that the law and all that it calls make is longer than what came in: it says more and counts as full. Else prove '..UptoSaid'. A law counts once. -/
mutual
def uptoBulk {H : Type} : DataW H → Nat
  | .lit (.string bytes) => bytes.length + 1
  | .lit _ => 1
  | .nil => 1
  | .ptr d => uptoBulk d + 1
  | .slice elems spare => uptoBulkAll elems + uptoBulkAll spare + 1
  | .agg parts => uptoBulkAll parts + 1
  | .iface _ d => uptoBulk d + 1
  | .map entries => uptoBulkEntries entries + 1
  | .held _ => 1
def uptoBulkAll {H : Type} : List (DataW H) → Nat
  | [] => 0
  | d :: r => uptoBulk d + uptoBulkAll r
def uptoBulkEntries {H : Type} : List (Lit × DataW H) → Nat
  | [] => 0
  | x :: r => uptoBulkEntry x + uptoBulkEntries r
def uptoBulkEntry {H : Type} : Lit × DataW H → Nat
  | (.string bytes, d) => bytes.length + uptoBulk d + 1
  | (_, d) => uptoBulk d + 1
 end
def uptoSmall : (H : Type) → List (DataW H) → Bool := fun _ ds => decide (uptoBulkAll ds ≤ 1048576)
def OpenSpec.upto (s : _root_.Go.ChangeSpec) : _root_.Go.OpenSpec := { _root_.Go.OpenSpec.ofChange s with cond := some uptoSmall }

/-- 'laws.FnSets', WHERE WHAT IT READS IS OF BULK AT MOST 1048576: true; the input reads as it did. -/
def fnSetsUptoRow : OpenClaim := { program := "ytpcafdambgingaa", sum := "03d8816041839c856885d99e065dbd5780841d975eea34741eaa60dfd2532298", func := "loop.example/g03100/laws.FnSets", spec := "fnSets", inPlace := ["internal/abi.NoEscape", "internal/bytealg.MakeNoZero"], unfollowed := true, recurses := true, apart := false, narrowed := true }
def FnSetsUptoSaid : Prop := fnSetsUptoRow.holds Try.pinned (OpenSpec.upto fnSetsSpec)

/-- 'laws.FnExactIsSet', WHERE WHAT IT READS IS OF BULK AT MOST 1048576: true; the input reads as it did. -/
def fnExactIsSetUptoRow : OpenClaim := { program := "ytpcafdambgingaa", sum := "03d8816041839c856885d99e065dbd5780841d975eea34741eaa60dfd2532298", func := "loop.example/g03100/laws.FnExactIsSet", spec := "fnExactIsSet", apart := false, narrowed := true }
def FnExactIsSetUptoSaid : Prop := fnExactIsSetUptoRow.holds Try.pinned (OpenSpec.upto fnExactIsSetSpec)

/-- 'laws.FnExactSizeOf', WHERE WHAT IT READS IS OF BULK AT MOST 1048576: true; the input reads as it did. -/
def fnExactSizeOfUptoRow : OpenClaim := { program := "ytpcafdambgingaa", sum := "03d8816041839c856885d99e065dbd5780841d975eea34741eaa60dfd2532298", func := "loop.example/g03100/laws.FnExactSizeOf", spec := "fnExactSizeOf", apart := false, narrowed := true }
def FnExactSizeOfUptoSaid : Prop := fnExactSizeOfUptoRow.holds Try.pinned (OpenSpec.upto fnExactSizeOfSpec)

/-- 'laws.FnExactPointsOf', WHERE WHAT IT READS IS OF BULK AT MOST 1048576: true; the input reads as it did. -/
def fnExactPointsOfUptoRow : OpenClaim := { program := "ytpcafdambgingaa", sum := "03d8816041839c856885d99e065dbd5780841d975eea34741eaa60dfd2532298", func := "loop.example/g03100/laws.FnExactPointsOf", spec := "fnExactPointsOf", apart := false, narrowed := true }
def FnExactPointsOfUptoSaid : Prop := fnExactPointsOfUptoRow.holds Try.pinned (OpenSpec.upto fnExactPointsOfSpec)

/-- 'laws.FnExactBeforeSet', WHERE WHAT IT READS IS OF BULK AT MOST 1048576: true; the input reads as it did. -/
def fnExactBeforeSetUptoRow : OpenClaim := { program := "ytpcafdambgingaa", sum := "03d8816041839c856885d99e065dbd5780841d975eea34741eaa60dfd2532298", func := "loop.example/g03100/laws.FnExactBeforeSet", spec := "fnExactBeforeSet", apart := false, narrowed := true }
def FnExactBeforeSetUptoSaid : Prop := fnExactBeforeSetUptoRow.holds Try.pinned (OpenSpec.upto fnExactBeforeSetSpec)

/-- 'laws.FnExactOrderSets', WHERE WHAT IT READS IS OF BULK AT MOST 1048576: true; the input reads as it did. -/
def fnExactOrderSetsUptoRow : OpenClaim := { program := "ytpcafdambgingaa", sum := "03d8816041839c856885d99e065dbd5780841d975eea34741eaa60dfd2532298", func := "loop.example/g03100/laws.FnExactOrderSets", spec := "fnExactOrderSets", unfollowed := true, recurses := true, apart := false, narrowed := true }
def FnExactOrderSetsUptoSaid : Prop := fnExactOrderSetsUptoRow.holds Try.pinned (OpenSpec.upto fnExactOrderSetsSpec)

/-- 'laws.FnExactSubsetsOf', WHERE WHAT IT READS IS OF BULK AT MOST 1048576: true; the input reads as it did. -/
def fnExactSubsetsOfUptoRow : OpenClaim := { program := "ytpcafdambgingaa", sum := "03d8816041839c856885d99e065dbd5780841d975eea34741eaa60dfd2532298", func := "loop.example/g03100/laws.FnExactSubsetsOf", spec := "fnExactSubsetsOf", unfollowed := true, recurses := true, apart := false, narrowed := true }
def FnExactSubsetsOfUptoSaid : Prop := fnExactSubsetsOfUptoRow.holds Try.pinned (OpenSpec.upto fnExactSubsetsOfSpec)

/-- 'laws.FnExactMaximalSets', WHERE WHAT IT READS IS OF BULK AT MOST 1048576: true; the input reads as it did. -/
def fnExactMaximalSetsUptoRow : OpenClaim := { program := "ytpcafdambgingaa", sum := "03d8816041839c856885d99e065dbd5780841d975eea34741eaa60dfd2532298", func := "loop.example/g03100/laws.FnExactMaximalSets", spec := "fnExactMaximalSets", unfollowed := true, recurses := true, apart := false, narrowed := true }
def FnExactMaximalSetsUptoSaid : Prop := fnExactMaximalSetsUptoRow.holds Try.pinned (OpenSpec.upto fnExactMaximalSetsSpec)

/-- 'laws.FnExactMinimalSets', WHERE WHAT IT READS IS OF BULK AT MOST 1048576: true; the input reads as it did. -/
def fnExactMinimalSetsUptoRow : OpenClaim := { program := "ytpcafdambgingaa", sum := "03d8816041839c856885d99e065dbd5780841d975eea34741eaa60dfd2532298", func := "loop.example/g03100/laws.FnExactMinimalSets", spec := "fnExactMinimalSets", unfollowed := true, recurses := true, apart := false, narrowed := true }
def FnExactMinimalSetsUptoSaid : Prop := fnExactMinimalSetsUptoRow.holds Try.pinned (OpenSpec.upto fnExactMinimalSetsSpec)

/-- 'laws.FnExactSetText', WHERE WHAT IT READS IS OF BULK AT MOST 1048576: true; the input reads as it did. -/
def fnExactSetTextUptoRow : OpenClaim := { program := "ytpcafdambgingaa", sum := "03d8816041839c856885d99e065dbd5780841d975eea34741eaa60dfd2532298", func := "loop.example/g03100/laws.FnExactSetText", spec := "fnExactSetText", apart := false, narrowed := true }
def FnExactSetTextUptoSaid : Prop := fnExactSetTextUptoRow.holds Try.pinned (OpenSpec.upto fnExactSetTextSpec)

/-- 'laws.FnExactParseSet', WHERE WHAT IT READS IS OF BULK AT MOST 1048576: true; the input reads as it did. -/
def fnExactParseSetUptoRow : OpenClaim := { program := "ytpcafdambgingaa", sum := "03d8816041839c856885d99e065dbd5780841d975eea34741eaa60dfd2532298", func := "loop.example/g03100/laws.FnExactParseSet", spec := "fnExactParseSet", apart := false, narrowed := true }
def FnExactParseSetUptoSaid : Prop := fnExactParseSetUptoRow.holds Try.pinned (OpenSpec.upto fnExactParseSetSpec)

/-- 'laws.FnExactSetsText', WHERE WHAT IT READS IS OF BULK AT MOST 1048576: true; the input reads as it did. -/
def fnExactSetsTextUptoRow : OpenClaim := { program := "ytpcafdambgingaa", sum := "03d8816041839c856885d99e065dbd5780841d975eea34741eaa60dfd2532298", func := "loop.example/g03100/laws.FnExactSetsText", spec := "fnExactSetsText", inPlace := ["internal/abi.NoEscape", "internal/bytealg.MakeNoZero"], apart := false, narrowed := true }
def FnExactSetsTextUptoSaid : Prop := fnExactSetsTextUptoRow.holds Try.pinned (OpenSpec.upto fnExactSetsTextSpec)

end Rows
end Go.Proofs.Ytpcafdambgingaa
