/-
  No cell of these rows narrows 'for every input' (looked for: loops, veiled, ifaces, maps, wideKeys, modest, calm, conditions, laid).
  DERIVED. THE GIVEN ROWS OF THIS SEAT. 7 by the template 'for every input the law returns true; each argument reads behind the call as it read before'; 0 by the template 'total and deterministic' (their statements: YtfnpkglijknnoaaTotals.lean).
  GIVEN WITH THE SEED: the statements are not yours to turn. If you find one false, say at which input.
  Laid BY PROGRAM, IN A SANDBOX (cutbox-rows.mjs): the forced cells as the released guide's own fill.sh prints them over the translation a1c71284822bb1cc… (all of the seat's roots in one cut). By AI agents, Wed Nov 11 2026. No macro, syntax, notation, axiom, sorry.
-/
import Derived.Test.YtfnpkglijknnoaaChecked
import GoSem.Claim
import GoSem.ClaimJoined
import GoSem.ClaimMapViews
import Derived.JoinedTies
import Derived.KernelRfl
namespace Go.Proofs.Ytfnpkglijknnoaa
/- THE CELL 'sum', in the pinned program and in every row, IS THE sha256 OF THE DUMP (.gsa) THAT YtfnpkglijknnoaaProg.lean LOADS. Nothing in Lean hashes anything: it is a label: what it is worth is what the hold of that sum in a sandbox is worth. -/
noncomputable def Try.pinned : Pinned := { name := "ytfnpkglijknnoaa", sum := "a1c71284822bb1cc4c3a1eaa14a9e7569fd8f756c15a6986b8eb64f94eb6fc88", checked := Try.checked }
namespace Rows
def none {H : Type} : Left H := { results := [], args := [] }

/-- 'laws.FnMissing': WHATEVER THE INPUT: true; the input reads as it did. -/
def fnMissingSpec : ChangeSpec := { name := "fnMissing", fn := fun _ => fun
  | [d] => { results := [.lit (.bool true)], args := [d] }
  | _ => none }
def fnMissingRow : OpenClaim := { program := "ytfnpkglijknnoaa", sum := "a1c71284822bb1cc4c3a1eaa14a9e7569fd8f756c15a6986b8eb64f94eb6fc88", func := "loop.example/g03100/laws.FnMissing", spec := "fnMissing", unfollowed := true, recurses := true, apart := false }
def FnMissingSaid : Prop := fnMissingRow.holds Try.pinned (OpenSpec.ofChange fnMissingSpec)

/-- ITS FALSE NEIGHBOUR: 'it returns false'. Refute it at one input. -/
def fnMissingWrong : ChangeSpec := { name := "fnMissing", fn := fun _ => fun
  | [d] => { results := [.lit (.bool false)], args := [d] }
  | _ => none }
def FnMissingWrongFalsely : Prop := fnMissingRow.holds Try.pinned (OpenSpec.ofChange fnMissingWrong)

/-- 'laws.FnExactMissingSets': WHATEVER THE INPUT: true; the input reads as it did. -/
def fnExactMissingSetsSpec : ChangeSpec := { name := "fnExactMissingSets", fn := fun _ => fun
  | [d] => { results := [.lit (.bool true)], args := [d] }
  | _ => none }
def fnExactMissingSetsRow : OpenClaim := { program := "ytfnpkglijknnoaa", sum := "a1c71284822bb1cc4c3a1eaa14a9e7569fd8f756c15a6986b8eb64f94eb6fc88", func := "loop.example/g03100/laws.FnExactMissingSets", spec := "fnExactMissingSets", unfollowed := true, recurses := true, apart := false }
def FnExactMissingSetsSaid : Prop := fnExactMissingSetsRow.holds Try.pinned (OpenSpec.ofChange fnExactMissingSetsSpec)

/-- ITS FALSE NEIGHBOUR: 'it returns false'. Refute it at one input. -/
def fnExactMissingSetsWrong : ChangeSpec := { name := "fnExactMissingSets", fn := fun _ => fun
  | [d] => { results := [.lit (.bool false)], args := [d] }
  | _ => none }
def FnExactMissingSetsWrongFalsely : Prop := fnExactMissingSetsRow.holds Try.pinned (OpenSpec.ofChange fnExactMissingSetsWrong)

/-- 'laws.FnExactFromMissing': WHATEVER THE INPUT: true; the input reads as it did. -/
def fnExactFromMissingSpec : ChangeSpec := { name := "fnExactFromMissing", fn := fun _ => fun
  | [d1, d2] => { results := [.lit (.bool true)], args := [d1, d2] }
  | _ => none }
def fnExactFromMissingRow : OpenClaim := { program := "ytfnpkglijknnoaa", sum := "a1c71284822bb1cc4c3a1eaa14a9e7569fd8f756c15a6986b8eb64f94eb6fc88", func := "loop.example/g03100/laws.FnExactFromMissing", spec := "fnExactFromMissing", unfollowed := true, recurses := true, apart := false }
def FnExactFromMissingSaid : Prop := fnExactFromMissingRow.holds Try.pinned (OpenSpec.ofChange fnExactFromMissingSpec)

/-- ITS FALSE NEIGHBOUR: 'it returns false'. Refute it at one input. -/
def fnExactFromMissingWrong : ChangeSpec := { name := "fnExactFromMissing", fn := fun _ => fun
  | [d1, d2] => { results := [.lit (.bool false)], args := [d1, d2] }
  | _ => none }
def FnExactFromMissingWrongFalsely : Prop := fnExactFromMissingRow.holds Try.pinned (OpenSpec.ofChange fnExactFromMissingWrong)

/-- 'laws.FnExactGreatestMissing': WHATEVER THE INPUT: true; the input reads as it did. -/
def fnExactGreatestMissingSpec : ChangeSpec := { name := "fnExactGreatestMissing", fn := fun _ => fun
  | [d] => { results := [.lit (.bool true)], args := [d] }
  | _ => none }
def fnExactGreatestMissingRow : OpenClaim := { program := "ytfnpkglijknnoaa", sum := "a1c71284822bb1cc4c3a1eaa14a9e7569fd8f756c15a6986b8eb64f94eb6fc88", func := "loop.example/g03100/laws.FnExactGreatestMissing", spec := "fnExactGreatestMissing", unfollowed := true, recurses := true, apart := false }
def FnExactGreatestMissingSaid : Prop := fnExactGreatestMissingRow.holds Try.pinned (OpenSpec.ofChange fnExactGreatestMissingSpec)

/-- ITS FALSE NEIGHBOUR: 'it returns false'. Refute it at one input. -/
def fnExactGreatestMissingWrong : ChangeSpec := { name := "fnExactGreatestMissing", fn := fun _ => fun
  | [d] => { results := [.lit (.bool false)], args := [d] }
  | _ => none }
def FnExactGreatestMissingWrongFalsely : Prop := fnExactGreatestMissingRow.holds Try.pinned (OpenSpec.ofChange fnExactGreatestMissingWrong)

/-- 'laws.FnExactIsFlag': WHATEVER THE INPUT: true; the input reads as it did. -/
def fnExactIsFlagSpec : ChangeSpec := { name := "fnExactIsFlag", fn := fun _ => fun
  | [d] => { results := [.lit (.bool true)], args := [d] }
  | _ => none }
def fnExactIsFlagRow : OpenClaim := { program := "ytfnpkglijknnoaa", sum := "a1c71284822bb1cc4c3a1eaa14a9e7569fd8f756c15a6986b8eb64f94eb6fc88", func := "loop.example/g03100/laws.FnExactIsFlag", spec := "fnExactIsFlag", unfollowed := true, recurses := true, apart := false }
def FnExactIsFlagSaid : Prop := fnExactIsFlagRow.holds Try.pinned (OpenSpec.ofChange fnExactIsFlagSpec)

/-- ITS FALSE NEIGHBOUR: 'it returns false'. Refute it at one input. -/
def fnExactIsFlagWrong : ChangeSpec := { name := "fnExactIsFlag", fn := fun _ => fun
  | [d] => { results := [.lit (.bool false)], args := [d] }
  | _ => none }
def FnExactIsFlagWrongFalsely : Prop := fnExactIsFlagRow.holds Try.pinned (OpenSpec.ofChange fnExactIsFlagWrong)

/-- 'laws.FnExactCompleteUpTo': WHATEVER THE INPUT: true; the input reads as it did. -/
def fnExactCompleteUpToSpec : ChangeSpec := { name := "fnExactCompleteUpTo", fn := fun _ => fun
  | [d] => { results := [.lit (.bool true)], args := [d] }
  | _ => none }
def fnExactCompleteUpToRow : OpenClaim := { program := "ytfnpkglijknnoaa", sum := "a1c71284822bb1cc4c3a1eaa14a9e7569fd8f756c15a6986b8eb64f94eb6fc88", func := "loop.example/g03100/laws.FnExactCompleteUpTo", spec := "fnExactCompleteUpTo", unfollowed := true, recurses := true, apart := false }
def FnExactCompleteUpToSaid : Prop := fnExactCompleteUpToRow.holds Try.pinned (OpenSpec.ofChange fnExactCompleteUpToSpec)

/-- ITS FALSE NEIGHBOUR: 'it returns false'. Refute it at one input. -/
def fnExactCompleteUpToWrong : ChangeSpec := { name := "fnExactCompleteUpTo", fn := fun _ => fun
  | [d] => { results := [.lit (.bool false)], args := [d] }
  | _ => none }
def FnExactCompleteUpToWrongFalsely : Prop := fnExactCompleteUpToRow.holds Try.pinned (OpenSpec.ofChange fnExactCompleteUpToWrong)

/-- 'laws.FnExactFlagOf': WHATEVER THE INPUT: true; the input reads as it did. -/
def fnExactFlagOfSpec : ChangeSpec := { name := "fnExactFlagOf", fn := fun _ => fun
  | [d] => { results := [.lit (.bool true)], args := [d] }
  | _ => none }
def fnExactFlagOfRow : OpenClaim := { program := "ytfnpkglijknnoaa", sum := "a1c71284822bb1cc4c3a1eaa14a9e7569fd8f756c15a6986b8eb64f94eb6fc88", func := "loop.example/g03100/laws.FnExactFlagOf", spec := "fnExactFlagOf", unfollowed := true, recurses := true, apart := false }
def FnExactFlagOfSaid : Prop := fnExactFlagOfRow.holds Try.pinned (OpenSpec.ofChange fnExactFlagOfSpec)

/-- ITS FALSE NEIGHBOUR: 'it returns false'. Refute it at one input. -/
def fnExactFlagOfWrong : ChangeSpec := { name := "fnExactFlagOf", fn := fun _ => fun
  | [d] => { results := [.lit (.bool false)], args := [d] }
  | _ => none }
def FnExactFlagOfWrongFalsely : Prop := fnExactFlagOfRow.holds Try.pinned (OpenSpec.ofChange fnExactFlagOfWrong)

/- THE SECOND FORM. 'bulk': how many values and letters a reading holds, each counted each time it is reached (what is shared counts as often as it is met; a slice's spare places count too). A statement '..UptoSaid' is the law's where the arguments, and the package variables that the reading takes, are together of bulk at most 1048576: NARROWER than '..Said'. Prove '..Said' where nothing that the law and all that it calls make is longer than what came in: it says more and counts as full. Else prove '..UptoSaid'. A law counts once. -/
mutual
def uptoBulk {H : Type} : DataW H → Nat
  | .lit (.string bytes) => bytes.length + 1
  | .lit _ => 1
  | .nil => 1
  | .ptr d => uptoBulk d + 1
  | .slice elems spare => uptoBulkAll elems + uptoBulkAll spare + 1
  | .agg parts => uptoBulkAll parts + 1
  | .iface _ d => uptoBulk d + 1
  | .map entries => uptoBulkEntries entries + 1
  | .held _ => 1
def uptoBulkAll {H : Type} : List (DataW H) → Nat
  | [] => 0
  | d :: r => uptoBulk d + uptoBulkAll r
def uptoBulkEntries {H : Type} : List (Lit × DataW H) → Nat
  | [] => 0
  | x :: r => uptoBulkEntry x + uptoBulkEntries r
def uptoBulkEntry {H : Type} : Lit × DataW H → Nat
  | (.string bytes, d) => bytes.length + uptoBulk d + 1
  | (_, d) => uptoBulk d + 1
 end
def uptoSmall : (H : Type) → List (DataW H) → Bool := fun _ ds => decide (uptoBulkAll ds ≤ 1048576)
def OpenSpec.upto (s : _root_.Go.ChangeSpec) : _root_.Go.OpenSpec := { _root_.Go.OpenSpec.ofChange s with cond := some uptoSmall }

/-- 'laws.FnMissing', WHERE WHAT IT READS IS OF BULK AT MOST 1048576: true; the input reads as it did. -/
def fnMissingUptoRow : OpenClaim := { program := "ytfnpkglijknnoaa", sum := "a1c71284822bb1cc4c3a1eaa14a9e7569fd8f756c15a6986b8eb64f94eb6fc88", func := "loop.example/g03100/laws.FnMissing", spec := "fnMissing", unfollowed := true, recurses := true, apart := false, narrowed := true }
def FnMissingUptoSaid : Prop := fnMissingUptoRow.holds Try.pinned (OpenSpec.upto fnMissingSpec)

/-- 'laws.FnExactMissingSets', WHERE WHAT IT READS IS OF BULK AT MOST 1048576: true; the input reads as it did. -/
def fnExactMissingSetsUptoRow : OpenClaim := { program := "ytfnpkglijknnoaa", sum := "a1c71284822bb1cc4c3a1eaa14a9e7569fd8f756c15a6986b8eb64f94eb6fc88", func := "loop.example/g03100/laws.FnExactMissingSets", spec := "fnExactMissingSets", unfollowed := true, recurses := true, apart := false, narrowed := true }
def FnExactMissingSetsUptoSaid : Prop := fnExactMissingSetsUptoRow.holds Try.pinned (OpenSpec.upto fnExactMissingSetsSpec)

/-- 'laws.FnExactFromMissing', WHERE WHAT IT READS IS OF BULK AT MOST 1048576: true; the input reads as it did. -/
def fnExactFromMissingUptoRow : OpenClaim := { program := "ytfnpkglijknnoaa", sum := "a1c71284822bb1cc4c3a1eaa14a9e7569fd8f756c15a6986b8eb64f94eb6fc88", func := "loop.example/g03100/laws.FnExactFromMissing", spec := "fnExactFromMissing", unfollowed := true, recurses := true, apart := false, narrowed := true }
def FnExactFromMissingUptoSaid : Prop := fnExactFromMissingUptoRow.holds Try.pinned (OpenSpec.upto fnExactFromMissingSpec)

/-- 'laws.FnExactGreatestMissing', WHERE WHAT IT READS IS OF BULK AT MOST 1048576: true; the input reads as it did. -/
def fnExactGreatestMissingUptoRow : OpenClaim := { program := "ytfnpkglijknnoaa", sum := "a1c71284822bb1cc4c3a1eaa14a9e7569fd8f756c15a6986b8eb64f94eb6fc88", func := "loop.example/g03100/laws.FnExactGreatestMissing", spec := "fnExactGreatestMissing", unfollowed := true, recurses := true, apart := false, narrowed := true }
def FnExactGreatestMissingUptoSaid : Prop := fnExactGreatestMissingUptoRow.holds Try.pinned (OpenSpec.upto fnExactGreatestMissingSpec)

/-- 'laws.FnExactIsFlag', WHERE WHAT IT READS IS OF BULK AT MOST 1048576: true; the input reads as it did. -/
def fnExactIsFlagUptoRow : OpenClaim := { program := "ytfnpkglijknnoaa", sum := "a1c71284822bb1cc4c3a1eaa14a9e7569fd8f756c15a6986b8eb64f94eb6fc88", func := "loop.example/g03100/laws.FnExactIsFlag", spec := "fnExactIsFlag", unfollowed := true, recurses := true, apart := false, narrowed := true }
def FnExactIsFlagUptoSaid : Prop := fnExactIsFlagUptoRow.holds Try.pinned (OpenSpec.upto fnExactIsFlagSpec)

/-- 'laws.FnExactCompleteUpTo', WHERE WHAT IT READS IS OF BULK AT MOST 1048576: true; the input reads as it did. -/
def fnExactCompleteUpToUptoRow : OpenClaim := { program := "ytfnpkglijknnoaa", sum := "a1c71284822bb1cc4c3a1eaa14a9e7569fd8f756c15a6986b8eb64f94eb6fc88", func := "loop.example/g03100/laws.FnExactCompleteUpTo", spec := "fnExactCompleteUpTo", unfollowed := true, recurses := true, apart := false, narrowed := true }
def FnExactCompleteUpToUptoSaid : Prop := fnExactCompleteUpToUptoRow.holds Try.pinned (OpenSpec.upto fnExactCompleteUpToSpec)

/-- 'laws.FnExactFlagOf', WHERE WHAT IT READS IS OF BULK AT MOST 1048576: true; the input reads as it did. -/
def fnExactFlagOfUptoRow : OpenClaim := { program := "ytfnpkglijknnoaa", sum := "a1c71284822bb1cc4c3a1eaa14a9e7569fd8f756c15a6986b8eb64f94eb6fc88", func := "loop.example/g03100/laws.FnExactFlagOf", spec := "fnExactFlagOf", unfollowed := true, recurses := true, apart := false, narrowed := true }
def FnExactFlagOfUptoSaid : Prop := fnExactFlagOfUptoRow.holds Try.pinned (OpenSpec.upto fnExactFlagOfSpec)

end Rows
end Go.Proofs.Ytfnpkglijknnoaa
