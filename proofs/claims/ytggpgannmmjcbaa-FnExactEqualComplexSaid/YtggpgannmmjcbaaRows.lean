/-
  No cell of these rows narrows 'for every input' (looked for: loops, veiled, ifaces, maps, wideKeys, modest, calm, conditions, laid).
  DERIVED. THE GIVEN ROWS OF THIS SEAT. 7 by the template 'for every input the law returns true; each argument reads behind the call as it read before'; 0 by the template 'total and deterministic' (their statements: YtggpgannmmjcbaaTotals.lean).
  GIVEN WITH THE SEED: the statements are not yours to turn. If you find one false, say at which input.
  Laid BY PROGRAM, IN A SANDBOX (cutbox-rows.mjs): the forced cells as the released guide's own fill.sh prints them over the translation e5209b0ad56b112d… (all of the seat's roots in one cut). By AI agents, Wed Nov 11 2026. No macro, syntax, notation, axiom, sorry.
-/
import Derived.Test.YtggpgannmmjcbaaChecked
import GoSem.Claim
import GoSem.ClaimJoined
import GoSem.ClaimMapViews
import Derived.JoinedTies
import Derived.KernelRfl
namespace Go.Proofs.Ytggpgannmmjcbaa
/- THE CELL 'sum', in the pinned program and in every row, IS THE sha256 OF THE DUMP (.gsa) THAT YtggpgannmmjcbaaProg.lean LOADS. Nothing in Lean hashes anything: it is a label: what it is worth is what the hold of that sum in a sandbox is worth. -/
noncomputable def Try.pinned : Pinned := { name := "ytggpgannmmjcbaa", sum := "e5209b0ad56b112d759b38fcd345bc286c160cd9a545b02a10261af69bb679b3", checked := Try.checked }
namespace Rows
def none {H : Type} : Left H := { results := [], args := [] }

/-- 'laws.FnExactIsComplex': WHATEVER THE INPUT: true; the input reads as it did. -/
def fnExactIsComplexSpec : ChangeSpec := { name := "fnExactIsComplex", fn := fun _ => fun
  | [d] => { results := [.lit (.bool true)], args := [d] }
  | _ => none }
def fnExactIsComplexRow : OpenClaim := { program := "ytggpgannmmjcbaa", sum := "e5209b0ad56b112d759b38fcd345bc286c160cd9a545b02a10261af69bb679b3", func := "loop.example/g03100/laws.FnExactIsComplex", spec := "fnExactIsComplex", apart := false }
def FnExactIsComplexSaid : Prop := fnExactIsComplexRow.holds Try.pinned (OpenSpec.ofChange fnExactIsComplexSpec)

/-- ITS FALSE NEIGHBOUR: 'it returns false'. Refute it at one input. -/
def fnExactIsComplexWrong : ChangeSpec := { name := "fnExactIsComplex", fn := fun _ => fun
  | [d] => { results := [.lit (.bool false)], args := [d] }
  | _ => none }
def FnExactIsComplexWrongFalsely : Prop := fnExactIsComplexRow.holds Try.pinned (OpenSpec.ofChange fnExactIsComplexWrong)

/-- 'laws.FnExactMakeComplex': WHATEVER THE INPUT: true; the input reads as it did. -/
def fnExactMakeComplexSpec : ChangeSpec := { name := "fnExactMakeComplex", fn := fun _ => fun
  | [d1, d2] => { results := [.lit (.bool true)], args := [d1, d2] }
  | _ => none }
def fnExactMakeComplexRow : OpenClaim := { program := "ytggpgannmmjcbaa", sum := "e5209b0ad56b112d759b38fcd345bc286c160cd9a545b02a10261af69bb679b3", func := "loop.example/g03100/laws.FnExactMakeComplex", spec := "fnExactMakeComplex", unfollowed := true, recurses := true, apart := false }
def FnExactMakeComplexSaid : Prop := fnExactMakeComplexRow.holds Try.pinned (OpenSpec.ofChange fnExactMakeComplexSpec)

/-- ITS FALSE NEIGHBOUR: 'it returns false'. Refute it at one input. -/
def fnExactMakeComplexWrong : ChangeSpec := { name := "fnExactMakeComplex", fn := fun _ => fun
  | [d1, d2] => { results := [.lit (.bool false)], args := [d1, d2] }
  | _ => none }
def FnExactMakeComplexWrongFalsely : Prop := fnExactMakeComplexRow.holds Try.pinned (OpenSpec.ofChange fnExactMakeComplexWrong)

/-- 'laws.FnExactFacesOf': WHATEVER THE INPUT: true; the input reads as it did. -/
def fnExactFacesOfSpec : ChangeSpec := { name := "fnExactFacesOf", fn := fun _ => fun
  | [d] => { results := [.lit (.bool true)], args := [d] }
  | _ => none }
def fnExactFacesOfRow : OpenClaim := { program := "ytggpgannmmjcbaa", sum := "e5209b0ad56b112d759b38fcd345bc286c160cd9a545b02a10261af69bb679b3", func := "loop.example/g03100/laws.FnExactFacesOf", spec := "fnExactFacesOf", unfollowed := true, recurses := true, apart := false }
def FnExactFacesOfSaid : Prop := fnExactFacesOfRow.holds Try.pinned (OpenSpec.ofChange fnExactFacesOfSpec)

/-- ITS FALSE NEIGHBOUR: 'it returns false'. Refute it at one input. -/
def fnExactFacesOfWrong : ChangeSpec := { name := "fnExactFacesOf", fn := fun _ => fun
  | [d] => { results := [.lit (.bool false)], args := [d] }
  | _ => none }
def FnExactFacesOfWrongFalsely : Prop := fnExactFacesOfRow.holds Try.pinned (OpenSpec.ofChange fnExactFacesOfWrong)

/-- 'laws.FnExactHasFace': WHATEVER THE INPUT: true; the input reads as it did. -/
def fnExactHasFaceSpec : ChangeSpec := { name := "fnExactHasFace", fn := fun _ => fun
  | [d1, d2] => { results := [.lit (.bool true)], args := [d1, d2] }
  | _ => none }
def fnExactHasFaceRow : OpenClaim := { program := "ytggpgannmmjcbaa", sum := "e5209b0ad56b112d759b38fcd345bc286c160cd9a545b02a10261af69bb679b3", func := "loop.example/g03100/laws.FnExactHasFace", spec := "fnExactHasFace", unfollowed := true, recurses := true, apart := false }
def FnExactHasFaceSaid : Prop := fnExactHasFaceRow.holds Try.pinned (OpenSpec.ofChange fnExactHasFaceSpec)

/-- ITS FALSE NEIGHBOUR: 'it returns false'. Refute it at one input. -/
def fnExactHasFaceWrong : ChangeSpec := { name := "fnExactHasFace", fn := fun _ => fun
  | [d1, d2] => { results := [.lit (.bool false)], args := [d1, d2] }
  | _ => none }
def FnExactHasFaceWrongFalsely : Prop := fnExactHasFaceRow.holds Try.pinned (OpenSpec.ofChange fnExactHasFaceWrong)

/-- 'laws.FnExactEqualComplex': WHATEVER THE INPUT: true; the input reads as it did. -/
def fnExactEqualComplexSpec : ChangeSpec := { name := "fnExactEqualComplex", fn := fun _ => fun
  | [d1, d2] => { results := [.lit (.bool true)], args := [d1, d2] }
  | _ => none }
def fnExactEqualComplexRow : OpenClaim := { program := "ytggpgannmmjcbaa", sum := "e5209b0ad56b112d759b38fcd345bc286c160cd9a545b02a10261af69bb679b3", func := "loop.example/g03100/laws.FnExactEqualComplex", spec := "fnExactEqualComplex", apart := false }
def FnExactEqualComplexSaid : Prop := fnExactEqualComplexRow.holds Try.pinned (OpenSpec.ofChange fnExactEqualComplexSpec)

/-- ITS FALSE NEIGHBOUR: 'it returns false'. Refute it at one input. -/
def fnExactEqualComplexWrong : ChangeSpec := { name := "fnExactEqualComplex", fn := fun _ => fun
  | [d1, d2] => { results := [.lit (.bool false)], args := [d1, d2] }
  | _ => none }
def FnExactEqualComplexWrongFalsely : Prop := fnExactEqualComplexRow.holds Try.pinned (OpenSpec.ofChange fnExactEqualComplexWrong)

/-- 'laws.FnExactFullComplex': WHATEVER THE INPUT: true; the input reads as it did. -/
def fnExactFullComplexSpec : ChangeSpec := { name := "fnExactFullComplex", fn := fun _ => fun
  | [d] => { results := [.lit (.bool true)], args := [d] }
  | _ => none }
def fnExactFullComplexRow : OpenClaim := { program := "ytggpgannmmjcbaa", sum := "e5209b0ad56b112d759b38fcd345bc286c160cd9a545b02a10261af69bb679b3", func := "loop.example/g03100/laws.FnExactFullComplex", spec := "fnExactFullComplex", unfollowed := true, recurses := true, apart := false }
def FnExactFullComplexSaid : Prop := fnExactFullComplexRow.holds Try.pinned (OpenSpec.ofChange fnExactFullComplexSpec)

/-- ITS FALSE NEIGHBOUR: 'it returns false'. Refute it at one input. -/
def fnExactFullComplexWrong : ChangeSpec := { name := "fnExactFullComplex", fn := fun _ => fun
  | [d] => { results := [.lit (.bool false)], args := [d] }
  | _ => none }
def FnExactFullComplexWrongFalsely : Prop := fnExactFullComplexRow.holds Try.pinned (OpenSpec.ofChange fnExactFullComplexWrong)

/-- 'laws.FnExactBorderComplex': WHATEVER THE INPUT: true; the input reads as it did. -/
def fnExactBorderComplexSpec : ChangeSpec := { name := "fnExactBorderComplex", fn := fun _ => fun
  | [d] => { results := [.lit (.bool true)], args := [d] }
  | _ => none }
def fnExactBorderComplexRow : OpenClaim := { program := "ytggpgannmmjcbaa", sum := "e5209b0ad56b112d759b38fcd345bc286c160cd9a545b02a10261af69bb679b3", func := "loop.example/g03100/laws.FnExactBorderComplex", spec := "fnExactBorderComplex", unfollowed := true, recurses := true, apart := false }
def FnExactBorderComplexSaid : Prop := fnExactBorderComplexRow.holds Try.pinned (OpenSpec.ofChange fnExactBorderComplexSpec)

/-- ITS FALSE NEIGHBOUR: 'it returns false'. Refute it at one input. -/
def fnExactBorderComplexWrong : ChangeSpec := { name := "fnExactBorderComplex", fn := fun _ => fun
  | [d] => { results := [.lit (.bool false)], args := [d] }
  | _ => none }
def FnExactBorderComplexWrongFalsely : Prop := fnExactBorderComplexRow.holds Try.pinned (OpenSpec.ofChange fnExactBorderComplexWrong)

/- THE SECOND FORM. 'bulk': how many values and letters a reading holds, each counted each time it is reached (what is shared counts as often as it is met; a slice's spare places count too). A statement '..UptoSaid' is the law's where the arguments, and the package variables that the reading takes, are together of bulk at most 1048576: NARROWER than '..Said'. Prove '..Said' where nothing that the law and all that it calls make is longer than what came in: it says more and counts as full. Else prove '..UptoSaid'. A law counts once. -/
mutual
def uptoBulk {H : Type} : DataW H → Nat
  | .lit (.string bytes) => bytes.length + 1
  | .lit _ => 1
  | .nil => 1
  | .ptr d => uptoBulk d + 1
  | .slice elems spare => uptoBulkAll elems + uptoBulkAll spare + 1
  | .agg parts => uptoBulkAll parts + 1
  | .iface _ d => uptoBulk d + 1
  | .map entries => uptoBulkEntries entries + 1
  | .held _ => 1
def uptoBulkAll {H : Type} : List (DataW H) → Nat
  | [] => 0
  | d :: r => uptoBulk d + uptoBulkAll r
def uptoBulkEntries {H : Type} : List (Lit × DataW H) → Nat
  | [] => 0
  | x :: r => uptoBulkEntry x + uptoBulkEntries r
def uptoBulkEntry {H : Type} : Lit × DataW H → Nat
  | (.string bytes, d) => bytes.length + uptoBulk d + 1
  | (_, d) => uptoBulk d + 1
 end
def uptoSmall : (H : Type) → List (DataW H) → Bool := fun _ ds => decide (uptoBulkAll ds ≤ 1048576)
def OpenSpec.upto (s : _root_.Go.ChangeSpec) : _root_.Go.OpenSpec := { _root_.Go.OpenSpec.ofChange s with cond := some uptoSmall }

/-- 'laws.FnExactIsComplex', WHERE WHAT IT READS IS OF BULK AT MOST 1048576: true; the input reads as it did. -/
def fnExactIsComplexUptoRow : OpenClaim := { program := "ytggpgannmmjcbaa", sum := "e5209b0ad56b112d759b38fcd345bc286c160cd9a545b02a10261af69bb679b3", func := "loop.example/g03100/laws.FnExactIsComplex", spec := "fnExactIsComplex", apart := false, narrowed := true }
def FnExactIsComplexUptoSaid : Prop := fnExactIsComplexUptoRow.holds Try.pinned (OpenSpec.upto fnExactIsComplexSpec)

/-- 'laws.FnExactMakeComplex', WHERE WHAT IT READS IS OF BULK AT MOST 1048576: true; the input reads as it did. -/
def fnExactMakeComplexUptoRow : OpenClaim := { program := "ytggpgannmmjcbaa", sum := "e5209b0ad56b112d759b38fcd345bc286c160cd9a545b02a10261af69bb679b3", func := "loop.example/g03100/laws.FnExactMakeComplex", spec := "fnExactMakeComplex", unfollowed := true, recurses := true, apart := false, narrowed := true }
def FnExactMakeComplexUptoSaid : Prop := fnExactMakeComplexUptoRow.holds Try.pinned (OpenSpec.upto fnExactMakeComplexSpec)

/-- 'laws.FnExactFacesOf', WHERE WHAT IT READS IS OF BULK AT MOST 1048576: true; the input reads as it did. -/
def fnExactFacesOfUptoRow : OpenClaim := { program := "ytggpgannmmjcbaa", sum := "e5209b0ad56b112d759b38fcd345bc286c160cd9a545b02a10261af69bb679b3", func := "loop.example/g03100/laws.FnExactFacesOf", spec := "fnExactFacesOf", unfollowed := true, recurses := true, apart := false, narrowed := true }
def FnExactFacesOfUptoSaid : Prop := fnExactFacesOfUptoRow.holds Try.pinned (OpenSpec.upto fnExactFacesOfSpec)

/-- 'laws.FnExactHasFace', WHERE WHAT IT READS IS OF BULK AT MOST 1048576: true; the input reads as it did. -/
def fnExactHasFaceUptoRow : OpenClaim := { program := "ytggpgannmmjcbaa", sum := "e5209b0ad56b112d759b38fcd345bc286c160cd9a545b02a10261af69bb679b3", func := "loop.example/g03100/laws.FnExactHasFace", spec := "fnExactHasFace", unfollowed := true, recurses := true, apart := false, narrowed := true }
def FnExactHasFaceUptoSaid : Prop := fnExactHasFaceUptoRow.holds Try.pinned (OpenSpec.upto fnExactHasFaceSpec)

/-- 'laws.FnExactEqualComplex', WHERE WHAT IT READS IS OF BULK AT MOST 1048576: true; the input reads as it did. -/
def fnExactEqualComplexUptoRow : OpenClaim := { program := "ytggpgannmmjcbaa", sum := "e5209b0ad56b112d759b38fcd345bc286c160cd9a545b02a10261af69bb679b3", func := "loop.example/g03100/laws.FnExactEqualComplex", spec := "fnExactEqualComplex", apart := false, narrowed := true }
def FnExactEqualComplexUptoSaid : Prop := fnExactEqualComplexUptoRow.holds Try.pinned (OpenSpec.upto fnExactEqualComplexSpec)

/-- 'laws.FnExactFullComplex', WHERE WHAT IT READS IS OF BULK AT MOST 1048576: true; the input reads as it did. -/
def fnExactFullComplexUptoRow : OpenClaim := { program := "ytggpgannmmjcbaa", sum := "e5209b0ad56b112d759b38fcd345bc286c160cd9a545b02a10261af69bb679b3", func := "loop.example/g03100/laws.FnExactFullComplex", spec := "fnExactFullComplex", unfollowed := true, recurses := true, apart := false, narrowed := true }
def FnExactFullComplexUptoSaid : Prop := fnExactFullComplexUptoRow.holds Try.pinned (OpenSpec.upto fnExactFullComplexSpec)

/-- 'laws.FnExactBorderComplex', WHERE WHAT IT READS IS OF BULK AT MOST 1048576: true; the input reads as it did. -/
def fnExactBorderComplexUptoRow : OpenClaim := { program := "ytggpgannmmjcbaa", sum := "e5209b0ad56b112d759b38fcd345bc286c160cd9a545b02a10261af69bb679b3", func := "loop.example/g03100/laws.FnExactBorderComplex", spec := "fnExactBorderComplex", unfollowed := true, recurses := true, apart := false, narrowed := true }
def FnExactBorderComplexUptoSaid : Prop := fnExactBorderComplexUptoRow.holds Try.pinned (OpenSpec.upto fnExactBorderComplexSpec)

end Rows
end Go.Proofs.Ytggpgannmmjcbaa
