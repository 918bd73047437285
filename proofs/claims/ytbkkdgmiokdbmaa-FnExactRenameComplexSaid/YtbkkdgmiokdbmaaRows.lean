/-
  No cell of these rows narrows 'for every input' (looked for: loops, veiled, ifaces, maps, wideKeys, modest, calm, conditions, laid).
  DERIVED. THE GIVEN ROWS OF THIS SEAT. 6 by the template 'for every input the law returns true; each argument reads behind the call as it read before'; 0 by the template 'total and deterministic' (their statements: YtbkkdgmiokdbmaaTotals.lean).
  GIVEN WITH THE SEED: the statements are not yours to turn. If you find one false, say at which input.
  Laid BY PROGRAM, IN A SANDBOX (cutbox-rows.mjs): the forced cells as the released guide's own fill.sh prints them over the translation 5fe8550131e16356… (all of the seat's roots in one cut). By AI agents, Wed Nov 11 2026. No macro, syntax, notation, axiom, sorry.
-/
import Derived.Test.YtbkkdgmiokdbmaaChecked
import GoSem.Claim
import GoSem.ClaimJoined
import GoSem.ClaimMapViews
import Derived.JoinedTies
import Derived.KernelRfl
namespace Go.Proofs.Ytbkkdgmiokdbmaa
/- THE CELL 'sum', in the pinned program and in every row, IS THE sha256 OF THE DUMP (.gsa) THAT YtbkkdgmiokdbmaaProg.lean LOADS. Nothing in Lean hashes anything: it is a label: what it is worth is what the hold of that sum in a sandbox is worth. -/
noncomputable def Try.pinned : Pinned := { name := "ytbkkdgmiokdbmaa", sum := "5fe8550131e16356c77a4f1c95c663ef5d7d8e820e4c63d8efdd8a16fcdff9bc", checked := Try.checked }
namespace Rows
def none {H : Type} : Left H := { results := [], args := [] }

/-- 'laws.FnExactRenameSet': WHATEVER THE INPUT: true; the input reads as it did. -/
def fnExactRenameSetSpec : ChangeSpec := { name := "fnExactRenameSet", fn := fun _ => fun
  | [d1, d2] => { results := [.lit (.bool true)], args := [d1, d2] }
  | _ => none }
def fnExactRenameSetRow : OpenClaim := { program := "ytbkkdgmiokdbmaa", sum := "5fe8550131e16356c77a4f1c95c663ef5d7d8e820e4c63d8efdd8a16fcdff9bc", func := "loop.example/g03100/laws.FnExactRenameSet", spec := "fnExactRenameSet", apart := false }
def FnExactRenameSetSaid : Prop := fnExactRenameSetRow.holds Try.pinned (OpenSpec.ofChange fnExactRenameSetSpec)

/-- ITS FALSE NEIGHBOUR: 'it returns false'. Refute it at one input. -/
def fnExactRenameSetWrong : ChangeSpec := { name := "fnExactRenameSet", fn := fun _ => fun
  | [d1, d2] => { results := [.lit (.bool false)], args := [d1, d2] }
  | _ => none }
def FnExactRenameSetWrongFalsely : Prop := fnExactRenameSetRow.holds Try.pinned (OpenSpec.ofChange fnExactRenameSetWrong)

/-- 'laws.FnExactRenameComplex': WHATEVER THE INPUT: true; the input reads as it did. -/
def fnExactRenameComplexSpec : ChangeSpec := { name := "fnExactRenameComplex", fn := fun _ => fun
  | [d1, d2] => { results := [.lit (.bool true)], args := [d1, d2] }
  | _ => none }
def fnExactRenameComplexRow : OpenClaim := { program := "ytbkkdgmiokdbmaa", sum := "5fe8550131e16356c77a4f1c95c663ef5d7d8e820e4c63d8efdd8a16fcdff9bc", func := "loop.example/g03100/laws.FnExactRenameComplex", spec := "fnExactRenameComplex", unfollowed := true, recurses := true, apart := false }
def FnExactRenameComplexSaid : Prop := fnExactRenameComplexRow.holds Try.pinned (OpenSpec.ofChange fnExactRenameComplexSpec)

/-- ITS FALSE NEIGHBOUR: 'it returns false'. Refute it at one input. -/
def fnExactRenameComplexWrong : ChangeSpec := { name := "fnExactRenameComplex", fn := fun _ => fun
  | [d1, d2] => { results := [.lit (.bool false)], args := [d1, d2] }
  | _ => none }
def FnExactRenameComplexWrongFalsely : Prop := fnExactRenameComplexRow.holds Try.pinned (OpenSpec.ofChange fnExactRenameComplexWrong)

/-- 'laws.FnExactCanonicalComplex': WHATEVER THE INPUT: true; the input reads as it did. -/
def fnExactCanonicalComplexSpec : ChangeSpec := { name := "fnExactCanonicalComplex", fn := fun _ => fun
  | [d] => { results := [.lit (.bool true)], args := [d] }
  | _ => none }
def fnExactCanonicalComplexRow : OpenClaim := { program := "ytbkkdgmiokdbmaa", sum := "5fe8550131e16356c77a4f1c95c663ef5d7d8e820e4c63d8efdd8a16fcdff9bc", func := "loop.example/g03100/laws.FnExactCanonicalComplex", spec := "fnExactCanonicalComplex", unfollowed := true, recurses := true, apart := false }
def FnExactCanonicalComplexSaid : Prop := fnExactCanonicalComplexRow.holds Try.pinned (OpenSpec.ofChange fnExactCanonicalComplexSpec)

/-- ITS FALSE NEIGHBOUR: 'it returns false'. Refute it at one input. -/
def fnExactCanonicalComplexWrong : ChangeSpec := { name := "fnExactCanonicalComplex", fn := fun _ => fun
  | [d] => { results := [.lit (.bool false)], args := [d] }
  | _ => none }
def FnExactCanonicalComplexWrongFalsely : Prop := fnExactCanonicalComplexRow.holds Try.pinned (OpenSpec.ofChange fnExactCanonicalComplexWrong)

/-- 'laws.FnExactAreAlike': WHATEVER THE INPUT: true; the input reads as it did. -/
def fnExactAreAlikeSpec : ChangeSpec := { name := "fnExactAreAlike", fn := fun _ => fun
  | [d1, d2] => { results := [.lit (.bool true)], args := [d1, d2] }
  | _ => none }
def fnExactAreAlikeRow : OpenClaim := { program := "ytbkkdgmiokdbmaa", sum := "5fe8550131e16356c77a4f1c95c663ef5d7d8e820e4c63d8efdd8a16fcdff9bc", func := "loop.example/g03100/laws.FnExactAreAlike", spec := "fnExactAreAlike", unfollowed := true, recurses := true, apart := false }
def FnExactAreAlikeSaid : Prop := fnExactAreAlikeRow.holds Try.pinned (OpenSpec.ofChange fnExactAreAlikeSpec)

/-- ITS FALSE NEIGHBOUR: 'it returns false'. Refute it at one input. -/
def fnExactAreAlikeWrong : ChangeSpec := { name := "fnExactAreAlike", fn := fun _ => fun
  | [d1, d2] => { results := [.lit (.bool false)], args := [d1, d2] }
  | _ => none }
def FnExactAreAlikeWrongFalsely : Prop := fnExactAreAlikeRow.holds Try.pinned (OpenSpec.ofChange fnExactAreAlikeWrong)

/-- 'laws.FnExactCountSymmetries': WHATEVER THE INPUT: true; the input reads as it did. -/
def fnExactCountSymmetriesSpec : ChangeSpec := { name := "fnExactCountSymmetries", fn := fun _ => fun
  | [d] => { results := [.lit (.bool true)], args := [d] }
  | _ => none }
def fnExactCountSymmetriesRow : OpenClaim := { program := "ytbkkdgmiokdbmaa", sum := "5fe8550131e16356c77a4f1c95c663ef5d7d8e820e4c63d8efdd8a16fcdff9bc", func := "loop.example/g03100/laws.FnExactCountSymmetries", spec := "fnExactCountSymmetries", unfollowed := true, recurses := true, apart := false }
def FnExactCountSymmetriesSaid : Prop := fnExactCountSymmetriesRow.holds Try.pinned (OpenSpec.ofChange fnExactCountSymmetriesSpec)

/-- ITS FALSE NEIGHBOUR: 'it returns false'. Refute it at one input. -/
def fnExactCountSymmetriesWrong : ChangeSpec := { name := "fnExactCountSymmetries", fn := fun _ => fun
  | [d] => { results := [.lit (.bool false)], args := [d] }
  | _ => none }
def FnExactCountSymmetriesWrongFalsely : Prop := fnExactCountSymmetriesRow.holds Try.pinned (OpenSpec.ofChange fnExactCountSymmetriesWrong)

/-- 'laws.FnExactPointClasses': WHATEVER THE INPUT: true; the input reads as it did. -/
def fnExactPointClassesSpec : ChangeSpec := { name := "fnExactPointClasses", fn := fun _ => fun
  | [d] => { results := [.lit (.bool true)], args := [d] }
  | _ => none }
def fnExactPointClassesRow : OpenClaim := { program := "ytbkkdgmiokdbmaa", sum := "5fe8550131e16356c77a4f1c95c663ef5d7d8e820e4c63d8efdd8a16fcdff9bc", func := "loop.example/g03100/laws.FnExactPointClasses", spec := "fnExactPointClasses", unfollowed := true, recurses := true, apart := false }
def FnExactPointClassesSaid : Prop := fnExactPointClassesRow.holds Try.pinned (OpenSpec.ofChange fnExactPointClassesSpec)

/-- ITS FALSE NEIGHBOUR: 'it returns false'. Refute it at one input. -/
def fnExactPointClassesWrong : ChangeSpec := { name := "fnExactPointClasses", fn := fun _ => fun
  | [d] => { results := [.lit (.bool false)], args := [d] }
  | _ => none }
def FnExactPointClassesWrongFalsely : Prop := fnExactPointClassesRow.holds Try.pinned (OpenSpec.ofChange fnExactPointClassesWrong)

/- THE SECOND FORM. 'bulk': how many values and letters a reading holds, each counted each time it is reached (what is shared counts as often as it is met; a slice's spare places count too). A statement '..UptoSaid' is the law's where the arguments, and the package variables that the reading takes, are together of bulk at most 1048576: NARROWER than '..Said'. Prove '..Said' where nothing that the law and all that it calls make is longer than what came in: it says more and counts as full. Else prove '..UptoSaid'. A law counts once. -/
mutual
def uptoBulk {H : Type} : DataW H → Nat
  | .lit (.string bytes) => bytes.length + 1
  | .lit _ => 1
  | .nil => 1
  | .ptr d => uptoBulk d + 1
  | .slice elems spare => uptoBulkAll elems + uptoBulkAll spare + 1
  | .agg parts => uptoBulkAll parts + 1
  | .iface _ d => uptoBulk d + 1
  | .map entries => uptoBulkEntries entries + 1
  | .held _ => 1
def uptoBulkAll {H : Type} : List (DataW H) → Nat
  | [] => 0
  | d :: r => uptoBulk d + uptoBulkAll r
def uptoBulkEntries {H : Type} : List (Lit × DataW H) → Nat
  | [] => 0
  | x :: r => uptoBulkEntry x + uptoBulkEntries r
def uptoBulkEntry {H : Type} : Lit × DataW H → Nat
  | (.string bytes, d) => bytes.length + uptoBulk d + 1
  | (_, d) => uptoBulk d + 1
 end
def uptoSmall : (H : Type) → List (DataW H) → Bool := fun _ ds => decide (uptoBulkAll ds ≤ 1048576)
def OpenSpec.upto (s : _root_.Go.ChangeSpec) : _root_.Go.OpenSpec := { _root_.Go.OpenSpec.ofChange s with cond := some uptoSmall }

/-- 'laws.FnExactRenameSet', WHERE WHAT IT READS IS OF BULK AT MOST 1048576: true; the input reads as it did. -/
def fnExactRenameSetUptoRow : OpenClaim := { program := "ytbkkdgmiokdbmaa", sum := "5fe8550131e16356c77a4f1c95c663ef5d7d8e820e4c63d8efdd8a16fcdff9bc", func := "loop.example/g03100/laws.FnExactRenameSet", spec := "fnExactRenameSet", apart := false, narrowed := true }
def FnExactRenameSetUptoSaid : Prop := fnExactRenameSetUptoRow.holds Try.pinned (OpenSpec.upto fnExactRenameSetSpec)

/-- 'laws.FnExactRenameComplex', WHERE WHAT IT READS IS OF BULK AT MOST 1048576: true; the input reads as it did. -/
def fnExactRenameComplexUptoRow : OpenClaim := { program := "ytbkkdgmiokdbmaa", sum := "5fe8550131e16356c77a4f1c95c663ef5d7d8e820e4c63d8efdd8a16fcdff9bc", func := "loop.example/g03100/laws.FnExactRenameComplex", spec := "fnExactRenameComplex", unfollowed := true, recurses := true, apart := false, narrowed := true }
def FnExactRenameComplexUptoSaid : Prop := fnExactRenameComplexUptoRow.holds Try.pinned (OpenSpec.upto fnExactRenameComplexSpec)

/-- 'laws.FnExactCanonicalComplex', WHERE WHAT IT READS IS OF BULK AT MOST 1048576: true; the input reads as it did. -/
def fnExactCanonicalComplexUptoRow : OpenClaim := { program := "ytbkkdgmiokdbmaa", sum := "5fe8550131e16356c77a4f1c95c663ef5d7d8e820e4c63d8efdd8a16fcdff9bc", func := "loop.example/g03100/laws.FnExactCanonicalComplex", spec := "fnExactCanonicalComplex", unfollowed := true, recurses := true, apart := false, narrowed := true }
def FnExactCanonicalComplexUptoSaid : Prop := fnExactCanonicalComplexUptoRow.holds Try.pinned (OpenSpec.upto fnExactCanonicalComplexSpec)

/-- 'laws.FnExactAreAlike', WHERE WHAT IT READS IS OF BULK AT MOST 1048576: true; the input reads as it did. -/
def fnExactAreAlikeUptoRow : OpenClaim := { program := "ytbkkdgmiokdbmaa", sum := "5fe8550131e16356c77a4f1c95c663ef5d7d8e820e4c63d8efdd8a16fcdff9bc", func := "loop.example/g03100/laws.FnExactAreAlike", spec := "fnExactAreAlike", unfollowed := true, recurses := true, apart := false, narrowed := true }
def FnExactAreAlikeUptoSaid : Prop := fnExactAreAlikeUptoRow.holds Try.pinned (OpenSpec.upto fnExactAreAlikeSpec)

/-- 'laws.FnExactCountSymmetries', WHERE WHAT IT READS IS OF BULK AT MOST 1048576: true; the input reads as it did. -/
def fnExactCountSymmetriesUptoRow : OpenClaim := { program := "ytbkkdgmiokdbmaa", sum := "5fe8550131e16356c77a4f1c95c663ef5d7d8e820e4c63d8efdd8a16fcdff9bc", func := "loop.example/g03100/laws.FnExactCountSymmetries", spec := "fnExactCountSymmetries", unfollowed := true, recurses := true, apart := false, narrowed := true }
def FnExactCountSymmetriesUptoSaid : Prop := fnExactCountSymmetriesUptoRow.holds Try.pinned (OpenSpec.upto fnExactCountSymmetriesSpec)

/-- 'laws.FnExactPointClasses', WHERE WHAT IT READS IS OF BULK AT MOST 1048576: true; the input reads as it did. -/
def fnExactPointClassesUptoRow : OpenClaim := { program := "ytbkkdgmiokdbmaa", sum := "5fe8550131e16356c77a4f1c95c663ef5d7d8e820e4c63d8efdd8a16fcdff9bc", func := "loop.example/g03100/laws.FnExactPointClasses", spec := "fnExactPointClasses", unfollowed := true, recurses := true, apart := false, narrowed := true }
def FnExactPointClassesUptoSaid : Prop := fnExactPointClassesUptoRow.holds Try.pinned (OpenSpec.upto fnExactPointClassesSpec)

end Rows
end Go.Proofs.Ytbkkdgmiokdbmaa
