/-
  No cell of these rows narrows 'for every input' (looked for: loops, veiled, ifaces, maps, wideKeys, modest, calm, conditions, laid).
  DERIVED. THE GIVEN ROWS OF THIS SEAT. 5 by the template 'for every input the law returns true; each argument reads behind the call as it read before'; 0 by the template 'total and deterministic' (their statements: YtenpcjmhlnalcaaTotals.lean).
  GIVEN WITH THE SEED: the statements are not yours to turn. If you find one false, say at which input.
  Laid BY PROGRAM, IN A SANDBOX (cutbox-rows.mjs): the forced cells as the released guide's own fill.sh prints them over the translation 000e08132fbe2b0f… (all of the seat's roots in one cut). By AI agents, Wed Nov 11 2026. No macro, syntax, notation, axiom, sorry.
-/
import Derived.Test.YtenpcjmhlnalcaaChecked
import GoSem.Claim
import GoSem.ClaimJoined
import GoSem.ClaimMapViews
import Derived.JoinedTies
import Derived.KernelRfl
namespace Go.Proofs.Ytenpcjmhlnalcaa
/- THE CELL 'sum', in the pinned program and in every row, IS THE sha256 OF THE DUMP (.gsa) THAT YtenpcjmhlnalcaaProg.lean LOADS. Nothing in Lean hashes anything: it is a label: what it is worth is what the hold of that sum in a sandbox is worth. -/
noncomputable def Try.pinned : Pinned := { name := "ytenpcjmhlnalcaa", sum := "000e08132fbe2b0faad3c91f9664eb40edf3a9a714239b47514ee04095f0430c", checked := Try.checked }
namespace Rows
def none {H : Type} : Left H := { results := [], args := [] }

/-- 'laws.FnExactHolesMod': WHATEVER THE INPUT: true; the input reads as it did. -/
def fnExactHolesModSpec : ChangeSpec := { name := "fnExactHolesMod", fn := fun _ => fun
  | [d1, d2] => { results := [.lit (.bool true)], args := [d1, d2] }
  | _ => none }
def fnExactHolesModRow : OpenClaim := { program := "ytenpcjmhlnalcaa", sum := "000e08132fbe2b0faad3c91f9664eb40edf3a9a714239b47514ee04095f0430c", func := "loop.example/g03100/laws.FnExactHolesMod", spec := "fnExactHolesMod", unfollowed := true, recurses := true, apart := false }
def FnExactHolesModSaid : Prop := fnExactHolesModRow.holds Try.pinned (OpenSpec.ofChange fnExactHolesModSpec)

/-- ITS FALSE NEIGHBOUR: 'it returns false'. Refute it at one input. -/
def fnExactHolesModWrong : ChangeSpec := { name := "fnExactHolesMod", fn := fun _ => fun
  | [d1, d2] => { results := [.lit (.bool false)], args := [d1, d2] }
  | _ => none }
def FnExactHolesModWrongFalsely : Prop := fnExactHolesModRow.holds Try.pinned (OpenSpec.ofChange fnExactHolesModWrong)

/-- 'laws.FnExactCountHoles': WHATEVER THE INPUT: true; the input reads as it did. -/
def fnExactCountHolesSpec : ChangeSpec := { name := "fnExactCountHoles", fn := fun _ => fun
  | [d1, d2] => { results := [.lit (.bool true)], args := [d1, d2] }
  | _ => none }
def fnExactCountHolesRow : OpenClaim := { program := "ytenpcjmhlnalcaa", sum := "000e08132fbe2b0faad3c91f9664eb40edf3a9a714239b47514ee04095f0430c", func := "loop.example/g03100/laws.FnExactCountHoles", spec := "fnExactCountHoles", unfollowed := true, recurses := true, apart := false }
def FnExactCountHolesSaid : Prop := fnExactCountHolesRow.holds Try.pinned (OpenSpec.ofChange fnExactCountHolesSpec)

/-- ITS FALSE NEIGHBOUR: 'it returns false'. Refute it at one input. -/
def fnExactCountHolesWrong : ChangeSpec := { name := "fnExactCountHoles", fn := fun _ => fun
  | [d1, d2] => { results := [.lit (.bool false)], args := [d1, d2] }
  | _ => none }
def FnExactCountHolesWrongFalsely : Prop := fnExactCountHolesRow.holds Try.pinned (OpenSpec.ofChange fnExactCountHolesWrong)

/-- 'laws.FnExactHasNoHoles': WHATEVER THE INPUT: true; the input reads as it did. -/
def fnExactHasNoHolesSpec : ChangeSpec := { name := "fnExactHasNoHoles", fn := fun _ => fun
  | [d1, d2] => { results := [.lit (.bool true)], args := [d1, d2] }
  | _ => none }
def fnExactHasNoHolesRow : OpenClaim := { program := "ytenpcjmhlnalcaa", sum := "000e08132fbe2b0faad3c91f9664eb40edf3a9a714239b47514ee04095f0430c", func := "loop.example/g03100/laws.FnExactHasNoHoles", spec := "fnExactHasNoHoles", unfollowed := true, recurses := true, apart := false }
def FnExactHasNoHolesSaid : Prop := fnExactHasNoHolesRow.holds Try.pinned (OpenSpec.ofChange fnExactHasNoHolesSpec)

/-- ITS FALSE NEIGHBOUR: 'it returns false'. Refute it at one input. -/
def fnExactHasNoHolesWrong : ChangeSpec := { name := "fnExactHasNoHoles", fn := fun _ => fun
  | [d1, d2] => { results := [.lit (.bool false)], args := [d1, d2] }
  | _ => none }
def FnExactHasNoHolesWrongFalsely : Prop := fnExactHasNoHolesRow.holds Try.pinned (OpenSpec.ofChange fnExactHasNoHolesWrong)

/-- 'laws.FnExactIsSphereLike': WHATEVER THE INPUT: true; the input reads as it did. -/
def fnExactIsSphereLikeSpec : ChangeSpec := { name := "fnExactIsSphereLike", fn := fun _ => fun
  | [d1, d2] => { results := [.lit (.bool true)], args := [d1, d2] }
  | _ => none }
def fnExactIsSphereLikeRow : OpenClaim := { program := "ytenpcjmhlnalcaa", sum := "000e08132fbe2b0faad3c91f9664eb40edf3a9a714239b47514ee04095f0430c", func := "loop.example/g03100/laws.FnExactIsSphereLike", spec := "fnExactIsSphereLike", unfollowed := true, recurses := true, apart := false }
def FnExactIsSphereLikeSaid : Prop := fnExactIsSphereLikeRow.holds Try.pinned (OpenSpec.ofChange fnExactIsSphereLikeSpec)

/-- ITS FALSE NEIGHBOUR: 'it returns false'. Refute it at one input. -/
def fnExactIsSphereLikeWrong : ChangeSpec := { name := "fnExactIsSphereLike", fn := fun _ => fun
  | [d1, d2] => { results := [.lit (.bool false)], args := [d1, d2] }
  | _ => none }
def FnExactIsSphereLikeWrongFalsely : Prop := fnExactIsSphereLikeRow.holds Try.pinned (OpenSpec.ofChange fnExactIsSphereLikeWrong)

/-- 'laws.FnExactCountParts': WHATEVER THE INPUT: true; the input reads as it did. -/
def fnExactCountPartsSpec : ChangeSpec := { name := "fnExactCountParts", fn := fun _ => fun
  | [d] => { results := [.lit (.bool true)], args := [d] }
  | _ => none }
def fnExactCountPartsRow : OpenClaim := { program := "ytenpcjmhlnalcaa", sum := "000e08132fbe2b0faad3c91f9664eb40edf3a9a714239b47514ee04095f0430c", func := "loop.example/g03100/laws.FnExactCountParts", spec := "fnExactCountParts", unfollowed := true, recurses := true, apart := false }
def FnExactCountPartsSaid : Prop := fnExactCountPartsRow.holds Try.pinned (OpenSpec.ofChange fnExactCountPartsSpec)

/-- ITS FALSE NEIGHBOUR: 'it returns false'. Refute it at one input. -/
def fnExactCountPartsWrong : ChangeSpec := { name := "fnExactCountParts", fn := fun _ => fun
  | [d] => { results := [.lit (.bool false)], args := [d] }
  | _ => none }
def FnExactCountPartsWrongFalsely : Prop := fnExactCountPartsRow.holds Try.pinned (OpenSpec.ofChange fnExactCountPartsWrong)

/- THE SECOND FORM. 'bulk': how many values and letters a reading holds, each counted each time it is reached (what is shared counts as often as it is met; a slice's spare places count too). A statement '..UptoSaid' is the law's where the arguments, and the package variables that the reading takes, are together of bulk at most 1048576: NARROWER than '..Said'. Prove '..Said' where nothing that the law and all that it calls make is longer than what came in: it says more and counts as full. Else prove '..UptoSaid'. A law counts once. -/
mutual
def uptoBulk {H : Type} : DataW H → Nat
  | .lit (.string bytes) => bytes.length + 1
  | .lit _ => 1
  | .nil => 1
  | .ptr d => uptoBulk d + 1
  | .slice elems spare => uptoBulkAll elems + uptoBulkAll spare + 1
  | .agg parts => uptoBulkAll parts + 1
  | .iface _ d => uptoBulk d + 1
  | .map entries => uptoBulkEntries entries + 1
  | .held _ => 1
def uptoBulkAll {H : Type} : List (DataW H) → Nat
  | [] => 0
  | d :: r => uptoBulk d + uptoBulkAll r
def uptoBulkEntries {H : Type} : List (Lit × DataW H) → Nat
  | [] => 0
  | x :: r => uptoBulkEntry x + uptoBulkEntries r
def uptoBulkEntry {H : Type} : Lit × DataW H → Nat
  | (.string bytes, d) => bytes.length + uptoBulk d + 1
  | (_, d) => uptoBulk d + 1
 end
def uptoSmall : (H : Type) → List (DataW H) → Bool := fun _ ds => decide (uptoBulkAll ds ≤ 1048576)
def OpenSpec.upto (s : _root_.Go.ChangeSpec) : _root_.Go.OpenSpec := { _root_.Go.OpenSpec.ofChange s with cond := some uptoSmall }

/-- 'laws.FnExactHolesMod', WHERE WHAT IT READS IS OF BULK AT MOST 1048576: true; the input reads as it did. -/
def fnExactHolesModUptoRow : OpenClaim := { program := "ytenpcjmhlnalcaa", sum := "000e08132fbe2b0faad3c91f9664eb40edf3a9a714239b47514ee04095f0430c", func := "loop.example/g03100/laws.FnExactHolesMod", spec := "fnExactHolesMod", unfollowed := true, recurses := true, apart := false, narrowed := true }
def FnExactHolesModUptoSaid : Prop := fnExactHolesModUptoRow.holds Try.pinned (OpenSpec.upto fnExactHolesModSpec)

/-- 'laws.FnExactCountHoles', WHERE WHAT IT READS IS OF BULK AT MOST 1048576: true; the input reads as it did. -/
def fnExactCountHolesUptoRow : OpenClaim := { program := "ytenpcjmhlnalcaa", sum := "000e08132fbe2b0faad3c91f9664eb40edf3a9a714239b47514ee04095f0430c", func := "loop.example/g03100/laws.FnExactCountHoles", spec := "fnExactCountHoles", unfollowed := true, recurses := true, apart := false, narrowed := true }
def FnExactCountHolesUptoSaid : Prop := fnExactCountHolesUptoRow.holds Try.pinned (OpenSpec.upto fnExactCountHolesSpec)

/-- 'laws.FnExactHasNoHoles', WHERE WHAT IT READS IS OF BULK AT MOST 1048576: true; the input reads as it did. -/
def fnExactHasNoHolesUptoRow : OpenClaim := { program := "ytenpcjmhlnalcaa", sum := "000e08132fbe2b0faad3c91f9664eb40edf3a9a714239b47514ee04095f0430c", func := "loop.example/g03100/laws.FnExactHasNoHoles", spec := "fnExactHasNoHoles", unfollowed := true, recurses := true, apart := false, narrowed := true }
def FnExactHasNoHolesUptoSaid : Prop := fnExactHasNoHolesUptoRow.holds Try.pinned (OpenSpec.upto fnExactHasNoHolesSpec)

/-- 'laws.FnExactIsSphereLike', WHERE WHAT IT READS IS OF BULK AT MOST 1048576: true; the input reads as it did. -/
def fnExactIsSphereLikeUptoRow : OpenClaim := { program := "ytenpcjmhlnalcaa", sum := "000e08132fbe2b0faad3c91f9664eb40edf3a9a714239b47514ee04095f0430c", func := "loop.example/g03100/laws.FnExactIsSphereLike", spec := "fnExactIsSphereLike", unfollowed := true, recurses := true, apart := false, narrowed := true }
def FnExactIsSphereLikeUptoSaid : Prop := fnExactIsSphereLikeUptoRow.holds Try.pinned (OpenSpec.upto fnExactIsSphereLikeSpec)

/-- 'laws.FnExactCountParts', WHERE WHAT IT READS IS OF BULK AT MOST 1048576: true; the input reads as it did. -/
def fnExactCountPartsUptoRow : OpenClaim := { program := "ytenpcjmhlnalcaa", sum := "000e08132fbe2b0faad3c91f9664eb40edf3a9a714239b47514ee04095f0430c", func := "loop.example/g03100/laws.FnExactCountParts", spec := "fnExactCountParts", unfollowed := true, recurses := true, apart := false, narrowed := true }
def FnExactCountPartsUptoSaid : Prop := fnExactCountPartsUptoRow.holds Try.pinned (OpenSpec.upto fnExactCountPartsSpec)

end Rows
end Go.Proofs.Ytenpcjmhlnalcaa
