/-
  No cell of these rows narrows 'for every input' (looked for: loops, veiled, ifaces, maps, wideKeys, modest, calm, conditions, laid).
  DERIVED. THE GIVEN ROWS OF THIS SEAT. 7 by the template 'for every input the law returns true; each argument reads behind the call as it read before'; 0 by the template 'total and deterministic' (their statements: YtcgfioakjmbciaaTotals.lean).
  GIVEN WITH THE SEED: the statements are not yours to turn. If you find one false, say at which input.
  Laid BY PROGRAM, IN A SANDBOX (cutbox-rows.mjs): the forced cells as the released guide's own fill.sh prints them over the translation 8c710a32992aac05… (all of the seat's roots in one cut). By AI agents, Wed Nov 11 2026. No macro, syntax, notation, axiom, sorry.
-/
import Derived.Test.YtcgfioakjmbciaaChecked
import GoSem.Claim
import GoSem.ClaimJoined
import GoSem.ClaimMapViews
import Derived.JoinedTies
import Derived.KernelRfl
namespace Go.Proofs.Ytcgfioakjmbciaa
/- THE CELL 'sum', in the pinned program and in every row, IS THE sha256 OF THE DUMP (.gsa) THAT YtcgfioakjmbciaaProg.lean LOADS. Nothing in Lean hashes anything: it is a label: what it is worth is what the hold of that sum in a sandbox is worth. -/
noncomputable def Try.pinned : Pinned := { name := "ytcgfioakjmbciaa", sum := "8c710a32992aac054625d7251a404aa252b6d83227f3bfaed7a6bef2076f2b21", checked := Try.checked }
namespace Rows
def none {H : Type} : Left H := { results := [], args := [] }

/-- 'laws.FnHNumbers': WHATEVER THE INPUT: true; the input reads as it did. -/
def fnHNumbersSpec : ChangeSpec := { name := "fnHNumbers", fn := fun _ => fun
  | [d] => { results := [.lit (.bool true)], args := [d] }
  | _ => none }
def fnHNumbersRow : OpenClaim := { program := "ytcgfioakjmbciaa", sum := "8c710a32992aac054625d7251a404aa252b6d83227f3bfaed7a6bef2076f2b21", func := "loop.example/g03100/laws.FnHNumbers", spec := "fnHNumbers", unfollowed := true, recurses := true, plainKeys := false, apart := false }
def FnHNumbersSaid : Prop := fnHNumbersRow.holds Try.pinned (OpenSpec.ofChange fnHNumbersSpec)

/-- ITS FALSE NEIGHBOUR: 'it returns false'. Refute it at one input. -/
def fnHNumbersWrong : ChangeSpec := { name := "fnHNumbers", fn := fun _ => fun
  | [d] => { results := [.lit (.bool false)], args := [d] }
  | _ => none }
def FnHNumbersWrongFalsely : Prop := fnHNumbersRow.holds Try.pinned (OpenSpec.ofChange fnHNumbersWrong)

/-- 'laws.FnExactChoose': WHATEVER THE INPUT: true; the input reads as it did. -/
def fnExactChooseSpec : ChangeSpec := { name := "fnExactChoose", fn := fun _ => fun
  | [d1, d2] => { results := [.lit (.bool true)], args := [d1, d2] }
  | _ => none }
def fnExactChooseRow : OpenClaim := { program := "ytcgfioakjmbciaa", sum := "8c710a32992aac054625d7251a404aa252b6d83227f3bfaed7a6bef2076f2b21", func := "loop.example/g03100/laws.FnExactChoose", spec := "fnExactChoose", unfollowed := true, recurses := true, plainKeys := false, apart := false }
def FnExactChooseSaid : Prop := fnExactChooseRow.holds Try.pinned (OpenSpec.ofChange fnExactChooseSpec)

/-- ITS FALSE NEIGHBOUR: 'it returns false'. Refute it at one input. -/
def fnExactChooseWrong : ChangeSpec := { name := "fnExactChoose", fn := fun _ => fun
  | [d1, d2] => { results := [.lit (.bool false)], args := [d1, d2] }
  | _ => none }
def FnExactChooseWrongFalsely : Prop := fnExactChooseRow.holds Try.pinned (OpenSpec.ofChange fnExactChooseWrong)

/-- 'laws.FnExactHNumbers': WHATEVER THE INPUT: true; the input reads as it did. -/
def fnExactHNumbersSpec : ChangeSpec := { name := "fnExactHNumbers", fn := fun _ => fun
  | [d] => { results := [.lit (.bool true)], args := [d] }
  | _ => none }
def fnExactHNumbersRow : OpenClaim := { program := "ytcgfioakjmbciaa", sum := "8c710a32992aac054625d7251a404aa252b6d83227f3bfaed7a6bef2076f2b21", func := "loop.example/g03100/laws.FnExactHNumbers", spec := "fnExactHNumbers", unfollowed := true, recurses := true, plainKeys := false, apart := false }
def FnExactHNumbersSaid : Prop := fnExactHNumbersRow.holds Try.pinned (OpenSpec.ofChange fnExactHNumbersSpec)

/-- ITS FALSE NEIGHBOUR: 'it returns false'. Refute it at one input. -/
def fnExactHNumbersWrong : ChangeSpec := { name := "fnExactHNumbers", fn := fun _ => fun
  | [d] => { results := [.lit (.bool false)], args := [d] }
  | _ => none }
def FnExactHNumbersWrongFalsely : Prop := fnExactHNumbersRow.holds Try.pinned (OpenSpec.ofChange fnExactHNumbersWrong)

/-- 'laws.FnExactCountsFromH': WHATEVER THE INPUT: true; the input reads as it did. -/
def fnExactCountsFromHSpec : ChangeSpec := { name := "fnExactCountsFromH", fn := fun _ => fun
  | [d] => { results := [.lit (.bool true)], args := [d] }
  | _ => none }
def fnExactCountsFromHRow : OpenClaim := { program := "ytcgfioakjmbciaa", sum := "8c710a32992aac054625d7251a404aa252b6d83227f3bfaed7a6bef2076f2b21", func := "loop.example/g03100/laws.FnExactCountsFromH", spec := "fnExactCountsFromH", unfollowed := true, recurses := true, plainKeys := false, apart := false }
def FnExactCountsFromHSaid : Prop := fnExactCountsFromHRow.holds Try.pinned (OpenSpec.ofChange fnExactCountsFromHSpec)

/-- ITS FALSE NEIGHBOUR: 'it returns false'. Refute it at one input. -/
def fnExactCountsFromHWrong : ChangeSpec := { name := "fnExactCountsFromH", fn := fun _ => fun
  | [d] => { results := [.lit (.bool false)], args := [d] }
  | _ => none }
def FnExactCountsFromHWrongFalsely : Prop := fnExactCountsFromHRow.holds Try.pinned (OpenSpec.ofChange fnExactCountsFromHWrong)

/-- 'laws.FnExactGNumbers': WHATEVER THE INPUT: true; the input reads as it did. -/
def fnExactGNumbersSpec : ChangeSpec := { name := "fnExactGNumbers", fn := fun _ => fun
  | [d] => { results := [.lit (.bool true)], args := [d] }
  | _ => none }
def fnExactGNumbersRow : OpenClaim := { program := "ytcgfioakjmbciaa", sum := "8c710a32992aac054625d7251a404aa252b6d83227f3bfaed7a6bef2076f2b21", func := "loop.example/g03100/laws.FnExactGNumbers", spec := "fnExactGNumbers", unfollowed := true, recurses := true, plainKeys := false, apart := false }
def FnExactGNumbersSaid : Prop := fnExactGNumbersRow.holds Try.pinned (OpenSpec.ofChange fnExactGNumbersSpec)

/-- ITS FALSE NEIGHBOUR: 'it returns false'. Refute it at one input. -/
def fnExactGNumbersWrong : ChangeSpec := { name := "fnExactGNumbers", fn := fun _ => fun
  | [d] => { results := [.lit (.bool false)], args := [d] }
  | _ => none }
def FnExactGNumbersWrongFalsely : Prop := fnExactGNumbersRow.holds Try.pinned (OpenSpec.ofChange fnExactGNumbersWrong)

/-- 'laws.FnExactIsSymmetricH': WHATEVER THE INPUT: true; the input reads as it did. -/
def fnExactIsSymmetricHSpec : ChangeSpec := { name := "fnExactIsSymmetricH", fn := fun _ => fun
  | [d] => { results := [.lit (.bool true)], args := [d] }
  | _ => none }
def fnExactIsSymmetricHRow : OpenClaim := { program := "ytcgfioakjmbciaa", sum := "8c710a32992aac054625d7251a404aa252b6d83227f3bfaed7a6bef2076f2b21", func := "loop.example/g03100/laws.FnExactIsSymmetricH", spec := "fnExactIsSymmetricH", unfollowed := true, recurses := true, plainKeys := false, apart := false }
def FnExactIsSymmetricHSaid : Prop := fnExactIsSymmetricHRow.holds Try.pinned (OpenSpec.ofChange fnExactIsSymmetricHSpec)

/-- ITS FALSE NEIGHBOUR: 'it returns false'. Refute it at one input. -/
def fnExactIsSymmetricHWrong : ChangeSpec := { name := "fnExactIsSymmetricH", fn := fun _ => fun
  | [d] => { results := [.lit (.bool false)], args := [d] }
  | _ => none }
def FnExactIsSymmetricHWrongFalsely : Prop := fnExactIsSymmetricHRow.holds Try.pinned (OpenSpec.ofChange fnExactIsSymmetricHWrong)

/-- 'laws.FnExactTopH': WHATEVER THE INPUT: true; the input reads as it did. -/
def fnExactTopHSpec : ChangeSpec := { name := "fnExactTopH", fn := fun _ => fun
  | [d] => { results := [.lit (.bool true)], args := [d] }
  | _ => none }
def fnExactTopHRow : OpenClaim := { program := "ytcgfioakjmbciaa", sum := "8c710a32992aac054625d7251a404aa252b6d83227f3bfaed7a6bef2076f2b21", func := "loop.example/g03100/laws.FnExactTopH", spec := "fnExactTopH", unfollowed := true, recurses := true, plainKeys := false, apart := false }
def FnExactTopHSaid : Prop := fnExactTopHRow.holds Try.pinned (OpenSpec.ofChange fnExactTopHSpec)

/-- ITS FALSE NEIGHBOUR: 'it returns false'. Refute it at one input. -/
def fnExactTopHWrong : ChangeSpec := { name := "fnExactTopH", fn := fun _ => fun
  | [d] => { results := [.lit (.bool false)], args := [d] }
  | _ => none }
def FnExactTopHWrongFalsely : Prop := fnExactTopHRow.holds Try.pinned (OpenSpec.ofChange fnExactTopHWrong)

/- THE SECOND FORM. 'bulk': how many values and letters a reading holds, each counted each time it is reached (what is shared counts as often as it is met; a slice's spare places count too). A statement '..UptoSaid' is the law's where the arguments, and the package variables that the reading takes, are together of bulk at most 1048576: NARROWER than '..Said'. Prove '..Said' where nothing that the law and all that it calls make is longer than what came in: it says more and counts as full. Else prove '..UptoSaid'. A law counts once. -/
mutual
def uptoBulk {H : Type} : DataW H → Nat
  | .lit (.string bytes) => bytes.length + 1
  | .lit _ => 1
  | .nil => 1
  | .ptr d => uptoBulk d + 1
  | .slice elems spare => uptoBulkAll elems + uptoBulkAll spare + 1
  | .agg parts => uptoBulkAll parts + 1
  | .iface _ d => uptoBulk d + 1
  | .map entries => uptoBulkEntries entries + 1
  | .held _ => 1
def uptoBulkAll {H : Type} : List (DataW H) → Nat
  | [] => 0
  | d :: r => uptoBulk d + uptoBulkAll r
def uptoBulkEntries {H : Type} : List (Lit × DataW H) → Nat
  | [] => 0
  | x :: r => uptoBulkEntry x + uptoBulkEntries r
def uptoBulkEntry {H : Type} : Lit × DataW H → Nat
  | (.string bytes, d) => bytes.length + uptoBulk d + 1
  | (_, d) => uptoBulk d + 1
 end
def uptoSmall : (H : Type) → List (DataW H) → Bool := fun _ ds => decide (uptoBulkAll ds ≤ 1048576)
def OpenSpec.upto (s : _root_.Go.ChangeSpec) : _root_.Go.OpenSpec := { _root_.Go.OpenSpec.ofChange s with cond := some uptoSmall }

/-- 'laws.FnHNumbers', WHERE WHAT IT READS IS OF BULK AT MOST 1048576: true; the input reads as it did. -/
def fnHNumbersUptoRow : OpenClaim := { program := "ytcgfioakjmbciaa", sum := "8c710a32992aac054625d7251a404aa252b6d83227f3bfaed7a6bef2076f2b21", func := "loop.example/g03100/laws.FnHNumbers", spec := "fnHNumbers", unfollowed := true, recurses := true, plainKeys := false, apart := false, narrowed := true }
def FnHNumbersUptoSaid : Prop := fnHNumbersUptoRow.holds Try.pinned (OpenSpec.upto fnHNumbersSpec)

/-- 'laws.FnExactChoose', WHERE WHAT IT READS IS OF BULK AT MOST 1048576: true; the input reads as it did. -/
def fnExactChooseUptoRow : OpenClaim := { program := "ytcgfioakjmbciaa", sum := "8c710a32992aac054625d7251a404aa252b6d83227f3bfaed7a6bef2076f2b21", func := "loop.example/g03100/laws.FnExactChoose", spec := "fnExactChoose", unfollowed := true, recurses := true, plainKeys := false, apart := false, narrowed := true }
def FnExactChooseUptoSaid : Prop := fnExactChooseUptoRow.holds Try.pinned (OpenSpec.upto fnExactChooseSpec)

/-- 'laws.FnExactHNumbers', WHERE WHAT IT READS IS OF BULK AT MOST 1048576: true; the input reads as it did. -/
def fnExactHNumbersUptoRow : OpenClaim := { program := "ytcgfioakjmbciaa", sum := "8c710a32992aac054625d7251a404aa252b6d83227f3bfaed7a6bef2076f2b21", func := "loop.example/g03100/laws.FnExactHNumbers", spec := "fnExactHNumbers", unfollowed := true, recurses := true, plainKeys := false, apart := false, narrowed := true }
def FnExactHNumbersUptoSaid : Prop := fnExactHNumbersUptoRow.holds Try.pinned (OpenSpec.upto fnExactHNumbersSpec)

/-- 'laws.FnExactCountsFromH', WHERE WHAT IT READS IS OF BULK AT MOST 1048576: true; the input reads as it did. -/
def fnExactCountsFromHUptoRow : OpenClaim := { program := "ytcgfioakjmbciaa", sum := "8c710a32992aac054625d7251a404aa252b6d83227f3bfaed7a6bef2076f2b21", func := "loop.example/g03100/laws.FnExactCountsFromH", spec := "fnExactCountsFromH", unfollowed := true, recurses := true, plainKeys := false, apart := false, narrowed := true }
def FnExactCountsFromHUptoSaid : Prop := fnExactCountsFromHUptoRow.holds Try.pinned (OpenSpec.upto fnExactCountsFromHSpec)

/-- 'laws.FnExactGNumbers', WHERE WHAT IT READS IS OF BULK AT MOST 1048576: true; the input reads as it did. -/
def fnExactGNumbersUptoRow : OpenClaim := { program := "ytcgfioakjmbciaa", sum := "8c710a32992aac054625d7251a404aa252b6d83227f3bfaed7a6bef2076f2b21", func := "loop.example/g03100/laws.FnExactGNumbers", spec := "fnExactGNumbers", unfollowed := true, recurses := true, plainKeys := false, apart := false, narrowed := true }
def FnExactGNumbersUptoSaid : Prop := fnExactGNumbersUptoRow.holds Try.pinned (OpenSpec.upto fnExactGNumbersSpec)

/-- 'laws.FnExactIsSymmetricH', WHERE WHAT IT READS IS OF BULK AT MOST 1048576: true; the input reads as it did. -/
def fnExactIsSymmetricHUptoRow : OpenClaim := { program := "ytcgfioakjmbciaa", sum := "8c710a32992aac054625d7251a404aa252b6d83227f3bfaed7a6bef2076f2b21", func := "loop.example/g03100/laws.FnExactIsSymmetricH", spec := "fnExactIsSymmetricH", unfollowed := true, recurses := true, plainKeys := false, apart := false, narrowed := true }
def FnExactIsSymmetricHUptoSaid : Prop := fnExactIsSymmetricHUptoRow.holds Try.pinned (OpenSpec.upto fnExactIsSymmetricHSpec)

/-- 'laws.FnExactTopH', WHERE WHAT IT READS IS OF BULK AT MOST 1048576: true; the input reads as it did. -/
def fnExactTopHUptoRow : OpenClaim := { program := "ytcgfioakjmbciaa", sum := "8c710a32992aac054625d7251a404aa252b6d83227f3bfaed7a6bef2076f2b21", func := "loop.example/g03100/laws.FnExactTopH", spec := "fnExactTopH", unfollowed := true, recurses := true, plainKeys := false, apart := false, narrowed := true }
def FnExactTopHUptoSaid : Prop := fnExactTopHUptoRow.holds Try.pinned (OpenSpec.upto fnExactTopHSpec)

end Rows
end Go.Proofs.Ytcgfioakjmbciaa
