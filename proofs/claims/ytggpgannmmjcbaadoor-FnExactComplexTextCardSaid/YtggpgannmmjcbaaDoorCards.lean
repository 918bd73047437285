/-
  DERIVED. GIVEN WITH THE SEED: THE CARDS: each row of YtggpgannmmjcbaaDoorRows.lean that lists a variable, with what it lists TIED to the program's text (the seventh form; the later family's looks); each row that meets fmt, with fmt's text TOLD by the authors' own Lean function (tested against real Go, not proved from fmt's source: count such statements apart). THE CARD IS WHAT COUNTS. Prove the row's statement (the work); the ties are given (YtggpgannmmjcbaaDoorTie.lean); close each card by the builder's one call (the guide's Derived/Test/ToyasCard.lean, 'card_holds'). Laid BY PROGRAM, IN A SANDBOX (cutbox-door.mjs). By AI agents, Wed Nov 11 2026. No macro, syntax, notation, axiom, sorry.
-/
import Derived.Test.YtggpgannmmjcbaaDoorRows
import GoSem.ClaimSeven
namespace Go.Proofs.YtggpgannmmjcbaaDoor
namespace Rows

/-- THE TIED CARD OF 'laws.FnExactComplexText'. -/
def fnExactComplexTextCard : Claim7 := { stood := { row := fnExactComplexTextRow, standIns := [], harness := (true, "bf42627c67e77c6cfdb11231e74b47c39cc89db31e6f419ddb5c0a851bfbfe94"), looks := false }, kinds := [], alts := [], laidByText := true, laidKinds := [.data, .data, .data], laidTests := true, laidLooks := .later }
def FnExactComplexTextCardSaid : Prop := Claim7.holds Tryd.pinned (.plain (OpenSpec.ofChange fnExactComplexTextSpec)) fnExactComplexTextCard

/-- THE SECOND FORM's CARD OF 'laws.FnExactComplexText'. -/
def fnExactComplexTextUptoCard : Claim7 := { stood := { row := fnExactComplexTextUptoRow, standIns := [], harness := (true, "bf42627c67e77c6cfdb11231e74b47c39cc89db31e6f419ddb5c0a851bfbfe94"), looks := false }, kinds := [], alts := [], laidByText := true, laidKinds := [.data, .data, .data], laidTests := true, laidLooks := .later }
def FnExactComplexTextUptoCardSaid : Prop := Claim7.holds Tryd.pinned (.plain (OpenSpec.upto fnExactComplexTextSpec)) fnExactComplexTextUptoCard
end Rows
end Go.Proofs.YtggpgannmmjcbaaDoor
