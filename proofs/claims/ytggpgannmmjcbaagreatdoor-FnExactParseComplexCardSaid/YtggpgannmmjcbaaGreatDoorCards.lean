/-
  DERIVED. GIVEN WITH THE SEED: THE CARDS: each row of YtggpgannmmjcbaaGreatDoorRows.lean that lists a variable, with what it lists TIED to the program's text (the seventh form; the later family's looks); each row that meets fmt, with fmt's text TOLD by the authors' own Lean function (tested against real Go, not proved from fmt's source: count such statements apart). THE CARD IS WHAT COUNTS. Prove the row's statement (the work); the ties are given (YtggpgannmmjcbaaGreatDoorTie.lean); close each card by the builder's one call (the guide's Derived/Test/ToyasCard.lean, 'card_holds'). Laid BY PROGRAM, IN A SANDBOX (cutbox-door.mjs). By AI agents, Wed Nov 11 2026. No macro, syntax, notation, axiom, sorry.
-/
import Derived.Test.YtggpgannmmjcbaaGreatDoorRows
import GoSem.ClaimSeven
namespace Go.Proofs.YtggpgannmmjcbaaGreatDoor
namespace Rows

/-- THE TIED CARD OF 'laws.FnExactParseComplex'. -/
def fnExactParseComplexCard : Claim7 := { stood := { row := fnExactParseComplexRow, standIns := [], harness := (true, "b6082d0831d26684a3bcb53fb6c88a0f86ee4bee056ac394f08a7a23ac57ae40"), looks := true }, kinds := [], alts := [], laidByText := true, laidKinds := [.data, .data, .data, .data, .sentinel, .sentinel, .pinned], laidTests := true, laidLooks := .later }
def FnExactParseComplexCardSaid : Prop := Claim7.holds Tryz.pinned (.plain (OpenSpec.ofChange fnExactParseComplexSpec)) fnExactParseComplexCard

/-- THE SECOND FORM's CARD OF 'laws.FnExactParseComplex'. -/
def fnExactParseComplexUptoCard : Claim7 := { stood := { row := fnExactParseComplexUptoRow, standIns := [], harness := (true, "b6082d0831d26684a3bcb53fb6c88a0f86ee4bee056ac394f08a7a23ac57ae40"), looks := true }, kinds := [], alts := [], laidByText := true, laidKinds := [.data, .data, .data, .data, .sentinel, .sentinel, .pinned], laidTests := true, laidLooks := .later }
def FnExactParseComplexUptoCardSaid : Prop := Claim7.holds Tryz.pinned (.plain (OpenSpec.upto fnExactParseComplexSpec)) fnExactParseComplexUptoCard
end Rows
end Go.Proofs.YtggpgannmmjcbaaGreatDoor
