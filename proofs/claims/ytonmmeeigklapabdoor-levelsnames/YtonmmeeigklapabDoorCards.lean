/-
  DERIVED. GIVEN WITH THE SEED: THE CARDS: each row of YtonmmeeigklapabDoorRows.lean that lists a variable, with what it lists TIED to the program's text (the seventh form; the later family's looks); each row that meets fmt, with fmt's text TOLD by the authors' own Lean function (tested against real Go, not proved from fmt's source: count such statements apart). THE CARD IS WHAT COUNTS. Prove the row's statement (the work); the ties are given (YtonmmeeigklapabDoorTie.lean); close each card by the builder's one call (the guide's Derived/Test/ToyasCard.lean, 'card_holds'). Laid BY PROGRAM, IN A SANDBOX (cutbox-door.mjs). By AI agents, Wed Nov 11 2026. No macro, syntax, notation, axiom, sorry.
-/
import Derived.Test.YtonmmeeigklapabDoorRows
import GoSem.ClaimSeven
namespace Go.Proofs.YtonmmeeigklapabDoor
namespace Rows

/-- THE TIED CARD OF 'assayerlaw18.LevelsNames'. -/
def levelsNamesCard : Claim7 := { stood := { row := levelsNamesRow, standIns := [], harness := (true, "6eeda0f72e1060e114047209c8ee6621ef6da577668c39a232839325ad85177a"), looks := false }, kinds := [], alts := [], laidByText := true, laidKinds := [.data], laidTests := true, laidLooks := .later }
def LevelsNamesCardSaid : Prop := Claim7.holds Tryd.pinned (.plain (OpenSpec.ofChange levelsNamesSpec)) levelsNamesCard

/-- THE SECOND FORM's CARD OF 'assayerlaw18.LevelsNames'. -/
def levelsNamesUptoCard : Claim7 := { stood := { row := levelsNamesUptoRow, standIns := [], harness := (true, "6eeda0f72e1060e114047209c8ee6621ef6da577668c39a232839325ad85177a"), looks := false }, kinds := [], alts := [], laidByText := true, laidKinds := [.data], laidTests := true, laidLooks := .later }
def LevelsNamesUptoCardSaid : Prop := Claim7.holds Tryd.pinned (.plain (OpenSpec.upto levelsNamesSpec)) levelsNamesUptoCard
end Rows
end Go.Proofs.YtonmmeeigklapabDoor
