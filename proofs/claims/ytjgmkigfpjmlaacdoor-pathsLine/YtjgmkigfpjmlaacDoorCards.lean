/-
  DERIVED. GIVEN WITH THE SEED: THE CARDS: each row of YtjgmkigfpjmlaacDoorRows.lean that lists a variable, with what it lists TIED to the program's text (the seventh form; the later family's looks); each row that meets fmt, with fmt's text TOLD by the authors' own Lean function (tested against real Go, not proved from fmt's source: count such statements apart). THE CARD IS WHAT COUNTS. Prove the row's statement (the work); the ties are given (YtjgmkigfpjmlaacDoorTie.lean); close each card by the builder's one call (the guide's Derived/Test/ToyasCard.lean, 'card_holds'). Laid BY PROGRAM, IN A SANDBOX (cutbox-door.mjs). By AI agents, Wed Nov 11 2026. No macro, syntax, notation, axiom, sorry.
-/
import Derived.Test.YtjgmkigfpjmlaacDoorRows
import GoSem.ClaimSeven
namespace Go.Proofs.YtjgmkigfpjmlaacDoor
namespace Rows

/-- THE TIED CARD OF 'assayerlaw08.PathsLine'. -/
def pathsLineCard : Claim7 := { stood := { row := pathsLineRow, standIns := [], harness := (true, "7aa735ef10e1acaf683ebe1b5a4dfd49933c531907f81f1b2e33fbb86742c1f9"), looks := false }, kinds := [], alts := [], laidByText := true, laidKinds := [.data], laidTests := true, laidLooks := .later }
def PathsLineCardSaid : Prop := Claim7.holds Tryd.pinned (.plain (OpenSpec.ofChange pathsLineSpec)) pathsLineCard

/-- THE SECOND FORM's CARD OF 'assayerlaw08.PathsLine'. -/
def pathsLineUptoCard : Claim7 := { stood := { row := pathsLineUptoRow, standIns := [], harness := (true, "7aa735ef10e1acaf683ebe1b5a4dfd49933c531907f81f1b2e33fbb86742c1f9"), looks := false }, kinds := [], alts := [], laidByText := true, laidKinds := [.data], laidTests := true, laidLooks := .later }
def PathsLineUptoCardSaid : Prop := Claim7.holds Tryd.pinned (.plain (OpenSpec.upto pathsLineSpec)) pathsLineUptoCard
end Rows
end Go.Proofs.YtjgmkigfpjmlaacDoor
