/-
  DERIVED. GIVEN WITH THE SEED: THE CARDS: each row of YtlkmciegpmpbbaaDoorRows.lean that lists a variable, with what it lists TIED to the program's text (the seventh form; the later family's looks); each row that meets fmt, with fmt's text TOLD by the authors' own Lean function (tested against real Go, not proved from fmt's source: count such statements apart). THE CARD IS WHAT COUNTS. Prove the row's statement (the work); the ties are given (YtlkmciegpmpbbaaDoorTie.lean); close each card by the builder's one call (the guide's Derived/Test/ToyasCard.lean, 'card_holds'). Laid BY PROGRAM, IN A SANDBOX (cutbox-door.mjs). By AI agents, Wed Nov 11 2026. No macro, syntax, notation, axiom, sorry.
-/
import Derived.Test.YtlkmciegpmpbbaaDoorRows
import GoSem.ClaimSeven
namespace Go.Proofs.YtlkmciegpmpbbaaDoor
namespace Rows

/-- THE TIED CARD OF 'assayerlaw02.HisttextPrints'. -/
def histtextPrintsCard : Claim7 := { stood := { row := histtextPrintsRow, standIns := [], harness := (true, "2154993a5ab2cddc7c87cdb34104b38fa1e0b9bb72556f4d44003f7963356538"), looks := false }, kinds := [], alts := [], laidByText := true, laidKinds := [.data, .data, .data], laidTests := true, laidLooks := .later }
def HisttextPrintsCardSaid : Prop := Claim7.holds Tryd.pinned (.plain (OpenSpec.ofChange histtextPrintsSpec)) histtextPrintsCard

/-- THE SECOND FORM's CARD OF 'assayerlaw02.HisttextPrints'. -/
def histtextPrintsUptoCard : Claim7 := { stood := { row := histtextPrintsUptoRow, standIns := [], harness := (true, "2154993a5ab2cddc7c87cdb34104b38fa1e0b9bb72556f4d44003f7963356538"), looks := false }, kinds := [], alts := [], laidByText := true, laidKinds := [.data, .data, .data], laidTests := true, laidLooks := .later }
def HisttextPrintsUptoCardSaid : Prop := Claim7.holds Tryd.pinned (.plain (OpenSpec.upto histtextPrintsSpec)) histtextPrintsUptoCard
end Rows
end Go.Proofs.YtlkmciegpmpbbaaDoor
