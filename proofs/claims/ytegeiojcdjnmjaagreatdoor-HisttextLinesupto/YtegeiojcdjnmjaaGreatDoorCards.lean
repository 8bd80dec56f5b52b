/-
  DERIVED. GIVEN WITH THE SEED: THE CARDS: each row of YtegeiojcdjnmjaaGreatDoorRows.lean that lists a variable, with what it lists TIED to the program's text (the seventh form; the later family's looks); each row that meets fmt, with fmt's text TOLD by the authors' own Lean function (tested against real Go, not proved from fmt's source: count such statements apart). THE CARD IS WHAT COUNTS. Prove the row's statement (the work); the ties are given (YtegeiojcdjnmjaaGreatDoorTie.lean); close each card by the builder's one call (the guide's Derived/Test/ToyasCard.lean, 'card_holds'). Laid BY PROGRAM, IN A SANDBOX (cutbox-door.mjs). By AI agents, Wed Nov 11 2026. No macro, syntax, notation, axiom, sorry.
-/
import Derived.Test.YtegeiojcdjnmjaaGreatDoorRows
import GoSem.ClaimSeven
namespace Go.Proofs.YtegeiojcdjnmjaaGreatDoor
namespace Rows

/-- THE TIED CARD OF 'assayerlaw02.HisttextForm'. -/
def histtextFormCard : Claim7 := { stood := { row := histtextFormRow, standIns := [], harness := (true, "b94a882d782fcd00da05a302136633d5d3836b8e93515b404f82596c9dc8a48a"), looks := true }, kinds := [], alts := [], laidByText := true, laidKinds := [.data, .data, .data, .sentinel, .sentinel], laidTests := true, laidLooks := .later }
def HisttextFormCardSaid : Prop := Claim7.holds Tryz.pinned (.plain (OpenSpec.ofChange histtextFormSpec)) histtextFormCard

/-- THE TIED CARD OF 'assayerlaw02.HisttextLines'. -/
def histtextLinesCard : Claim7 := { stood := { row := histtextLinesRow, standIns := [], harness := (true, "b94a882d782fcd00da05a302136633d5d3836b8e93515b404f82596c9dc8a48a"), looks := true }, kinds := [], alts := [], laidByText := true, laidKinds := [.data, .data, .data, .data, .sentinel, .sentinel, .pinned], laidTests := true, laidLooks := .later }
def HisttextLinesCardSaid : Prop := Claim7.holds Tryz.pinned (.plain (OpenSpec.ofChange histtextLinesSpec)) histtextLinesCard

/-- THE SECOND FORM's CARD OF 'assayerlaw02.HisttextForm'. -/
def histtextFormUptoCard : Claim7 := { stood := { row := histtextFormUptoRow, standIns := [], harness := (true, "b94a882d782fcd00da05a302136633d5d3836b8e93515b404f82596c9dc8a48a"), looks := true }, kinds := [], alts := [], laidByText := true, laidKinds := [.data, .data, .data, .sentinel, .sentinel], laidTests := true, laidLooks := .later }
def HisttextFormUptoCardSaid : Prop := Claim7.holds Tryz.pinned (.plain (OpenSpec.upto histtextFormSpec)) histtextFormUptoCard

/-- THE SECOND FORM's CARD OF 'assayerlaw02.HisttextLines'. -/
def histtextLinesUptoCard : Claim7 := { stood := { row := histtextLinesUptoRow, standIns := [], harness := (true, "b94a882d782fcd00da05a302136633d5d3836b8e93515b404f82596c9dc8a48a"), looks := true }, kinds := [], alts := [], laidByText := true, laidKinds := [.data, .data, .data, .data, .sentinel, .sentinel, .pinned], laidTests := true, laidLooks := .later }
def HisttextLinesUptoCardSaid : Prop := Claim7.holds Tryz.pinned (.plain (OpenSpec.upto histtextLinesSpec)) histtextLinesUptoCard
end Rows
end Go.Proofs.YtegeiojcdjnmjaaGreatDoor
