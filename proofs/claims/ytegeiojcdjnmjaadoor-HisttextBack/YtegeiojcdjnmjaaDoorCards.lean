/-
  DERIVED. GIVEN WITH THE SEED: THE CARDS: each row of YtegeiojcdjnmjaaDoorRows.lean that lists a variable, with what it lists TIED to the program's text (the seventh form; the later family's looks); each row that meets fmt, with fmt's text TOLD by the authors' own Lean function (tested against real Go, not proved from fmt's source: count such statements apart). THE CARD IS WHAT COUNTS. Prove the row's statement (the work); the ties are given (YtegeiojcdjnmjaaDoorTie.lean); close each card by the builder's one call (the guide's Derived/Test/ToyasCard.lean, 'card_holds'). Laid BY PROGRAM, IN A SANDBOX (cutbox-door.mjs). By AI agents, Wed Nov 11 2026. No macro, syntax, notation, axiom, sorry.
-/
import Derived.Test.YtegeiojcdjnmjaaDoorRows
import GoSem.ClaimSeven
namespace Go.Proofs.YtegeiojcdjnmjaaDoor
namespace Rows

/-- THE TIED CARD OF 'assayerlaw02.HisttextReads'. -/
def histtextReadsCard : Claim7 := { stood := { row := histtextReadsRow, standIns := [], harness := (true, "c3df5e18f08f1c92837560f683d8195c7de15d3c0704b2355c2c8dbf082987c6"), looks := true }, kinds := [], alts := [], laidByText := true, laidKinds := [.data, .data, .data, .sentinel, .sentinel], laidTests := true, laidLooks := .later }
def HisttextReadsCardSaid : Prop := Claim7.holds Tryd.pinned (.plain (OpenSpec.ofChange histtextReadsSpec)) histtextReadsCard

/-- THE TIED CARD OF 'assayerlaw02.HisttextBack'. -/
def histtextBackCard : Claim7 := { stood := { row := histtextBackRow, standIns := [], harness := (true, "c3df5e18f08f1c92837560f683d8195c7de15d3c0704b2355c2c8dbf082987c6"), looks := true }, kinds := [], alts := [], laidByText := true, laidKinds := [.data, .data, .data, .sentinel, .sentinel], laidTests := true, laidLooks := .later }
def HisttextBackCardSaid : Prop := Claim7.holds Tryd.pinned (.plain (OpenSpec.ofChange histtextBackSpec)) histtextBackCard

/-- THE SECOND FORM's CARD OF 'assayerlaw02.HisttextReads'. -/
def histtextReadsUptoCard : Claim7 := { stood := { row := histtextReadsUptoRow, standIns := [], harness := (true, "c3df5e18f08f1c92837560f683d8195c7de15d3c0704b2355c2c8dbf082987c6"), looks := true }, kinds := [], alts := [], laidByText := true, laidKinds := [.data, .data, .data, .sentinel, .sentinel], laidTests := true, laidLooks := .later }
def HisttextReadsUptoCardSaid : Prop := Claim7.holds Tryd.pinned (.plain (OpenSpec.upto histtextReadsSpec)) histtextReadsUptoCard

/-- THE SECOND FORM's CARD OF 'assayerlaw02.HisttextBack'. -/
def histtextBackUptoCard : Claim7 := { stood := { row := histtextBackUptoRow, standIns := [], harness := (true, "c3df5e18f08f1c92837560f683d8195c7de15d3c0704b2355c2c8dbf082987c6"), looks := true }, kinds := [], alts := [], laidByText := true, laidKinds := [.data, .data, .data, .sentinel, .sentinel], laidTests := true, laidLooks := .later }
def HisttextBackUptoCardSaid : Prop := Claim7.holds Tryd.pinned (.plain (OpenSpec.upto histtextBackSpec)) histtextBackUptoCard
end Rows
end Go.Proofs.YtegeiojcdjnmjaaDoor
