/-
  DERIVED. GIVEN WITH THE SEED: THE CARDS: each row of YtebohmcbeacdkaaDoorRows.lean that lists a variable, with what it lists TIED to the program's text (the seventh form; the later family's looks); each row that meets fmt, with fmt's text TOLD by the authors' own Lean function (tested against real Go, not proved from fmt's source: count such statements apart). THE CARD IS WHAT COUNTS. Prove the row's statement (the work); the ties are given (YtebohmcbeacdkaaDoorTie.lean); close each card by the builder's one call (the guide's Derived/Test/ToyasCard.lean, 'card_holds'). Laid BY PROGRAM, IN A SANDBOX (cutbox-door.mjs). By AI agents, Wed Nov 11 2026. No macro, syntax, notation, axiom, sorry.
-/
import Derived.Test.YtebohmcbeacdkaaDoorRows
import GoSem.ClaimSeven
namespace Go.Proofs.YtebohmcbeacdkaaDoor
namespace Rows

/-- THE TIED CARD OF 'assayerlaw24.DeskOptions'. -/
def deskOptionsCard : Claim7 := { stood := { row := deskOptionsRow, standIns := [], harness := (true, "f163e2af9057eda20fc380721d8fe5a1c47d536c0af6bf41741fdcd9840e1af8"), looks := true }, kinds := [], alts := [], laidByText := true, laidKinds := [.data, .data, .data, .sentinel, .sentinel], laidTests := true, laidLooks := .later }
def DeskOptionsCardSaid : Prop := Claim7.holds Tryd.pinned (.plain (OpenSpec.ofChange deskOptionsSpec)) deskOptionsCard

/-- THE TIED CARD OF 'assayerlaw24.DeskOrder'. -/
def deskOrderCard : Claim7 := { stood := { row := deskOrderRow, standIns := [], harness := (true, "f163e2af9057eda20fc380721d8fe5a1c47d536c0af6bf41741fdcd9840e1af8"), looks := true }, kinds := [], alts := [], laidByText := true, laidKinds := [.data, .data, .data, .sentinel, .sentinel], laidTests := true, laidLooks := .later }
def DeskOrderCardSaid : Prop := Claim7.holds Tryd.pinned (.plain (OpenSpec.ofChange deskOrderSpec)) deskOrderCard

/-- THE SECOND FORM's CARD OF 'assayerlaw24.DeskOptions'. -/
def deskOptionsUptoCard : Claim7 := { stood := { row := deskOptionsUptoRow, standIns := [], harness := (true, "f163e2af9057eda20fc380721d8fe5a1c47d536c0af6bf41741fdcd9840e1af8"), looks := true }, kinds := [], alts := [], laidByText := true, laidKinds := [.data, .data, .data, .sentinel, .sentinel], laidTests := true, laidLooks := .later }
def DeskOptionsUptoCardSaid : Prop := Claim7.holds Tryd.pinned (.plain (OpenSpec.upto deskOptionsSpec)) deskOptionsUptoCard

/-- THE SECOND FORM's CARD OF 'assayerlaw24.DeskOrder'. -/
def deskOrderUptoCard : Claim7 := { stood := { row := deskOrderUptoRow, standIns := [], harness := (true, "f163e2af9057eda20fc380721d8fe5a1c47d536c0af6bf41741fdcd9840e1af8"), looks := true }, kinds := [], alts := [], laidByText := true, laidKinds := [.data, .data, .data, .sentinel, .sentinel], laidTests := true, laidLooks := .later }
def DeskOrderUptoCardSaid : Prop := Claim7.holds Tryd.pinned (.plain (OpenSpec.upto deskOrderSpec)) deskOrderUptoCard
end Rows
end Go.Proofs.YtebohmcbeacdkaaDoor
