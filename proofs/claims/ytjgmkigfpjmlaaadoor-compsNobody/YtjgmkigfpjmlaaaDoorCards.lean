/-
  DERIVED. GIVEN WITH THE SEED: THE CARDS: each row of YtjgmkigfpjmlaaaDoorRows.lean that lists a variable, with what it lists TIED to the program's text (the seventh form; the later family's looks); each row that meets fmt, with fmt's text TOLD by the authors' own Lean function (tested against real Go, not proved from fmt's source: count such statements apart). THE CARD IS WHAT COUNTS. Prove the row's statement (the work); the ties are given (YtjgmkigfpjmlaaaDoorTie.lean); close each card by the builder's one call (the guide's Derived/Test/ToyasCard.lean, 'card_holds'). Laid BY PROGRAM, IN A SANDBOX (cutbox-door.mjs). By AI agents, Wed Nov 11 2026. No macro, syntax, notation, axiom, sorry.
-/
import Derived.Test.YtjgmkigfpjmlaaaDoorRows
import GoSem.ClaimSeven
namespace Go.Proofs.YtjgmkigfpjmlaaaDoor
namespace Rows

/-- THE TIED CARD OF 'assayerlaw07.CompsTells'. -/
def compsTellsCard : Claim7 := { stood := { row := compsTellsRow, standIns := [], harness := (true, "ab8b0efc5a2a06dac4e9938fc1a950281d6dcb86f180f81fd3fba3620a9b585d"), looks := false }, kinds := [], alts := [], laidByText := true, laidKinds := [.data], laidTests := true, laidLooks := .later }
def CompsTellsCardSaid : Prop := Claim7.holds Tryd.pinned (.plain (OpenSpec.ofChange compsTellsSpec)) compsTellsCard

/-- THE TIED CARD OF 'assayerlaw07.CompsOrders'. -/
def compsOrdersCard : Claim7 := { stood := { row := compsOrdersRow, standIns := [], harness := (true, "ab8b0efc5a2a06dac4e9938fc1a950281d6dcb86f180f81fd3fba3620a9b585d"), looks := false }, kinds := [], alts := [], laidByText := true, laidKinds := [.data], laidTests := true, laidLooks := .later }
def CompsOrdersCardSaid : Prop := Claim7.holds Tryd.pinned (.plain (OpenSpec.ofChange compsOrdersSpec)) compsOrdersCard

/-- THE TIED CARD OF 'assayerlaw07.CompsParts'. -/
def compsPartsCard : Claim7 := { stood := { row := compsPartsRow, standIns := [], harness := (true, "ab8b0efc5a2a06dac4e9938fc1a950281d6dcb86f180f81fd3fba3620a9b585d"), looks := false }, kinds := [], alts := [], laidByText := true, laidKinds := [.data], laidTests := true, laidLooks := .later }
def CompsPartsCardSaid : Prop := Claim7.holds Tryd.pinned (.plain (OpenSpec.ofChange compsPartsSpec)) compsPartsCard

/-- THE TIED CARD OF 'assayerlaw07.CompsLeads'. -/
def compsLeadsCard : Claim7 := { stood := { row := compsLeadsRow, standIns := [], harness := (true, "ab8b0efc5a2a06dac4e9938fc1a950281d6dcb86f180f81fd3fba3620a9b585d"), looks := false }, kinds := [], alts := [], laidByText := true, laidKinds := [.data], laidTests := true, laidLooks := .later }
def CompsLeadsCardSaid : Prop := Claim7.holds Tryd.pinned (.plain (OpenSpec.ofChange compsLeadsSpec)) compsLeadsCard

/-- THE TIED CARD OF 'assayerlaw07.CompsTurned'. -/
def compsTurnedCard : Claim7 := { stood := { row := compsTurnedRow, standIns := [], harness := (true, "ab8b0efc5a2a06dac4e9938fc1a950281d6dcb86f180f81fd3fba3620a9b585d"), looks := false }, kinds := [], alts := [], laidByText := true, laidKinds := [.data], laidTests := true, laidLooks := .later }
def CompsTurnedCardSaid : Prop := Claim7.holds Tryd.pinned (.plain (OpenSpec.ofChange compsTurnedSpec)) compsTurnedCard

/-- THE TIED CARD OF 'assayerlaw07.CompsNobody'. -/
def compsNobodyCard : Claim7 := { stood := { row := compsNobodyRow, standIns := [], harness := (true, "ab8b0efc5a2a06dac4e9938fc1a950281d6dcb86f180f81fd3fba3620a9b585d"), looks := false }, kinds := [], alts := [], laidByText := true, laidKinds := [.data], laidTests := true, laidLooks := .later }
def CompsNobodyCardSaid : Prop := Claim7.holds Tryd.pinned (.plain (OpenSpec.ofChange compsNobodySpec)) compsNobodyCard

/-- THE SECOND FORM's CARD OF 'assayerlaw07.CompsTells'. -/
def compsTellsUptoCard : Claim7 := { stood := { row := compsTellsUptoRow, standIns := [], harness := (true, "ab8b0efc5a2a06dac4e9938fc1a950281d6dcb86f180f81fd3fba3620a9b585d"), looks := false }, kinds := [], alts := [], laidByText := true, laidKinds := [.data], laidTests := true, laidLooks := .later }
def CompsTellsUptoCardSaid : Prop := Claim7.holds Tryd.pinned (.plain (OpenSpec.upto compsTellsSpec)) compsTellsUptoCard

/-- THE SECOND FORM's CARD OF 'assayerlaw07.CompsOrders'. -/
def compsOrdersUptoCard : Claim7 := { stood := { row := compsOrdersUptoRow, standIns := [], harness := (true, "ab8b0efc5a2a06dac4e9938fc1a950281d6dcb86f180f81fd3fba3620a9b585d"), looks := false }, kinds := [], alts := [], laidByText := true, laidKinds := [.data], laidTests := true, laidLooks := .later }
def CompsOrdersUptoCardSaid : Prop := Claim7.holds Tryd.pinned (.plain (OpenSpec.upto compsOrdersSpec)) compsOrdersUptoCard

/-- THE SECOND FORM's CARD OF 'assayerlaw07.CompsParts'. -/
def compsPartsUptoCard : Claim7 := { stood := { row := compsPartsUptoRow, standIns := [], harness := (true, "ab8b0efc5a2a06dac4e9938fc1a950281d6dcb86f180f81fd3fba3620a9b585d"), looks := false }, kinds := [], alts := [], laidByText := true, laidKinds := [.data], laidTests := true, laidLooks := .later }
def CompsPartsUptoCardSaid : Prop := Claim7.holds Tryd.pinned (.plain (OpenSpec.upto compsPartsSpec)) compsPartsUptoCard

/-- THE SECOND FORM's CARD OF 'assayerlaw07.CompsLeads'. -/
def compsLeadsUptoCard : Claim7 := { stood := { row := compsLeadsUptoRow, standIns := [], harness := (true, "ab8b0efc5a2a06dac4e9938fc1a950281d6dcb86f180f81fd3fba3620a9b585d"), looks := false }, kinds := [], alts := [], laidByText := true, laidKinds := [.data], laidTests := true, laidLooks := .later }
def CompsLeadsUptoCardSaid : Prop := Claim7.holds Tryd.pinned (.plain (OpenSpec.upto compsLeadsSpec)) compsLeadsUptoCard

/-- THE SECOND FORM's CARD OF 'assayerlaw07.CompsTurned'. -/
def compsTurnedUptoCard : Claim7 := { stood := { row := compsTurnedUptoRow, standIns := [], harness := (true, "ab8b0efc5a2a06dac4e9938fc1a950281d6dcb86f180f81fd3fba3620a9b585d"), looks := false }, kinds := [], alts := [], laidByText := true, laidKinds := [.data], laidTests := true, laidLooks := .later }
def CompsTurnedUptoCardSaid : Prop := Claim7.holds Tryd.pinned (.plain (OpenSpec.upto compsTurnedSpec)) compsTurnedUptoCard

/-- THE SECOND FORM's CARD OF 'assayerlaw07.CompsNobody'. -/
def compsNobodyUptoCard : Claim7 := { stood := { row := compsNobodyUptoRow, standIns := [], harness := (true, "ab8b0efc5a2a06dac4e9938fc1a950281d6dcb86f180f81fd3fba3620a9b585d"), looks := false }, kinds := [], alts := [], laidByText := true, laidKinds := [.data], laidTests := true, laidLooks := .later }
def CompsNobodyUptoCardSaid : Prop := Claim7.holds Tryd.pinned (.plain (OpenSpec.upto compsNobodySpec)) compsNobodyUptoCard
end Rows
end Go.Proofs.YtjgmkigfpjmlaaaDoor
