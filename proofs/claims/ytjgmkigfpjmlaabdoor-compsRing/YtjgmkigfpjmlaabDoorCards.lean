/-
  DERIVED. GIVEN WITH THE SEED: THE CARDS: each row of YtjgmkigfpjmlaabDoorRows.lean that lists a variable, with what it lists TIED to the program's text (the seventh form; the later family's looks); each row that meets fmt, with fmt's text TOLD by the authors' own Lean function (tested against real Go, not proved from fmt's source: count such statements apart). THE CARD IS WHAT COUNTS. Prove the row's statement (the work); the ties are given (YtjgmkigfpjmlaabDoorTie.lean); close each card by the builder's one call (the guide's Derived/Test/ToyasCard.lean, 'card_holds'). Laid BY PROGRAM, IN A SANDBOX (cutbox-door.mjs). By AI agents, Wed Nov 11 2026. No macro, syntax, notation, axiom, sorry.
-/
import Derived.Test.YtjgmkigfpjmlaabDoorRows
import GoSem.ClaimSeven
namespace Go.Proofs.YtjgmkigfpjmlaabDoor
namespace Rows

/-- THE TIED CARD OF 'assayerlaw07.CompsRing'. -/
def compsRingCard : Claim7 := { stood := { row := compsRingRow, standIns := [], harness := (true, "5334a0674b63288ccdf38fcec62ef444caf966a77b4146355c9fc0e37dd4f4c8"), looks := false }, kinds := [], alts := [], laidByText := true, laidKinds := [.data], laidTests := true, laidLooks := .later }
def CompsRingCardSaid : Prop := Claim7.holds Tryd.pinned (.plain (OpenSpec.ofChange compsRingSpec)) compsRingCard

/-- THE TIED CARD OF 'assayerlaw08.PathsTell'. -/
def pathsTellCard : Claim7 := { stood := { row := pathsTellRow, standIns := [], harness := (true, "5334a0674b63288ccdf38fcec62ef444caf966a77b4146355c9fc0e37dd4f4c8"), looks := false }, kinds := [], alts := [], laidByText := true, laidKinds := [.data], laidTests := true, laidLooks := .later }
def PathsTellCardSaid : Prop := Claim7.holds Tryd.pinned (.plain (OpenSpec.ofChange pathsTellSpec)) pathsTellCard

/-- THE TIED CARD OF 'assayerlaw08.PathsReach'. -/
def pathsReachCard : Claim7 := { stood := { row := pathsReachRow, standIns := [], harness := (true, "5334a0674b63288ccdf38fcec62ef444caf966a77b4146355c9fc0e37dd4f4c8"), looks := false }, kinds := [], alts := [], laidByText := true, laidKinds := [.data], laidTests := true, laidLooks := .later }
def PathsReachCardSaid : Prop := Claim7.holds Tryd.pinned (.plain (OpenSpec.ofChange pathsReachSpec)) pathsReachCard

/-- THE TIED CARD OF 'assayerlaw08.PathsSimple'. -/
def pathsSimpleCard : Claim7 := { stood := { row := pathsSimpleRow, standIns := [], harness := (true, "5334a0674b63288ccdf38fcec62ef444caf966a77b4146355c9fc0e37dd4f4c8"), looks := false }, kinds := [], alts := [], laidByText := true, laidKinds := [.data], laidTests := true, laidLooks := .later }
def PathsSimpleCardSaid : Prop := Claim7.holds Tryd.pinned (.plain (OpenSpec.ofChange pathsSimpleSpec)) pathsSimpleCard

/-- THE TIED CARD OF 'assayerlaw08.PathsBetween'. -/
def pathsBetweenCard : Claim7 := { stood := { row := pathsBetweenRow, standIns := [], harness := (true, "5334a0674b63288ccdf38fcec62ef444caf966a77b4146355c9fc0e37dd4f4c8"), looks := false }, kinds := [], alts := [], laidByText := true, laidKinds := [.data], laidTests := true, laidLooks := .later }
def PathsBetweenCardSaid : Prop := Claim7.holds Tryd.pinned (.plain (OpenSpec.ofChange pathsBetweenSpec)) pathsBetweenCard

/-- THE TIED CARD OF 'assayerlaw08.PathsTurned'. -/
def pathsTurnedCard : Claim7 := { stood := { row := pathsTurnedRow, standIns := [], harness := (true, "5334a0674b63288ccdf38fcec62ef444caf966a77b4146355c9fc0e37dd4f4c8"), looks := false }, kinds := [], alts := [], laidByText := true, laidKinds := [.data], laidTests := true, laidLooks := .later }
def PathsTurnedCardSaid : Prop := Claim7.holds Tryd.pinned (.plain (OpenSpec.ofChange pathsTurnedSpec)) pathsTurnedCard

/-- THE SECOND FORM's CARD OF 'assayerlaw07.CompsRing'. -/
def compsRingUptoCard : Claim7 := { stood := { row := compsRingUptoRow, standIns := [], harness := (true, "5334a0674b63288ccdf38fcec62ef444caf966a77b4146355c9fc0e37dd4f4c8"), looks := false }, kinds := [], alts := [], laidByText := true, laidKinds := [.data], laidTests := true, laidLooks := .later }
def CompsRingUptoCardSaid : Prop := Claim7.holds Tryd.pinned (.plain (OpenSpec.upto compsRingSpec)) compsRingUptoCard

/-- THE SECOND FORM's CARD OF 'assayerlaw08.PathsTell'. -/
def pathsTellUptoCard : Claim7 := { stood := { row := pathsTellUptoRow, standIns := [], harness := (true, "5334a0674b63288ccdf38fcec62ef444caf966a77b4146355c9fc0e37dd4f4c8"), looks := false }, kinds := [], alts := [], laidByText := true, laidKinds := [.data], laidTests := true, laidLooks := .later }
def PathsTellUptoCardSaid : Prop := Claim7.holds Tryd.pinned (.plain (OpenSpec.upto pathsTellSpec)) pathsTellUptoCard

/-- THE SECOND FORM's CARD OF 'assayerlaw08.PathsReach'. -/
def pathsReachUptoCard : Claim7 := { stood := { row := pathsReachUptoRow, standIns := [], harness := (true, "5334a0674b63288ccdf38fcec62ef444caf966a77b4146355c9fc0e37dd4f4c8"), looks := false }, kinds := [], alts := [], laidByText := true, laidKinds := [.data], laidTests := true, laidLooks := .later }
def PathsReachUptoCardSaid : Prop := Claim7.holds Tryd.pinned (.plain (OpenSpec.upto pathsReachSpec)) pathsReachUptoCard

/-- THE SECOND FORM's CARD OF 'assayerlaw08.PathsSimple'. -/
def pathsSimpleUptoCard : Claim7 := { stood := { row := pathsSimpleUptoRow, standIns := [], harness := (true, "5334a0674b63288ccdf38fcec62ef444caf966a77b4146355c9fc0e37dd4f4c8"), looks := false }, kinds := [], alts := [], laidByText := true, laidKinds := [.data], laidTests := true, laidLooks := .later }
def PathsSimpleUptoCardSaid : Prop := Claim7.holds Tryd.pinned (.plain (OpenSpec.upto pathsSimpleSpec)) pathsSimpleUptoCard

/-- THE SECOND FORM's CARD OF 'assayerlaw08.PathsBetween'. -/
def pathsBetweenUptoCard : Claim7 := { stood := { row := pathsBetweenUptoRow, standIns := [], harness := (true, "5334a0674b63288ccdf38fcec62ef444caf966a77b4146355c9fc0e37dd4f4c8"), looks := false }, kinds := [], alts := [], laidByText := true, laidKinds := [.data], laidTests := true, laidLooks := .later }
def PathsBetweenUptoCardSaid : Prop := Claim7.holds Tryd.pinned (.plain (OpenSpec.upto pathsBetweenSpec)) pathsBetweenUptoCard

/-- THE SECOND FORM's CARD OF 'assayerlaw08.PathsTurned'. -/
def pathsTurnedUptoCard : Claim7 := { stood := { row := pathsTurnedUptoRow, standIns := [], harness := (true, "5334a0674b63288ccdf38fcec62ef444caf966a77b4146355c9fc0e37dd4f4c8"), looks := false }, kinds := [], alts := [], laidByText := true, laidKinds := [.data], laidTests := true, laidLooks := .later }
def PathsTurnedUptoCardSaid : Prop := Claim7.holds Tryd.pinned (.plain (OpenSpec.upto pathsTurnedSpec)) pathsTurnedUptoCard
end Rows
end Go.Proofs.YtjgmkigfpjmlaabDoor
