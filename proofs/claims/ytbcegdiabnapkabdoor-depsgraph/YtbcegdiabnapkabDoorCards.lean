/-
  DERIVED. GIVEN WITH THE SEED: THE CARDS: each row of YtbcegdiabnapkabDoorRows.lean that lists a variable, with what it lists TIED to the program's text (the seventh form; the later family's looks); each row that meets fmt, with fmt's text TOLD by the authors' own Lean function (tested against real Go, not proved from fmt's source: count such statements apart). THE CARD IS WHAT COUNTS. Prove the row's statement (the work); the ties are given (YtbcegdiabnapkabDoorTie.lean); close each card by the builder's one call (the guide's Derived/Test/ToyasCard.lean, 'card_holds'). Laid BY PROGRAM, IN A SANDBOX (cutbox-door.mjs). By AI agents, Wed Nov 11 2026. No macro, syntax, notation, axiom, sorry.
-/
import Derived.Test.YtbcegdiabnapkabDoorRows
import GoSem.ClaimSeven
namespace Go.Proofs.YtbcegdiabnapkabDoor
namespace Rows

/-- THE TIED CARD OF 'assayerlaw14.DepsGraph'. -/
def depsGraphCard : Claim7 := { stood := { row := depsGraphRow, standIns := [], harness := (true, "a907e7d88f72b24c1555bb87f00876bcef7727ffd4fd0fff22a55f169c0a535d"), looks := false }, kinds := [], alts := [], laidByText := true, laidKinds := [.data], laidTests := true, laidLooks := .later }
def DepsGraphCardSaid : Prop := Claim7.holds Tryd.pinned (.plain (OpenSpec.ofChange depsGraphSpec)) depsGraphCard

/-- THE SECOND FORM's CARD OF 'assayerlaw14.DepsGraph'. -/
def depsGraphUptoCard : Claim7 := { stood := { row := depsGraphUptoRow, standIns := [], harness := (true, "a907e7d88f72b24c1555bb87f00876bcef7727ffd4fd0fff22a55f169c0a535d"), looks := false }, kinds := [], alts := [], laidByText := true, laidKinds := [.data], laidTests := true, laidLooks := .later }
def DepsGraphUptoCardSaid : Prop := Claim7.holds Tryd.pinned (.plain (OpenSpec.upto depsGraphSpec)) depsGraphUptoCard
end Rows
end Go.Proofs.YtbcegdiabnapkabDoor
