/-
  DERIVED. GIVEN WITH THE SEED: THE CARDS: each row of YtgmneohngadpeaaGreatDoorRows.lean that lists a variable, with what it lists TIED to the program's text (the seventh form; the later family's looks); each row that meets fmt, with fmt's text TOLD by the authors' own Lean function (tested against real Go, not proved from fmt's source: count such statements apart). THE CARD IS WHAT COUNTS. Prove the row's statement (the work); the ties are given (YtgmneohngadpeaaGreatDoorTie.lean); close each card by the builder's one call (the guide's Derived/Test/ToyasCard.lean, 'card_holds'). Laid BY PROGRAM, IN A SANDBOX (cutbox-door.mjs). By AI agents, Wed Nov 11 2026. No macro, syntax, notation, axiom, sorry.
-/
import Derived.Test.YtgmneohngadpeaaGreatDoorRows
import GoSem.ClaimSeven
namespace Go.Proofs.YtgmneohngadpeaaGreatDoor
namespace Rows

/-- THE TIED CARD OF 'assayerlaw14.DepsNobody'. -/
def depsNobodyCard : Claim7 := { stood := { row := depsNobodyRow, standIns := [], harness := (true, "d5b8e8a229d8a040835fee4e4b7ceb87892709bfefffafcb3dd746bdcb30dde0"), looks := false }, kinds := [], alts := [], laidByText := true, laidKinds := [.data], laidTests := true, laidLooks := .later }
def DepsNobodyCardSaid : Prop := Claim7.holds Tryz.pinned (.plain (OpenSpec.ofChange depsNobodySpec)) depsNobodyCard

/-- THE SECOND FORM's CARD OF 'assayerlaw14.DepsNobody'. -/
def depsNobodyUptoCard : Claim7 := { stood := { row := depsNobodyUptoRow, standIns := [], harness := (true, "d5b8e8a229d8a040835fee4e4b7ceb87892709bfefffafcb3dd746bdcb30dde0"), looks := false }, kinds := [], alts := [], laidByText := true, laidKinds := [.data], laidTests := true, laidLooks := .later }
def DepsNobodyUptoCardSaid : Prop := Claim7.holds Tryz.pinned (.plain (OpenSpec.upto depsNobodySpec)) depsNobodyUptoCard
end Rows
end Go.Proofs.YtgmneohngadpeaaGreatDoor
