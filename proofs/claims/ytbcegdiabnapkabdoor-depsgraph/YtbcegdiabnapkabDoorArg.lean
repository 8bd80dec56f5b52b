/-
  Arguments: a slice of numbers that was handed in; and what the list of laid variables gives of the library's table.
-/
import Derived.Test.YtbcegdiabnapkabDoorStart
import Derived.Test.YtbcegdiabnapkabDoorB10
import Derived.Lib.LaidTab
import Derived.OpenShut
import Derived.ChangeOld
namespace Go.Proofs.YtbcegdiabnapkabDoor
set_option linter.unusedVariables false
set_option linter.unusedSimpArgs false
open Go.ChangeShapes Go.WideShapes Go.ChangeAt Go.RowKit

theorem Tryd.laidOut : laidOutB Tryd.prog = true := by kernel_rfl

theorem tab_of {W : World} (h : laidMet Tryd.prog Rows.depsGraphRow.laid W) : Tab W := by
  have h1 := Lib.tabIs_of_head (P := Tryd.prog) (W := W) (name := "math/bits.deBruijn64tab") (k := .u8) (zs := tab64) (rest := []) (g := 0) (t := 73) (e := 5) (n := 64) (by kernel_rfl) (by kernel_rfl) Tryd.underlying73 Tryd.underlying5 (by kernel_rfl) (by kernel_rfl) h
  intro j hj
  have h2 := h1.cell (g := 0) (by kernel_rfl) j hj
  rw [h2]
  have e : ∀ j, j < 64 → (tab64.getD j 0 : Int) = ((Lib.deBruijn64tab.getD j 0 : Nat) : Int) := by decide +kernel
  rw [e j hj]
end Go.Proofs.YtbcegdiabnapkabDoor
