/-
  Same of a set that no call made, and the walk of the law on such sets.
-/
import Derived.Test.YtgmneohngadpeaaGreatDoorB2
namespace Go.Proofs.YtgmneohngadpeaaGreatDoor
set_option linter.unusedVariables false
set_option linter.unusedSimpArgs false
open Go.RowKit

theorem quietly {P : Program} {f : FuncId} {args : Array Value} {w : World} {n : Nat} {v : Value} (h : Calls P f args (w.drewN n) fun e w' => e = .returned v ∧ w.drewN n = w') : Calls P f args (w.drewN n) fun e w'' => e = .returned v ∧ ∃ m, w'' = w.drewN m :=
  h.mono fun _ _ ⟨he, hm⟩ => ⟨he, n, hm.symm⟩
theorem NoSet.drewN {w : World} {v : Value} (h : NoSet w v) (n : Nat) : NoSet (w.drewN n) v := h.later (below_drewN (Below.refl _ _) n)
theorem cell_drewN (w : World) (n : Nat) (p : Addr) : (w.drewN n).cell? p = w.cell? p := rfl
end Go.Proofs.YtgmneohngadpeaaGreatDoor
