/-
  A start that fits the rows: the listed package variable holds what the library's text lays; and what the list gives of it.
-/
import Derived.Test.YtpkfpfflnncleaaDoorRows
import Derived.ProofKit
import Derived.LaidLaws
import Derived.Stop.LaidErr
import Derived.Deep.DeepHandedRow
import Derived.Deep.DeepWitnessRowRef
namespace Go.Proofs.YtpkfpfflnncleaaDoor
set_option linter.unusedVariables false
set_option linter.unusedSimpArgs false
open Go.ChangeShapes Go.WideShapes Go.ChangeAt Go.RowKit

theorem Tryd.own : ownKnob Tryd.prog.godebug = none := by kernel_rfl

/-- A block's cells laid anew. -/
def put (h : Array Obj) (g : Nat) (cs : Array Value) : Array Obj := h.modify g fun
  | .cells _ t frozen => .cells cs t frozen
  | o => o
/-- The library's table. -/
def tab64 : List Int := [0, 1, 56, 2, 57, 49, 28, 3, 61, 58, 42, 50, 38, 29, 17, 4, 62, 47, 59, 36, 45, 43, 51, 22, 53, 39, 33, 30, 24, 18, 12, 5, 63, 55, 48, 27, 60, 41, 37, 16, 46, 35, 44, 21, 52, 32, 23, 11, 54, 26, 40, 15, 34, 20, 31, 10, 25, 14, 19, 9, 13, 8, 7, 6]
/-- There is a world that holds what the listed variable is laid as. -/
theorem start_nb (os : Os) : ∃ w0 : World, w0.os = os ∧
    (w0.forCall (fun _ _ => 0) ⟨#[], #[.int .i64 0], []⟩).variablesRefB Tryd.prog = true ∧
    ((w0.forCall (fun _ _ => 0) ⟨#[], #[.int .i64 0], []⟩).heap.toList.drop Tryd.prog.globals.size).take ((begin Tryd.prog (fun _ _ => 0) default).world.heap.size - Tryd.prog.globals.size) =
      (begin Tryd.prog (fun _ _ => 0) default).world.heap.toList.drop Tryd.prog.globals.size ∧
    Input.okWideB Tryd.prog (w0.forCall (fun _ _ => 0) ⟨#[], #[.int .i64 0], []⟩) 5 ⟨#[], #[.int .i64 0], []⟩ = true ∧
    laidMet Tryd.prog Rows.bitsNobodyRow.laid (w0.forCall (fun _ _ => 0) ⟨#[], #[.int .i64 0], []⟩).memory ∧
    (∀ (H : Type) (enc : TypeId × Value → H), ∃ places, DataW.whole enc Tryd.prog (w0.forCall (fun _ _ => 0) ⟨#[], #[.int .i64 0], []⟩).memory Tryd.f5.params.toList Rows.bitsNobodySpec.vars false #[.int .i64 0].toList 8 = some ([.lit (.int .i64 0)], [], places)) ∧
    (∀ (H : Type) (enc : TypeId × Value → H), (OpenSpec.ofChange Rows.bitsNobodySpec).bare.sizedB enc Tryd.prog Tryd.f5 false (w0.forCall (fun _ _ => 0) ⟨#[], #[.int .i64 0], []⟩).memory #[.int .i64 0] 8 = true) :=
  ⟨{ World.holding Tryd.prog os ⟨#[], #[], []⟩ with heap := put (World.holding Tryd.prog os ⟨#[], #[], []⟩).heap 0 ((tab64 : List Int).map (Value.int .u8)).toArray },
    rfl, by kernel_rfl, by kernel_rfl, by kernel_rfl, laidMet_of_run' 66 (by kernel_rfl) (by kernel_rfl), fun H enc => ⟨[], by kernel_rfl⟩, fun H enc => by kernel_rfl⟩
end Go.Proofs.YtpkfpfflnncleaaDoor
