/-
  The closures of Turn and Only.
-/
import Derived.Test.YtjgmkigfpjmlaabDoorQ5
namespace Go.Proofs.YtjgmkigfpjmlaabDoor
set_option linter.unusedVariables false
set_option linter.unusedSimpArgs false
open Go.RowKit

set_option maxHeartbeats 2000000 in
set_option maxRecDepth 100000 in
theorem turnC (f t x : Int) (w : World) :
    Calls Tryd.prog 54 #[.agg #[.int .i64 f, .int .i64 t, .int .i64 x]] w fun e w' => e = .returned (.agg #[.int .i64 t, .int .i64 f, .int .i64 x]) ∧ Below w.heap.size w w' := by
  go_enter Tryd.func54, Tryd.ntmps54
  go_wp2_with fail
  refine bodyPost_ret (v := .agg #[.int .i64 t, .int .i64 f, .int .i64 x]) (by simp [results, Tryd.results27, go_sem]) rfl ⟨rfl, ?_⟩
  exact (below_box w _).alloc (by simp) _
end Go.Proofs.YtjgmkigfpjmlaabDoor
