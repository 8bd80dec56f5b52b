/-
  The closures of Turn and Only.
-/
import Derived.Test.YtpkfpfflnncleabDoorJ2
namespace Go.Proofs.YtpkfpfflnncleabDoor
set_option linter.unusedVariables false
set_option linter.unusedSimpArgs false
open Go.RowKit

set_option maxHeartbeats 2000000 in
theorem turnC (f t x : Int) (w : World) :
    Calls Tryd.prog 27 #[.agg #[.int .i64 f, .int .i64 t, .int .i64 x]] w fun e w' => e = .returned (.agg #[.int .i64 t, .int .i64 f, .int .i64 x]) ∧ Below w.heap.size w w' := by
  go_enter Tryd.func27, Tryd.ntmps27
  go_wp2_with fail
  refine bodyPost_ret (v := .agg #[.int .i64 t, .int .i64 f, .int .i64 x]) (by simp [results, Tryd.results27, go_sem]) rfl ⟨rfl, ?_⟩
  exact (below_box w _).alloc (by simp) _
set_option maxHeartbeats 2000000 in
theorem onlyC (f t x m : Int) (kb : Nat) (w : World) (hk : w.cell? ⟨kb, 0, none⟩ = some (.int .i64 m)) :
    Calls Tryd.prog 28 #[.agg #[.int .i64 f, .int .i64 t, .int .i64 x], .pointer (some ⟨kb, 0, none⟩)] w fun e w' => e = .returned (.agg #[.int .i64 f, .int .i64 t, .int .i64 (bits .and .i64 x m)]) ∧ Below w.heap.size w w' := by
  have hk1 : ∀ o, (w.alloc o).cell? ⟨kb, 0, none⟩ = some (.int .i64 m) := fun o => Lib.cell?_alloc_some _ hk
  have hk2 : ∀ o o', ((w.alloc o).alloc o').cell? ⟨kb, 0, none⟩ = some (.int .i64 m) := fun o o' => Lib.cell?_alloc_some _ (hk1 o)
  go_enter Tryd.func28, Tryd.ntmps28
  go_wp2_with fail
  refine bodyPost_ret (v := .agg #[.int .i64 f, .int .i64 t, .int .i64 (bits .and .i64 x m)]) (by simp [results, Tryd.results28, go_sem]) rfl ⟨rfl, ?_⟩
  exact (below_box w _).alloc (by simp) _
end Go.Proofs.YtpkfpfflnncleabDoor
