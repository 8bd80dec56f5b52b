/-
  The law CyclesRing.
-/
import Derived.Test.YtdihbeffomibeaaGreatDoorCy24a
import Derived.Test.YtdihbeffomibeaaGreatDoorCy24b
import Derived.Test.YtdihbeffomibeaaGreatDoorCy24c
namespace Go.Proofs.YtdihbeffomibeaaGreatDoor
set_option linter.unusedVariables false
set_option linter.unusedSimpArgs false
open Go.RowKit Go.Lib Go.Maps

theorem cyring_walk (n0 lab cut0 : Int) (w : World) (hT : Tab w) (hC : Cls w) :
    Calls Tryz.prog 6 #[.int .i64 n0, .int .i64 lab, .int .i64 cut0] w fun e w' => e = .returned (.bool true) ∧ Below w.heap.size w w' := by
  obtain ⟨K, hK, hk⟩ := u64_mod lab 3 (by decide) (by decide)
  rcases (by omega : K = 0 ∨ K = 1 ∨ K = 2) with rfl | rfl | rfl
  · exact ring_a n0 lab cut0 w hT hC hk
  · exact ring_b n0 lab cut0 w hT hC hk
  · exact ring_c n0 lab cut0 w hT hC hk
end Go.Proofs.YtdihbeffomibeaaGreatDoor
