/-
  The law DepsGraph, where there is no graph.
-/
import Derived.Test.YtbcegdiabnapkabDoorD5
import Derived.Test.YtbcegdiabnapkabDoorI1
namespace Go.Proofs.YtbcegdiabnapkabDoor
set_option linter.unusedVariables false
set_option linter.unusedSimpArgs false
open Go.RowKit

theorem Refused.not_ok {n len : Nat} {f : Nat → MW} {why : Int} (h : Refused n len f why) (ho : ∀ i, i < len → whyW n (f i) = 0) : False := by
  obtain ⟨j, hj, _, h2, _⟩ := h
  exact h2 (ho j hj)
theorem Refused.one {n len : Nat} {f : Nat → MW} {why why' : Int} (h : Refused n len f why) (h' : Refused n len f why') : why = why' ∧ why ≠ 0 := by
  obtain ⟨j, hj, h1, h2, rfl⟩ := h
  obtain ⟨j', hj', h1', h2', rfl⟩ := h'
  by_cases e : j = j'
  · subst e; exact ⟨rfl, h2⟩
  · rcases Nat.lt_or_gt_of_ne e with h | h
    · exact absurd (h1' j h) h2
    · exact absurd (h1 j' h) h2'

set_option maxHeartbeats 4000000 in
theorem dglaw_no (n : Int) (hn : n < 0 ∨ 300 < n) (ao : Option Addr) (c len : Nat) (w : World) : Calls Tryd.prog 3 #[.int .i64 n, .slice ao len c] w fun e w' => e = .returned (.bool true) ∧ Below w.heap.size w w' := by
  have D1 := hid (dgraph_no n hn)
  have D2 := hid (rdgraph_no n hn)
  clear hn
  go_enter Tryd.func3, Tryd.ntmps3
  go_wp2_with fail
  go_at_call 4
  refine (D1.out _ _).mono ?_
  rintro e w1 ⟨rfl, b1⟩
  have B1 := hid b1
  clear b1
  go_wp2_with fail
  go_at_call 5
  refine (D2.out _ _).mono ?_
  rintro e w2 ⟨rfl, b2⟩
  have B2 := hid (B1.out.trans (b2.mono B1.out.size))
  clear b2
  go_wp2_with fail
  go_ret
  exact ⟨rfl, B2.out⟩
end Go.Proofs.YtbcegdiabnapkabDoor
