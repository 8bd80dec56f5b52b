/-
  Walks of what holds errors and lists of tokens against one another.
-/
import Derived.Test.YtebohmcbeacdkaaDoorR3
import Derived.Laws.StructEq
namespace Go.Proofs.YtebohmcbeacdkaaDoor
set_option linter.unusedVariables false
set_option linter.unusedSimpArgs false
open Go.RowKit

theorem why_nil (w : World) : Calls Tryd.prog 12 #[.nilIface] w fun e w' => e = .returned (.tuple #[.int .i64 0, .int .i64 0]) ∧ Below w.heap.size w w' := by
  go_enter Tryd.func12, Tryd.ntmps12
  go_wp2
  go_ret2
  exact ⟨rfl, Below.refl _ _⟩

theorem assertFault (a y : Int) (w : World) : (Instr.typeAssert (.iface 46 (.agg #[.int .i64 a, .int .i64 y])) 25 46 true).run Tryd.prog w = .ok (.tuple #[.agg #[.int .i64 a, .int .i64 y], .bool true]) w := by kernel_rfl

set_option maxRecDepth 100000 in
set_option maxHeartbeats 1000000 in
theorem why_fault (a y : Int) (w : World) : Calls Tryd.prog 12 #[.iface 46 (.agg #[.int .i64 a, .int .i64 y])] w fun e w' => e = .returned (.tuple #[.int .i64 y, .int .i64 a]) ∧ Below w.heap.size w w' := by
  have hta := assertFault a y
  go_enter Tryd.func12, Tryd.ntmps12
  go_wp2
  go_quiet (fail)
  go_wp2
  go_ret2
  exact ⟨rfl, below_drewN ((Below.refl _ _).alloc (Nat.le_refl _) _) _⟩
/-- An error is a number at a place. -/
theorem is_nil (w : World) : Calls Tryd.prog 7 #[.nilIface, .int .i64 0, .int .i64 0] w fun e w' => e = .returned (.bool true) ∧ Below w.heap.size w w' := by
  go_enter Tryd.func7, Tryd.ntmps7
  go_wp2_with (go_at_call 12; refine (why_nil _).mono ?_; rintro e w' ⟨rfl, hb⟩)
  go_ret
  exact ⟨rfl, hb⟩

theorem is_fault (a y : Int) (w : World) : Calls Tryd.prog 7 #[.iface 46 (.agg #[.int .i64 a, .int .i64 y]), .int .i64 a, .int .i64 y] w fun e w' => e = .returned (.bool true) ∧ Below w.heap.size w w' := by
  have h1 : (a == a) = true := by simp
  have h2 : (y == y) = true := by simp
  go_enter Tryd.func7, Tryd.ntmps7
  go_wp2_with (go_at_call 12; refine (why_fault _ _ _).mono ?_; rintro e w' ⟨rfl, hb⟩)
  go_ret
  exact ⟨by simp, hb⟩

/-- Scan and its reference, at any text. -/
theorem scan_any (s : ByteArray) (w : World) (te : TypeId) (pe : Value) (hv : w.cell? ⟨2, 0, none⟩ = some (.iface te pe)) :
    Calls Tryd.prog 9 #[.string s] w fun e w' => ScanPost w (scanM s) e w' ∧ Below w.heap.size w w' := by
  by_cases h : 20000 < s.size
  · unfold scanM; rw [if_pos h]; exact scan_long s w h
  · rw [scanM_left (by omega)]; exact scan_walk s w (by omega) te pe hv

theorem refScan_any (s : ByteArray) (w : World) : Calls Tryd.prog 11 #[.string s] w fun e w' => RefPost w (scanM s) e w' ∧ Below w.heap.size w w' := by
  by_cases h : 20000 < s.size
  · unfold scanM; rw [if_pos h]; exact refScan_long s w h
  · rw [scanM_left (by omega)]; exact refScan_walk s w (by omega)

theorem ToksIn.later {S T : Nat → Prop} {w w' : World} {v : Value} {l : List MTok} (h : ToksIn S w v l) (hb : Below w.heap.size w w') (hT : ∀ b, b < w.heap.size → S b → T b) : ToksIn T w' v l :=
  RowsIn.keep h (by omega) (fun _ _ hr => hr) (keeps_below hb) hT

end Go.Proofs.YtebohmcbeacdkaaDoor
