/-
  Keys of two numbers each.
-/
import Derived.Test.YtbcegdiabnapkabDoorD3
import Derived.Maps.Own
import Derived.Maps.OwnSet
import Derived.Maps.OwnOps
import Derived.Maps.Views
import Derived.WideKeyEntry
import Derived.DeepKeys5
namespace Go.Proofs.YtbcegdiabnapkabDoor
set_option linter.unusedVariables false
set_option linter.unusedSimpArgs false
open Go.RowKit Go.Maps

theorem Tryd.laidOut' : laidOutB Tryd.prog = true := by kernel_rfl
theorem law33 : WideMaps.KeyLaw Tryd.prog 33 := deep_law_gate Tryd.laidOut' (of_decide_eq_true (by kernel_rfl)) (of_decide_eq_true (by kernel_rfl)) (by kernel_rfl) (by kernel_rfl)
theorem keys33 : Keyed Tryd.prog 33 := Keyed.of_law law33
theorem size33 : Tryd.prog.types.size + 1 = 92 := by kernel_rfl
theorem cells33 : Tryd.prog.cellsOf 33 = 2 := by kernel_rfl
theorem cells3' : Tryd.prog.cellsOf 3 = 1 := by kernel_rfl
theorem keyT33 : Tryd.prog.keyType 33 = true := by kernel_rfl
theorem key_of (a b : Int) (ha : (Lit.int .i64 a).wf = true) (hb : (Lit.int .i64 b).wf = true) : ∃ kl, keyOf Tryd.prog 33 (.agg #[.int .i64 a, .int .i64 b]) = some kl := by
  have hf : (Value.agg #[.int .i64 a, .int .i64 b]).formed Tryd.prog 33 = true := by simp [Value.formed, Tryd.underlying33, cells33]
  have h3 : ∀ x : Int, (Lit.int .i64 x).wf = true → Tryd.prog.keyLits 91 3 [.int .i64 x] = some [.int .i64 x] := fun x hx => by
    show Tryd.prog.keyLits (90 + 1) 3 [.int .i64 x] = _
    unfold Program.keyLits
    simp only [Tryd.underlying3, hx, and_self, if_true]
  have hk : Tryd.prog.keyLits 92 33 [.int .i64 a, .int .i64 b] = some [.int .i64 a, .int .i64 b] := by
    show Tryd.prog.keyLits (91 + 1) 33 [.int .i64 a, .int .i64 b] = _
    unfold Program.keyLits
    simp only [Tryd.underlying33, cells33, cells3']
    simp [List.range_succ, h3 a ha, h3 b hb]
  unfold keyOf
  simp only [Tryd.underlying33, keyT33, hf, size33, Value.cells]
  exact ⟨_, by rw [if_pos (by rfl), hk]; rfl⟩
end Go.Proofs.YtbcegdiabnapkabDoor
