/-
  Levels' names: contracts of the calls, and of the document's.
-/
import Derived.Test.YtonmmeeigklapabDoorRows
import Derived.Handy
import Derived.LoopTactic
import Derived.Lib.Strings
import Derived.WideShapes
namespace Go.Proofs.YtonmmeeigklapabDoor
open Go.RowKit
set_option linter.unusedVariables false
set_option linter.unusedSimpArgs false

theorem hidN {p : Prop} (h : p) : Hid p := h
/-- The names, by level. -/
def nmB : Nat → ByteArray
  | 0 => ⟨#[110, 111, 110, 101]⟩
  | 1 => ⟨#[112, 108, 49]⟩
  | 2 => ⟨#[112, 108, 50]⟩
  | 3 => ⟨#[112, 108, 50, 112, 108, 117, 115]⟩
  | 4 => ⟨#[112, 108, 51]⟩
  | 5 => ⟨#[115, 116, 114, 105, 99, 116]⟩
  | _ => ⟨#[]⟩
/-- The package's variable holds them. -/
def Names (w : World) : Prop := ∀ k, k < 6 → w.cell? ⟨0, k, none⟩ = some (.string (nmB k))
theorem Names.pos {w : World} (h : Names w) : 0 < w.heap.size := World.block_lt_of_cell? _ _ (h 0 (by decide))
theorem neq_lit (l : List UInt8) (s : ByteArray) (h : ¬ s = ⟨l.toArray⟩) : (l == s.toList) = false := by
  rw [beq_eq_false_iff_ne]
  intro e
  apply h
  apply WideShapes.bytes_inj
  rw [← Lib.toList_data s, ← e]
theorem Names.later {w w' : World} (h : Names w) (hb : Below w.heap.size w w') : Names w' := fun k hk => by
  rw [← h k hk]
  exact hb.cell (p := ⟨0, k, none⟩) h.pos
theorem key_beq' (a b : ByteArray) : (a.toList == b.toList) = decide (a = b) := by
  rw [Lib.toList_data, Lib.toList_data]
  by_cases h : a = b
  · subst h; simp
  · rw [decide_eq_false h]
    simp only [beq_eq_false_iff_ne, ne_eq]
    exact fun c => h (WideShapes.bytes_inj c)

set_option maxHeartbeats 4000000 in
theorem of_0 (w : World) (h : Names w) : Calls Tryd.prog 4 #[.string ⟨#[110, 111, 110, 101]⟩] w fun e w' => e = .returned (.tuple #[.int .i64 0, .bool true]) ∧ w = w' := by
  have i0 : ∀ w : World, (Instr.index 26 (.agg #[.string ⟨#[110, 111, 110, 101]⟩, .string ⟨#[112, 108, 49]⟩, .string ⟨#[112, 108, 50]⟩, .string ⟨#[112, 108, 50, 112, 108, 117, 115]⟩, .string ⟨#[112, 108, 51]⟩, .string ⟨#[115, 116, 114, 105, 99, 116]⟩]) (.int .i64 0)).run Tryd.prog w = .ok (.string ⟨#[110, 111, 110, 101]⟩) w := fun _ => by kernel_rfl
  have i1 : ∀ w : World, (Instr.index 26 (.agg #[.string ⟨#[110, 111, 110, 101]⟩, .string ⟨#[112, 108, 49]⟩, .string ⟨#[112, 108, 50]⟩, .string ⟨#[112, 108, 50, 112, 108, 117, 115]⟩, .string ⟨#[112, 108, 51]⟩, .string ⟨#[115, 116, 114, 105, 99, 116]⟩]) (.int .i64 1)).run Tryd.prog w = .ok (.string ⟨#[112, 108, 49]⟩) w := fun _ => by kernel_rfl
  have i2 : ∀ w : World, (Instr.index 26 (.agg #[.string ⟨#[110, 111, 110, 101]⟩, .string ⟨#[112, 108, 49]⟩, .string ⟨#[112, 108, 50]⟩, .string ⟨#[112, 108, 50, 112, 108, 117, 115]⟩, .string ⟨#[112, 108, 51]⟩, .string ⟨#[115, 116, 114, 105, 99, 116]⟩]) (.int .i64 2)).run Tryd.prog w = .ok (.string ⟨#[112, 108, 50]⟩) w := fun _ => by kernel_rfl
  have i3 : ∀ w : World, (Instr.index 26 (.agg #[.string ⟨#[110, 111, 110, 101]⟩, .string ⟨#[112, 108, 49]⟩, .string ⟨#[112, 108, 50]⟩, .string ⟨#[112, 108, 50, 112, 108, 117, 115]⟩, .string ⟨#[112, 108, 51]⟩, .string ⟨#[115, 116, 114, 105, 99, 116]⟩]) (.int .i64 3)).run Tryd.prog w = .ok (.string ⟨#[112, 108, 50, 112, 108, 117, 115]⟩) w := fun _ => by kernel_rfl
  have i4 : ∀ w : World, (Instr.index 26 (.agg #[.string ⟨#[110, 111, 110, 101]⟩, .string ⟨#[112, 108, 49]⟩, .string ⟨#[112, 108, 50]⟩, .string ⟨#[112, 108, 50, 112, 108, 117, 115]⟩, .string ⟨#[112, 108, 51]⟩, .string ⟨#[115, 116, 114, 105, 99, 116]⟩]) (.int .i64 4)).run Tryd.prog w = .ok (.string ⟨#[112, 108, 51]⟩) w := fun _ => by kernel_rfl
  have i5 : ∀ w : World, (Instr.index 26 (.agg #[.string ⟨#[110, 111, 110, 101]⟩, .string ⟨#[112, 108, 49]⟩, .string ⟨#[112, 108, 50]⟩, .string ⟨#[112, 108, 50, 112, 108, 117, 115]⟩, .string ⟨#[112, 108, 51]⟩, .string ⟨#[115, 116, 114, 105, 99, 116]⟩]) (.int .i64 5)).run Tryd.prog w = .ok (.string ⟨#[115, 116, 114, 105, 99, 116]⟩) w := fun _ => by kernel_rfl
  have c0 : w.cell? ⟨0, 0, none⟩ = some (.string ⟨#[110, 111, 110, 101]⟩) := h 0 (by decide)
  have c1 : w.cell? ⟨0, 1, none⟩ = some (.string ⟨#[112, 108, 49]⟩) := h 1 (by decide)
  have c2 : w.cell? ⟨0, 2, none⟩ = some (.string ⟨#[112, 108, 50]⟩) := h 2 (by decide)
  have c3 : w.cell? ⟨0, 3, none⟩ = some (.string ⟨#[112, 108, 50, 112, 108, 117, 115]⟩) := h 3 (by decide)
  have c4 : w.cell? ⟨0, 4, none⟩ = some (.string ⟨#[112, 108, 51]⟩) := h 4 (by decide)
  have c5 : w.cell? ⟨0, 5, none⟩ = some (.string ⟨#[115, 116, 114, 105, 99, 116]⟩) := h 5 (by decide)
  clear h
  go_enter Tryd.func4, Tryd.ntmps4
  go_wp2
  go_rounds 2
  all_goals go_ret2
  all_goals exact ⟨rfl, rfl⟩
set_option maxHeartbeats 4000000 in
theorem of_1 (w : World) (h : Names w) : Calls Tryd.prog 4 #[.string ⟨#[112, 108, 49]⟩] w fun e w' => e = .returned (.tuple #[.int .i64 1, .bool true]) ∧ w = w' := by
  have i0 : ∀ w : World, (Instr.index 26 (.agg #[.string ⟨#[110, 111, 110, 101]⟩, .string ⟨#[112, 108, 49]⟩, .string ⟨#[112, 108, 50]⟩, .string ⟨#[112, 108, 50, 112, 108, 117, 115]⟩, .string ⟨#[112, 108, 51]⟩, .string ⟨#[115, 116, 114, 105, 99, 116]⟩]) (.int .i64 0)).run Tryd.prog w = .ok (.string ⟨#[110, 111, 110, 101]⟩) w := fun _ => by kernel_rfl
  have i1 : ∀ w : World, (Instr.index 26 (.agg #[.string ⟨#[110, 111, 110, 101]⟩, .string ⟨#[112, 108, 49]⟩, .string ⟨#[112, 108, 50]⟩, .string ⟨#[112, 108, 50, 112, 108, 117, 115]⟩, .string ⟨#[112, 108, 51]⟩, .string ⟨#[115, 116, 114, 105, 99, 116]⟩]) (.int .i64 1)).run Tryd.prog w = .ok (.string ⟨#[112, 108, 49]⟩) w := fun _ => by kernel_rfl
  have i2 : ∀ w : World, (Instr.index 26 (.agg #[.string ⟨#[110, 111, 110, 101]⟩, .string ⟨#[112, 108, 49]⟩, .string ⟨#[112, 108, 50]⟩, .string ⟨#[112, 108, 50, 112, 108, 117, 115]⟩, .string ⟨#[112, 108, 51]⟩, .string ⟨#[115, 116, 114, 105, 99, 116]⟩]) (.int .i64 2)).run Tryd.prog w = .ok (.string ⟨#[112, 108, 50]⟩) w := fun _ => by kernel_rfl
  have i3 : ∀ w : World, (Instr.index 26 (.agg #[.string ⟨#[110, 111, 110, 101]⟩, .string ⟨#[112, 108, 49]⟩, .string ⟨#[112, 108, 50]⟩, .string ⟨#[112, 108, 50, 112, 108, 117, 115]⟩, .string ⟨#[112, 108, 51]⟩, .string ⟨#[115, 116, 114, 105, 99, 116]⟩]) (.int .i64 3)).run Tryd.prog w = .ok (.string ⟨#[112, 108, 50, 112, 108, 117, 115]⟩) w := fun _ => by kernel_rfl
  have i4 : ∀ w : World, (Instr.index 26 (.agg #[.string ⟨#[110, 111, 110, 101]⟩, .string ⟨#[112, 108, 49]⟩, .string ⟨#[112, 108, 50]⟩, .string ⟨#[112, 108, 50, 112, 108, 117, 115]⟩, .string ⟨#[112, 108, 51]⟩, .string ⟨#[115, 116, 114, 105, 99, 116]⟩]) (.int .i64 4)).run Tryd.prog w = .ok (.string ⟨#[112, 108, 51]⟩) w := fun _ => by kernel_rfl
  have i5 : ∀ w : World, (Instr.index 26 (.agg #[.string ⟨#[110, 111, 110, 101]⟩, .string ⟨#[112, 108, 49]⟩, .string ⟨#[112, 108, 50]⟩, .string ⟨#[112, 108, 50, 112, 108, 117, 115]⟩, .string ⟨#[112, 108, 51]⟩, .string ⟨#[115, 116, 114, 105, 99, 116]⟩]) (.int .i64 5)).run Tryd.prog w = .ok (.string ⟨#[115, 116, 114, 105, 99, 116]⟩) w := fun _ => by kernel_rfl
  have c0 : w.cell? ⟨0, 0, none⟩ = some (.string ⟨#[110, 111, 110, 101]⟩) := h 0 (by decide)
  have c1 : w.cell? ⟨0, 1, none⟩ = some (.string ⟨#[112, 108, 49]⟩) := h 1 (by decide)
  have c2 : w.cell? ⟨0, 2, none⟩ = some (.string ⟨#[112, 108, 50]⟩) := h 2 (by decide)
  have c3 : w.cell? ⟨0, 3, none⟩ = some (.string ⟨#[112, 108, 50, 112, 108, 117, 115]⟩) := h 3 (by decide)
  have c4 : w.cell? ⟨0, 4, none⟩ = some (.string ⟨#[112, 108, 51]⟩) := h 4 (by decide)
  have c5 : w.cell? ⟨0, 5, none⟩ = some (.string ⟨#[115, 116, 114, 105, 99, 116]⟩) := h 5 (by decide)
  clear h
  go_enter Tryd.func4, Tryd.ntmps4
  go_wp2
  go_rounds 3
  all_goals go_ret2
  all_goals exact ⟨rfl, rfl⟩
set_option maxHeartbeats 4000000 in
theorem of_2 (w : World) (h : Names w) : Calls Tryd.prog 4 #[.string ⟨#[112, 108, 50]⟩] w fun e w' => e = .returned (.tuple #[.int .i64 2, .bool true]) ∧ w = w' := by
  have i0 : ∀ w : World, (Instr.index 26 (.agg #[.string ⟨#[110, 111, 110, 101]⟩, .string ⟨#[112, 108, 49]⟩, .string ⟨#[112, 108, 50]⟩, .string ⟨#[112, 108, 50, 112, 108, 117, 115]⟩, .string ⟨#[112, 108, 51]⟩, .string ⟨#[115, 116, 114, 105, 99, 116]⟩]) (.int .i64 0)).run Tryd.prog w = .ok (.string ⟨#[110, 111, 110, 101]⟩) w := fun _ => by kernel_rfl
  have i1 : ∀ w : World, (Instr.index 26 (.agg #[.string ⟨#[110, 111, 110, 101]⟩, .string ⟨#[112, 108, 49]⟩, .string ⟨#[112, 108, 50]⟩, .string ⟨#[112, 108, 50, 112, 108, 117, 115]⟩, .string ⟨#[112, 108, 51]⟩, .string ⟨#[115, 116, 114, 105, 99, 116]⟩]) (.int .i64 1)).run Tryd.prog w = .ok (.string ⟨#[112, 108, 49]⟩) w := fun _ => by kernel_rfl
  have i2 : ∀ w : World, (Instr.index 26 (.agg #[.string ⟨#[110, 111, 110, 101]⟩, .string ⟨#[112, 108, 49]⟩, .string ⟨#[112, 108, 50]⟩, .string ⟨#[112, 108, 50, 112, 108, 117, 115]⟩, .string ⟨#[112, 108, 51]⟩, .string ⟨#[115, 116, 114, 105, 99, 116]⟩]) (.int .i64 2)).run Tryd.prog w = .ok (.string ⟨#[112, 108, 50]⟩) w := fun _ => by kernel_rfl
  have i3 : ∀ w : World, (Instr.index 26 (.agg #[.string ⟨#[110, 111, 110, 101]⟩, .string ⟨#[112, 108, 49]⟩, .string ⟨#[112, 108, 50]⟩, .string ⟨#[112, 108, 50, 112, 108, 117, 115]⟩, .string ⟨#[112, 108, 51]⟩, .string ⟨#[115, 116, 114, 105, 99, 116]⟩]) (.int .i64 3)).run Tryd.prog w = .ok (.string ⟨#[112, 108, 50, 112, 108, 117, 115]⟩) w := fun _ => by kernel_rfl
  have i4 : ∀ w : World, (Instr.index 26 (.agg #[.string ⟨#[110, 111, 110, 101]⟩, .string ⟨#[112, 108, 49]⟩, .string ⟨#[112, 108, 50]⟩, .string ⟨#[112, 108, 50, 112, 108, 117, 115]⟩, .string ⟨#[112, 108, 51]⟩, .string ⟨#[115, 116, 114, 105, 99, 116]⟩]) (.int .i64 4)).run Tryd.prog w = .ok (.string ⟨#[112, 108, 51]⟩) w := fun _ => by kernel_rfl
  have i5 : ∀ w : World, (Instr.index 26 (.agg #[.string ⟨#[110, 111, 110, 101]⟩, .string ⟨#[112, 108, 49]⟩, .string ⟨#[112, 108, 50]⟩, .string ⟨#[112, 108, 50, 112, 108, 117, 115]⟩, .string ⟨#[112, 108, 51]⟩, .string ⟨#[115, 116, 114, 105, 99, 116]⟩]) (.int .i64 5)).run Tryd.prog w = .ok (.string ⟨#[115, 116, 114, 105, 99, 116]⟩) w := fun _ => by kernel_rfl
  have c0 : w.cell? ⟨0, 0, none⟩ = some (.string ⟨#[110, 111, 110, 101]⟩) := h 0 (by decide)
  have c1 : w.cell? ⟨0, 1, none⟩ = some (.string ⟨#[112, 108, 49]⟩) := h 1 (by decide)
  have c2 : w.cell? ⟨0, 2, none⟩ = some (.string ⟨#[112, 108, 50]⟩) := h 2 (by decide)
  have c3 : w.cell? ⟨0, 3, none⟩ = some (.string ⟨#[112, 108, 50, 112, 108, 117, 115]⟩) := h 3 (by decide)
  have c4 : w.cell? ⟨0, 4, none⟩ = some (.string ⟨#[112, 108, 51]⟩) := h 4 (by decide)
  have c5 : w.cell? ⟨0, 5, none⟩ = some (.string ⟨#[115, 116, 114, 105, 99, 116]⟩) := h 5 (by decide)
  clear h
  go_enter Tryd.func4, Tryd.ntmps4
  go_wp2
  go_rounds 4
  all_goals go_ret2
  all_goals exact ⟨rfl, rfl⟩
set_option maxHeartbeats 4000000 in
theorem of_3 (w : World) (h : Names w) : Calls Tryd.prog 4 #[.string ⟨#[112, 108, 50, 112, 108, 117, 115]⟩] w fun e w' => e = .returned (.tuple #[.int .i64 3, .bool true]) ∧ w = w' := by
  have i0 : ∀ w : World, (Instr.index 26 (.agg #[.string ⟨#[110, 111, 110, 101]⟩, .string ⟨#[112, 108, 49]⟩, .string ⟨#[112, 108, 50]⟩, .string ⟨#[112, 108, 50, 112, 108, 117, 115]⟩, .string ⟨#[112, 108, 51]⟩, .string ⟨#[115, 116, 114, 105, 99, 116]⟩]) (.int .i64 0)).run Tryd.prog w = .ok (.string ⟨#[110, 111, 110, 101]⟩) w := fun _ => by kernel_rfl
  have i1 : ∀ w : World, (Instr.index 26 (.agg #[.string ⟨#[110, 111, 110, 101]⟩, .string ⟨#[112, 108, 49]⟩, .string ⟨#[112, 108, 50]⟩, .string ⟨#[112, 108, 50, 112, 108, 117, 115]⟩, .string ⟨#[112, 108, 51]⟩, .string ⟨#[115, 116, 114, 105, 99, 116]⟩]) (.int .i64 1)).run Tryd.prog w = .ok (.string ⟨#[112, 108, 49]⟩) w := fun _ => by kernel_rfl
  have i2 : ∀ w : World, (Instr.index 26 (.agg #[.string ⟨#[110, 111, 110, 101]⟩, .string ⟨#[112, 108, 49]⟩, .string ⟨#[112, 108, 50]⟩, .string ⟨#[112, 108, 50, 112, 108, 117, 115]⟩, .string ⟨#[112, 108, 51]⟩, .string ⟨#[115, 116, 114, 105, 99, 116]⟩]) (.int .i64 2)).run Tryd.prog w = .ok (.string ⟨#[112, 108, 50]⟩) w := fun _ => by kernel_rfl
  have i3 : ∀ w : World, (Instr.index 26 (.agg #[.string ⟨#[110, 111, 110, 101]⟩, .string ⟨#[112, 108, 49]⟩, .string ⟨#[112, 108, 50]⟩, .string ⟨#[112, 108, 50, 112, 108, 117, 115]⟩, .string ⟨#[112, 108, 51]⟩, .string ⟨#[115, 116, 114, 105, 99, 116]⟩]) (.int .i64 3)).run Tryd.prog w = .ok (.string ⟨#[112, 108, 50, 112, 108, 117, 115]⟩) w := fun _ => by kernel_rfl
  have i4 : ∀ w : World, (Instr.index 26 (.agg #[.string ⟨#[110, 111, 110, 101]⟩, .string ⟨#[112, 108, 49]⟩, .string ⟨#[112, 108, 50]⟩, .string ⟨#[112, 108, 50, 112, 108, 117, 115]⟩, .string ⟨#[112, 108, 51]⟩, .string ⟨#[115, 116, 114, 105, 99, 116]⟩]) (.int .i64 4)).run Tryd.prog w = .ok (.string ⟨#[112, 108, 51]⟩) w := fun _ => by kernel_rfl
  have i5 : ∀ w : World, (Instr.index 26 (.agg #[.string ⟨#[110, 111, 110, 101]⟩, .string ⟨#[112, 108, 49]⟩, .string ⟨#[112, 108, 50]⟩, .string ⟨#[112, 108, 50, 112, 108, 117, 115]⟩, .string ⟨#[112, 108, 51]⟩, .string ⟨#[115, 116, 114, 105, 99, 116]⟩]) (.int .i64 5)).run Tryd.prog w = .ok (.string ⟨#[115, 116, 114, 105, 99, 116]⟩) w := fun _ => by kernel_rfl
  have c0 : w.cell? ⟨0, 0, none⟩ = some (.string ⟨#[110, 111, 110, 101]⟩) := h 0 (by decide)
  have c1 : w.cell? ⟨0, 1, none⟩ = some (.string ⟨#[112, 108, 49]⟩) := h 1 (by decide)
  have c2 : w.cell? ⟨0, 2, none⟩ = some (.string ⟨#[112, 108, 50]⟩) := h 2 (by decide)
  have c3 : w.cell? ⟨0, 3, none⟩ = some (.string ⟨#[112, 108, 50, 112, 108, 117, 115]⟩) := h 3 (by decide)
  have c4 : w.cell? ⟨0, 4, none⟩ = some (.string ⟨#[112, 108, 51]⟩) := h 4 (by decide)
  have c5 : w.cell? ⟨0, 5, none⟩ = some (.string ⟨#[115, 116, 114, 105, 99, 116]⟩) := h 5 (by decide)
  clear h
  go_enter Tryd.func4, Tryd.ntmps4
  go_wp2
  go_rounds 5
  all_goals go_ret2
  all_goals exact ⟨rfl, rfl⟩
set_option maxHeartbeats 4000000 in
theorem of_4 (w : World) (h : Names w) : Calls Tryd.prog 4 #[.string ⟨#[112, 108, 51]⟩] w fun e w' => e = .returned (.tuple #[.int .i64 4, .bool true]) ∧ w = w' := by
  have i0 : ∀ w : World, (Instr.index 26 (.agg #[.string ⟨#[110, 111, 110, 101]⟩, .string ⟨#[112, 108, 49]⟩, .string ⟨#[112, 108, 50]⟩, .string ⟨#[112, 108, 50, 112, 108, 117, 115]⟩, .string ⟨#[112, 108, 51]⟩, .string ⟨#[115, 116, 114, 105, 99, 116]⟩]) (.int .i64 0)).run Tryd.prog w = .ok (.string ⟨#[110, 111, 110, 101]⟩) w := fun _ => by kernel_rfl
  have i1 : ∀ w : World, (Instr.index 26 (.agg #[.string ⟨#[110, 111, 110, 101]⟩, .string ⟨#[112, 108, 49]⟩, .string ⟨#[112, 108, 50]⟩, .string ⟨#[112, 108, 50, 112, 108, 117, 115]⟩, .string ⟨#[112, 108, 51]⟩, .string ⟨#[115, 116, 114, 105, 99, 116]⟩]) (.int .i64 1)).run Tryd.prog w = .ok (.string ⟨#[112, 108, 49]⟩) w := fun _ => by kernel_rfl
  have i2 : ∀ w : World, (Instr.index 26 (.agg #[.string ⟨#[110, 111, 110, 101]⟩, .string ⟨#[112, 108, 49]⟩, .string ⟨#[112, 108, 50]⟩, .string ⟨#[112, 108, 50, 112, 108, 117, 115]⟩, .string ⟨#[112, 108, 51]⟩, .string ⟨#[115, 116, 114, 105, 99, 116]⟩]) (.int .i64 2)).run Tryd.prog w = .ok (.string ⟨#[112, 108, 50]⟩) w := fun _ => by kernel_rfl
  have i3 : ∀ w : World, (Instr.index 26 (.agg #[.string ⟨#[110, 111, 110, 101]⟩, .string ⟨#[112, 108, 49]⟩, .string ⟨#[112, 108, 50]⟩, .string ⟨#[112, 108, 50, 112, 108, 117, 115]⟩, .string ⟨#[112, 108, 51]⟩, .string ⟨#[115, 116, 114, 105, 99, 116]⟩]) (.int .i64 3)).run Tryd.prog w = .ok (.string ⟨#[112, 108, 50, 112, 108, 117, 115]⟩) w := fun _ => by kernel_rfl
  have i4 : ∀ w : World, (Instr.index 26 (.agg #[.string ⟨#[110, 111, 110, 101]⟩, .string ⟨#[112, 108, 49]⟩, .string ⟨#[112, 108, 50]⟩, .string ⟨#[112, 108, 50, 112, 108, 117, 115]⟩, .string ⟨#[112, 108, 51]⟩, .string ⟨#[115, 116, 114, 105, 99, 116]⟩]) (.int .i64 4)).run Tryd.prog w = .ok (.string ⟨#[112, 108, 51]⟩) w := fun _ => by kernel_rfl
  have i5 : ∀ w : World, (Instr.index 26 (.agg #[.string ⟨#[110, 111, 110, 101]⟩, .string ⟨#[112, 108, 49]⟩, .string ⟨#[112, 108, 50]⟩, .string ⟨#[112, 108, 50, 112, 108, 117, 115]⟩, .string ⟨#[112, 108, 51]⟩, .string ⟨#[115, 116, 114, 105, 99, 116]⟩]) (.int .i64 5)).run Tryd.prog w = .ok (.string ⟨#[115, 116, 114, 105, 99, 116]⟩) w := fun _ => by kernel_rfl
  have c0 : w.cell? ⟨0, 0, none⟩ = some (.string ⟨#[110, 111, 110, 101]⟩) := h 0 (by decide)
  have c1 : w.cell? ⟨0, 1, none⟩ = some (.string ⟨#[112, 108, 49]⟩) := h 1 (by decide)
  have c2 : w.cell? ⟨0, 2, none⟩ = some (.string ⟨#[112, 108, 50]⟩) := h 2 (by decide)
  have c3 : w.cell? ⟨0, 3, none⟩ = some (.string ⟨#[112, 108, 50, 112, 108, 117, 115]⟩) := h 3 (by decide)
  have c4 : w.cell? ⟨0, 4, none⟩ = some (.string ⟨#[112, 108, 51]⟩) := h 4 (by decide)
  have c5 : w.cell? ⟨0, 5, none⟩ = some (.string ⟨#[115, 116, 114, 105, 99, 116]⟩) := h 5 (by decide)
  clear h
  go_enter Tryd.func4, Tryd.ntmps4
  go_wp2
  go_rounds 6
  all_goals go_ret2
  all_goals exact ⟨rfl, rfl⟩
set_option maxHeartbeats 4000000 in
theorem of_5 (w : World) (h : Names w) : Calls Tryd.prog 4 #[.string ⟨#[115, 116, 114, 105, 99, 116]⟩] w fun e w' => e = .returned (.tuple #[.int .i64 5, .bool true]) ∧ w = w' := by
  have i0 : ∀ w : World, (Instr.index 26 (.agg #[.string ⟨#[110, 111, 110, 101]⟩, .string ⟨#[112, 108, 49]⟩, .string ⟨#[112, 108, 50]⟩, .string ⟨#[112, 108, 50, 112, 108, 117, 115]⟩, .string ⟨#[112, 108, 51]⟩, .string ⟨#[115, 116, 114, 105, 99, 116]⟩]) (.int .i64 0)).run Tryd.prog w = .ok (.string ⟨#[110, 111, 110, 101]⟩) w := fun _ => by kernel_rfl
  have i1 : ∀ w : World, (Instr.index 26 (.agg #[.string ⟨#[110, 111, 110, 101]⟩, .string ⟨#[112, 108, 49]⟩, .string ⟨#[112, 108, 50]⟩, .string ⟨#[112, 108, 50, 112, 108, 117, 115]⟩, .string ⟨#[112, 108, 51]⟩, .string ⟨#[115, 116, 114, 105, 99, 116]⟩]) (.int .i64 1)).run Tryd.prog w = .ok (.string ⟨#[112, 108, 49]⟩) w := fun _ => by kernel_rfl
  have i2 : ∀ w : World, (Instr.index 26 (.agg #[.string ⟨#[110, 111, 110, 101]⟩, .string ⟨#[112, 108, 49]⟩, .string ⟨#[112, 108, 50]⟩, .string ⟨#[112, 108, 50, 112, 108, 117, 115]⟩, .string ⟨#[112, 108, 51]⟩, .string ⟨#[115, 116, 114, 105, 99, 116]⟩]) (.int .i64 2)).run Tryd.prog w = .ok (.string ⟨#[112, 108, 50]⟩) w := fun _ => by kernel_rfl
  have i3 : ∀ w : World, (Instr.index 26 (.agg #[.string ⟨#[110, 111, 110, 101]⟩, .string ⟨#[112, 108, 49]⟩, .string ⟨#[112, 108, 50]⟩, .string ⟨#[112, 108, 50, 112, 108, 117, 115]⟩, .string ⟨#[112, 108, 51]⟩, .string ⟨#[115, 116, 114, 105, 99, 116]⟩]) (.int .i64 3)).run Tryd.prog w = .ok (.string ⟨#[112, 108, 50, 112, 108, 117, 115]⟩) w := fun _ => by kernel_rfl
  have i4 : ∀ w : World, (Instr.index 26 (.agg #[.string ⟨#[110, 111, 110, 101]⟩, .string ⟨#[112, 108, 49]⟩, .string ⟨#[112, 108, 50]⟩, .string ⟨#[112, 108, 50, 112, 108, 117, 115]⟩, .string ⟨#[112, 108, 51]⟩, .string ⟨#[115, 116, 114, 105, 99, 116]⟩]) (.int .i64 4)).run Tryd.prog w = .ok (.string ⟨#[112, 108, 51]⟩) w := fun _ => by kernel_rfl
  have i5 : ∀ w : World, (Instr.index 26 (.agg #[.string ⟨#[110, 111, 110, 101]⟩, .string ⟨#[112, 108, 49]⟩, .string ⟨#[112, 108, 50]⟩, .string ⟨#[112, 108, 50, 112, 108, 117, 115]⟩, .string ⟨#[112, 108, 51]⟩, .string ⟨#[115, 116, 114, 105, 99, 116]⟩]) (.int .i64 5)).run Tryd.prog w = .ok (.string ⟨#[115, 116, 114, 105, 99, 116]⟩) w := fun _ => by kernel_rfl
  have c0 : w.cell? ⟨0, 0, none⟩ = some (.string ⟨#[110, 111, 110, 101]⟩) := h 0 (by decide)
  have c1 : w.cell? ⟨0, 1, none⟩ = some (.string ⟨#[112, 108, 49]⟩) := h 1 (by decide)
  have c2 : w.cell? ⟨0, 2, none⟩ = some (.string ⟨#[112, 108, 50]⟩) := h 2 (by decide)
  have c3 : w.cell? ⟨0, 3, none⟩ = some (.string ⟨#[112, 108, 50, 112, 108, 117, 115]⟩) := h 3 (by decide)
  have c4 : w.cell? ⟨0, 4, none⟩ = some (.string ⟨#[112, 108, 51]⟩) := h 4 (by decide)
  have c5 : w.cell? ⟨0, 5, none⟩ = some (.string ⟨#[115, 116, 114, 105, 99, 116]⟩) := h 5 (by decide)
  clear h
  go_enter Tryd.func4, Tryd.ntmps4
  go_wp2
  go_rounds 7
  all_goals go_ret2
  all_goals exact ⟨rfl, rfl⟩
set_option maxHeartbeats 4000000 in
theorem of_miss (s : ByteArray) (w : World) (h : Names w) (hm : ∀ k, k < 6 → s ≠ nmB k) : Calls Tryd.prog 4 #[.string s] w fun e w' => e = .returned (.tuple #[.int .i64 0, .bool false]) ∧ w = w' := by
  have i0 : ∀ w : World, (Instr.index 26 (.agg #[.string ⟨#[110, 111, 110, 101]⟩, .string ⟨#[112, 108, 49]⟩, .string ⟨#[112, 108, 50]⟩, .string ⟨#[112, 108, 50, 112, 108, 117, 115]⟩, .string ⟨#[112, 108, 51]⟩, .string ⟨#[115, 116, 114, 105, 99, 116]⟩]) (.int .i64 0)).run Tryd.prog w = .ok (.string ⟨#[110, 111, 110, 101]⟩) w := fun _ => by kernel_rfl
  have i1 : ∀ w : World, (Instr.index 26 (.agg #[.string ⟨#[110, 111, 110, 101]⟩, .string ⟨#[112, 108, 49]⟩, .string ⟨#[112, 108, 50]⟩, .string ⟨#[112, 108, 50, 112, 108, 117, 115]⟩, .string ⟨#[112, 108, 51]⟩, .string ⟨#[115, 116, 114, 105, 99, 116]⟩]) (.int .i64 1)).run Tryd.prog w = .ok (.string ⟨#[112, 108, 49]⟩) w := fun _ => by kernel_rfl
  have i2 : ∀ w : World, (Instr.index 26 (.agg #[.string ⟨#[110, 111, 110, 101]⟩, .string ⟨#[112, 108, 49]⟩, .string ⟨#[112, 108, 50]⟩, .string ⟨#[112, 108, 50, 112, 108, 117, 115]⟩, .string ⟨#[112, 108, 51]⟩, .string ⟨#[115, 116, 114, 105, 99, 116]⟩]) (.int .i64 2)).run Tryd.prog w = .ok (.string ⟨#[112, 108, 50]⟩) w := fun _ => by kernel_rfl
  have i3 : ∀ w : World, (Instr.index 26 (.agg #[.string ⟨#[110, 111, 110, 101]⟩, .string ⟨#[112, 108, 49]⟩, .string ⟨#[112, 108, 50]⟩, .string ⟨#[112, 108, 50, 112, 108, 117, 115]⟩, .string ⟨#[112, 108, 51]⟩, .string ⟨#[115, 116, 114, 105, 99, 116]⟩]) (.int .i64 3)).run Tryd.prog w = .ok (.string ⟨#[112, 108, 50, 112, 108, 117, 115]⟩) w := fun _ => by kernel_rfl
  have i4 : ∀ w : World, (Instr.index 26 (.agg #[.string ⟨#[110, 111, 110, 101]⟩, .string ⟨#[112, 108, 49]⟩, .string ⟨#[112, 108, 50]⟩, .string ⟨#[112, 108, 50, 112, 108, 117, 115]⟩, .string ⟨#[112, 108, 51]⟩, .string ⟨#[115, 116, 114, 105, 99, 116]⟩]) (.int .i64 4)).run Tryd.prog w = .ok (.string ⟨#[112, 108, 51]⟩) w := fun _ => by kernel_rfl
  have i5 : ∀ w : World, (Instr.index 26 (.agg #[.string ⟨#[110, 111, 110, 101]⟩, .string ⟨#[112, 108, 49]⟩, .string ⟨#[112, 108, 50]⟩, .string ⟨#[112, 108, 50, 112, 108, 117, 115]⟩, .string ⟨#[112, 108, 51]⟩, .string ⟨#[115, 116, 114, 105, 99, 116]⟩]) (.int .i64 5)).run Tryd.prog w = .ok (.string ⟨#[115, 116, 114, 105, 99, 116]⟩) w := fun _ => by kernel_rfl
  have c0 : w.cell? ⟨0, 0, none⟩ = some (.string ⟨#[110, 111, 110, 101]⟩) := h 0 (by decide)
  have c1 : w.cell? ⟨0, 1, none⟩ = some (.string ⟨#[112, 108, 49]⟩) := h 1 (by decide)
  have c2 : w.cell? ⟨0, 2, none⟩ = some (.string ⟨#[112, 108, 50]⟩) := h 2 (by decide)
  have c3 : w.cell? ⟨0, 3, none⟩ = some (.string ⟨#[112, 108, 50, 112, 108, 117, 115]⟩) := h 3 (by decide)
  have c4 : w.cell? ⟨0, 4, none⟩ = some (.string ⟨#[112, 108, 51]⟩) := h 4 (by decide)
  have c5 : w.cell? ⟨0, 5, none⟩ = some (.string ⟨#[115, 116, 114, 105, 99, 116]⟩) := h 5 (by decide)
  have n0 : (([110, 111, 110, 101] : List UInt8) == s.toList) = false := neq_lit [110, 111, 110, 101] s (fun e => hm 0 (by decide) e)
  have n1 : (([112, 108, 49] : List UInt8) == s.toList) = false := neq_lit [112, 108, 49] s (fun e => hm 1 (by decide) e)
  have n2 : (([112, 108, 50] : List UInt8) == s.toList) = false := neq_lit [112, 108, 50] s (fun e => hm 2 (by decide) e)
  have n3 : (([112, 108, 50, 112, 108, 117, 115] : List UInt8) == s.toList) = false := neq_lit [112, 108, 50, 112, 108, 117, 115] s (fun e => hm 3 (by decide) e)
  have n4 : (([112, 108, 51] : List UInt8) == s.toList) = false := neq_lit [112, 108, 51] s (fun e => hm 4 (by decide) e)
  have n5 : (([115, 116, 114, 105, 99, 116] : List UInt8) == s.toList) = false := neq_lit [115, 116, 114, 105, 99, 116] s (fun e => hm 5 (by decide) e)
  clear h hm
  go_enter Tryd.func4, Tryd.ntmps4
  go_wp2
  go_rounds 7
  all_goals go_ret2
  all_goals exact ⟨rfl, rfl⟩

/-- What Of tells. -/
def ofR (s : ByteArray) : Int := if s = nmB 0 then 0 else if s = nmB 1 then 1 else if s = nmB 2 then 2 else if s = nmB 3 then 3 else if s = nmB 4 then 4 else if s = nmB 5 then 5 else 0
def ofB (s : ByteArray) : Bool := decide (s = nmB 0 ∨ s = nmB 1 ∨ s = nmB 2 ∨ s = nmB 3 ∨ s = nmB 4 ∨ s = nmB 5)
theorem of_cases (s : ByteArray) : (∃ k, k < 6 ∧ s = nmB k ∧ ofR s = k ∧ ofB s = true) ∨ ((∀ k, k < 6 → s ≠ nmB k) ∧ ofR s = 0 ∧ ofB s = false) := by
  by_cases h : s = nmB 0 ∨ s = nmB 1 ∨ s = nmB 2 ∨ s = nmB 3 ∨ s = nmB 4 ∨ s = nmB 5
  · left
    rcases h with h | h | h | h | h | h
    · exact ⟨0, by decide, h, by subst h; decide +kernel, by subst h; decide +kernel⟩
    · exact ⟨1, by decide, h, by subst h; decide +kernel, by subst h; decide +kernel⟩
    · exact ⟨2, by decide, h, by subst h; decide +kernel, by subst h; decide +kernel⟩
    · exact ⟨3, by decide, h, by subst h; decide +kernel, by subst h; decide +kernel⟩
    · exact ⟨4, by decide, h, by subst h; decide +kernel, by subst h; decide +kernel⟩
    · exact ⟨5, by decide, h, by subst h; decide +kernel, by subst h; decide +kernel⟩
  · right
    have h' : ¬ s = nmB 0 ∧ ¬ s = nmB 1 ∧ ¬ s = nmB 2 ∧ ¬ s = nmB 3 ∧ ¬ s = nmB 4 ∧ ¬ s = nmB 5 := ⟨fun e => h (.inl e), fun e => h (.inr (.inl e)), fun e => h (.inr (.inr (.inl e))), fun e => h (.inr (.inr (.inr (.inl e)))), fun e => h (.inr (.inr (.inr (.inr (.inl e))))), fun e => h (.inr (.inr (.inr (.inr (.inr e)))))⟩
    refine ⟨fun k hk e => ?_, ?_, decide_eq_false h⟩
    · rcases (by omega : k = 0 ∨ k = 1 ∨ k = 2 ∨ k = 3 ∨ k = 4 ∨ k = 5) with rfl | rfl | rfl | rfl | rfl | rfl
      · exact h'.1 e
      · exact h'.2.1 e
      · exact h'.2.2.1 e
      · exact h'.2.2.2.1 e
      · exact h'.2.2.2.2.1 e
      · exact h'.2.2.2.2.2 e
    · unfold ofR
      rw [if_neg h'.1, if_neg h'.2.1, if_neg h'.2.2.1, if_neg h'.2.2.2.1, if_neg h'.2.2.2.2.1, if_neg h'.2.2.2.2.2]
theorem of_any (s : ByteArray) (w : World) (h : Names w) : Calls Tryd.prog 4 #[.string s] w fun e w' => e = .returned (.tuple #[.int .i64 (ofR s), .bool (ofB s)]) ∧ w = w' := by
  rcases of_cases s with ⟨k, hk, rfl, h1, h2⟩ | ⟨hm, h1, h2⟩
  · rw [h1, h2]
    rcases (by omega : k = 0 ∨ k = 1 ∨ k = 2 ∨ k = 3 ∨ k = 4 ∨ k = 5) with rfl | rfl | rfl | rfl | rfl | rfl
    · exact of_0 w h
    · exact of_1 w h
    · exact of_2 w h
    · exact of_3 w h
    · exact of_4 w h
    · exact of_5 w h
  · rw [h1, h2]
    exact of_miss s w h hm
/-- The document's names. -/
def sixO : Obj := .cells #[.string ⟨#[110, 111, 110, 101]⟩, .string ⟨#[112, 108, 49]⟩, .string ⟨#[112, 108, 50]⟩, .string ⟨#[112, 108, 50, 112, 108, 117, 115]⟩, .string ⟨#[112, 108, 51]⟩, .string ⟨#[115, 116, 114, 105, 99, 116]⟩] 9
theorem rnames_is (w : World) : Calls Tryd.prog 8 #[] w fun e w' => e = .returned (.slice (some ⟨w.heap.size, 0, none⟩) 6 6) ∧ w' = w.alloc (.cells #[.string ⟨#[110, 111, 110, 101]⟩, .string ⟨#[112, 108, 49]⟩, .string ⟨#[112, 108, 50]⟩, .string ⟨#[112, 108, 50, 112, 108, 117, 115]⟩, .string ⟨#[112, 108, 51]⟩, .string ⟨#[115, 116, 114, 105, 99, 116]⟩] 9) := by
  go_enter Tryd.func8, Tryd.ntmps8
  go_wp2
  go_ret
  exact ⟨rfl, rfl⟩
set_option maxHeartbeats 4000000 in
theorem rof_0 (w : World) : Calls Tryd.prog 5 #[.string ⟨#[110, 111, 110, 101]⟩] w fun e w' => e = .returned (.tuple #[.int .i64 0, .bool true]) ∧ Below w.heap.size w w' := by
  have hb : Hid (Below w.heap.size w (w.alloc (.cells #[.string ⟨#[110, 111, 110, 101]⟩, .string ⟨#[112, 108, 49]⟩, .string ⟨#[112, 108, 50]⟩, .string ⟨#[112, 108, 50, 112, 108, 117, 115]⟩, .string ⟨#[112, 108, 51]⟩, .string ⟨#[115, 116, 114, 105, 99, 116]⟩] 9))) := (Below.refl _ _).alloc (Nat.le_refl _) _
  go_enter Tryd.func5, Tryd.ntmps5
  go_wp2_with (go_at_call 8; refine (rnames_is _).mono ?_; rintro e w' ⟨rfl, rfl⟩)
  go_rounds 2
  all_goals go_ret2
  all_goals exact ⟨rfl, hb.out⟩
set_option maxHeartbeats 4000000 in
theorem rof_1 (w : World) : Calls Tryd.prog 5 #[.string ⟨#[112, 108, 49]⟩] w fun e w' => e = .returned (.tuple #[.int .i64 1, .bool true]) ∧ Below w.heap.size w w' := by
  have hb : Hid (Below w.heap.size w (w.alloc (.cells #[.string ⟨#[110, 111, 110, 101]⟩, .string ⟨#[112, 108, 49]⟩, .string ⟨#[112, 108, 50]⟩, .string ⟨#[112, 108, 50, 112, 108, 117, 115]⟩, .string ⟨#[112, 108, 51]⟩, .string ⟨#[115, 116, 114, 105, 99, 116]⟩] 9))) := (Below.refl _ _).alloc (Nat.le_refl _) _
  go_enter Tryd.func5, Tryd.ntmps5
  go_wp2_with (go_at_call 8; refine (rnames_is _).mono ?_; rintro e w' ⟨rfl, rfl⟩)
  go_rounds 3
  all_goals go_ret2
  all_goals exact ⟨rfl, hb.out⟩
set_option maxHeartbeats 4000000 in
theorem rof_2 (w : World) : Calls Tryd.prog 5 #[.string ⟨#[112, 108, 50]⟩] w fun e w' => e = .returned (.tuple #[.int .i64 2, .bool true]) ∧ Below w.heap.size w w' := by
  have hb : Hid (Below w.heap.size w (w.alloc (.cells #[.string ⟨#[110, 111, 110, 101]⟩, .string ⟨#[112, 108, 49]⟩, .string ⟨#[112, 108, 50]⟩, .string ⟨#[112, 108, 50, 112, 108, 117, 115]⟩, .string ⟨#[112, 108, 51]⟩, .string ⟨#[115, 116, 114, 105, 99, 116]⟩] 9))) := (Below.refl _ _).alloc (Nat.le_refl _) _
  go_enter Tryd.func5, Tryd.ntmps5
  go_wp2_with (go_at_call 8; refine (rnames_is _).mono ?_; rintro e w' ⟨rfl, rfl⟩)
  go_rounds 4
  all_goals go_ret2
  all_goals exact ⟨rfl, hb.out⟩
set_option maxHeartbeats 4000000 in
theorem rof_3 (w : World) : Calls Tryd.prog 5 #[.string ⟨#[112, 108, 50, 112, 108, 117, 115]⟩] w fun e w' => e = .returned (.tuple #[.int .i64 3, .bool true]) ∧ Below w.heap.size w w' := by
  have hb : Hid (Below w.heap.size w (w.alloc (.cells #[.string ⟨#[110, 111, 110, 101]⟩, .string ⟨#[112, 108, 49]⟩, .string ⟨#[112, 108, 50]⟩, .string ⟨#[112, 108, 50, 112, 108, 117, 115]⟩, .string ⟨#[112, 108, 51]⟩, .string ⟨#[115, 116, 114, 105, 99, 116]⟩] 9))) := (Below.refl _ _).alloc (Nat.le_refl _) _
  go_enter Tryd.func5, Tryd.ntmps5
  go_wp2_with (go_at_call 8; refine (rnames_is _).mono ?_; rintro e w' ⟨rfl, rfl⟩)
  go_rounds 5
  all_goals go_ret2
  all_goals exact ⟨rfl, hb.out⟩
set_option maxHeartbeats 4000000 in
theorem rof_4 (w : World) : Calls Tryd.prog 5 #[.string ⟨#[112, 108, 51]⟩] w fun e w' => e = .returned (.tuple #[.int .i64 4, .bool true]) ∧ Below w.heap.size w w' := by
  have hb : Hid (Below w.heap.size w (w.alloc (.cells #[.string ⟨#[110, 111, 110, 101]⟩, .string ⟨#[112, 108, 49]⟩, .string ⟨#[112, 108, 50]⟩, .string ⟨#[112, 108, 50, 112, 108, 117, 115]⟩, .string ⟨#[112, 108, 51]⟩, .string ⟨#[115, 116, 114, 105, 99, 116]⟩] 9))) := (Below.refl _ _).alloc (Nat.le_refl _) _
  go_enter Tryd.func5, Tryd.ntmps5
  go_wp2_with (go_at_call 8; refine (rnames_is _).mono ?_; rintro e w' ⟨rfl, rfl⟩)
  go_rounds 6
  all_goals go_ret2
  all_goals exact ⟨rfl, hb.out⟩
set_option maxHeartbeats 4000000 in
theorem rof_5 (w : World) : Calls Tryd.prog 5 #[.string ⟨#[115, 116, 114, 105, 99, 116]⟩] w fun e w' => e = .returned (.tuple #[.int .i64 5, .bool true]) ∧ Below w.heap.size w w' := by
  have hb : Hid (Below w.heap.size w (w.alloc (.cells #[.string ⟨#[110, 111, 110, 101]⟩, .string ⟨#[112, 108, 49]⟩, .string ⟨#[112, 108, 50]⟩, .string ⟨#[112, 108, 50, 112, 108, 117, 115]⟩, .string ⟨#[112, 108, 51]⟩, .string ⟨#[115, 116, 114, 105, 99, 116]⟩] 9))) := (Below.refl _ _).alloc (Nat.le_refl _) _
  go_enter Tryd.func5, Tryd.ntmps5
  go_wp2_with (go_at_call 8; refine (rnames_is _).mono ?_; rintro e w' ⟨rfl, rfl⟩)
  go_rounds 7
  all_goals go_ret2
  all_goals exact ⟨rfl, hb.out⟩
set_option maxHeartbeats 4000000 in
theorem rof_miss (s : ByteArray) (w : World) (hm : ∀ k, k < 6 → s ≠ nmB k) : Calls Tryd.prog 5 #[.string s] w fun e w' => e = .returned (.tuple #[.int .i64 0, .bool false]) ∧ Below w.heap.size w w' := by
  have hb : Hid (Below w.heap.size w (w.alloc (.cells #[.string ⟨#[110, 111, 110, 101]⟩, .string ⟨#[112, 108, 49]⟩, .string ⟨#[112, 108, 50]⟩, .string ⟨#[112, 108, 50, 112, 108, 117, 115]⟩, .string ⟨#[112, 108, 51]⟩, .string ⟨#[115, 116, 114, 105, 99, 116]⟩] 9))) := (Below.refl _ _).alloc (Nat.le_refl _) _
  have n0 : (([110, 111, 110, 101] : List UInt8) == s.toList) = false := neq_lit [110, 111, 110, 101] s (fun e => hm 0 (by decide) e)
  have n1 : (([112, 108, 49] : List UInt8) == s.toList) = false := neq_lit [112, 108, 49] s (fun e => hm 1 (by decide) e)
  have n2 : (([112, 108, 50] : List UInt8) == s.toList) = false := neq_lit [112, 108, 50] s (fun e => hm 2 (by decide) e)
  have n3 : (([112, 108, 50, 112, 108, 117, 115] : List UInt8) == s.toList) = false := neq_lit [112, 108, 50, 112, 108, 117, 115] s (fun e => hm 3 (by decide) e)
  have n4 : (([112, 108, 51] : List UInt8) == s.toList) = false := neq_lit [112, 108, 51] s (fun e => hm 4 (by decide) e)
  have n5 : (([115, 116, 114, 105, 99, 116] : List UInt8) == s.toList) = false := neq_lit [115, 116, 114, 105, 99, 116] s (fun e => hm 5 (by decide) e)
  clear hm
  go_enter Tryd.func5, Tryd.ntmps5
  go_wp2_with (go_at_call 8; refine (rnames_is _).mono ?_; rintro e w' ⟨rfl, rfl⟩)
  go_rounds 7
  all_goals go_ret2
  all_goals exact ⟨rfl, hb.out⟩
theorem rof_any (s : ByteArray) (w : World) : Calls Tryd.prog 5 #[.string s] w fun e w' => e = .returned (.tuple #[.int .i64 (ofR s), .bool (ofB s)]) ∧ Below w.heap.size w w' := by
  rcases of_cases s with ⟨k, hk, rfl, h1, h2⟩ | ⟨hm, h1, h2⟩
  · rw [h1, h2]
    rcases (by omega : k = 0 ∨ k = 1 ∨ k = 2 ∨ k = 3 ∨ k = 4 ∨ k = 5) with rfl | rfl | rfl | rfl | rfl | rfl
    · exact rof_0 w
    · exact rof_1 w
    · exact rof_2 w
    · exact rof_3 w
    · exact rof_4 w
    · exact rof_5 w
  · rw [h1, h2]
    exact rof_miss s w hm
/-- A level's name; empty: it is none. -/
def nameL (n : Int) : ByteArray := if 0 ≤ n ∧ n < 6 then nmB n.toNat else ⟨#[]⟩
theorem nameL_cases (n : Int) : (∃ k : Nat, k < 6 ∧ n = k ∧ nameL n = nmB k) ∨ ((n < 0 ∨ 5 < n) ∧ nameL n = ⟨#[]⟩) := by
  unfold nameL
  by_cases h : 0 ≤ n ∧ n < 6
  · rw [if_pos h]
    exact .inl ⟨n.toNat, by omega, by omega, rfl⟩
  · rw [if_neg h]
    exact .inr ⟨by omega, rfl⟩
theorem isLevel_yes (k : Nat) (hk : k < 6) (w : World) : Calls Tryd.prog 9 #[.int .i64 k] w fun e w' => e = .returned (.bool true) ∧ w = w' := by
  have h0 : (0 : Int) ≤ k := by omega
  have h6 : (k : Int) < 6 := by omega
  go_enter Tryd.func9, Tryd.ntmps9
  go_wp2
  go_ret
  exact ⟨rfl, rfl⟩
theorem isLevel_no (n : Int) (hn : n < 0 ∨ 5 < n) (w : World) : Calls Tryd.prog 9 #[.int .i64 n] w fun e w' => e = .returned (.bool false) ∧ w = w' := by
  by_cases h0 : 0 ≤ n
  · have h6 : ¬ n < 6 := by omega
    go_enter Tryd.func9, Tryd.ntmps9
    go_wp2
    go_ret
    exact ⟨rfl, rfl⟩
  · go_enter Tryd.func9, Tryd.ntmps9
    go_wp2
    go_ret
    exact ⟨rfl, rfl⟩
set_option maxHeartbeats 4000000 in
theorem name_any (n : Int) (w : World) (h : Names w) : Calls Tryd.prog 6 #[.int .i64 n] w fun e w' => e = .returned (.string (nameL n)) ∧ w = w' := by
  rcases nameL_cases n with ⟨k, hk, rfl, e⟩ | ⟨hn, e⟩
  · rw [e]
    have c := h k hk
    have h0 : (0 : Int) ≤ k := by omega
    have h6 : (k : Int) < 6 := by omega
    clear e h
    generalize nmB k = x at *
    go_enter Tryd.func6, Tryd.ntmps6
    go_wp2_with (go_at_call 9; refine (isLevel_yes k hk _).mono ?_; rintro e w' ⟨rfl, rfl⟩)
    go_ret
    exact ⟨rfl, rfl⟩
  · rw [e]
    clear e
    go_enter Tryd.func6, Tryd.ntmps6
    go_wp2_with (go_at_call 9; refine (isLevel_no n hn _).mono ?_; rintro e w' ⟨rfl, rfl⟩)
    go_ret
    exact ⟨rfl, rfl⟩
set_option maxHeartbeats 4000000 in
theorem rname_any (n : Int) (w : World) : Calls Tryd.prog 7 #[.int .i64 n] w fun e w' => e = .returned (.string (nameL n)) ∧ Below w.heap.size w w' := by
  rcases nameL_cases n with ⟨k, hk, rfl, e⟩ | ⟨hn, e⟩
  · rw [e]
    clear e
    have hb : Hid (Below w.heap.size w (w.alloc (.cells #[.string ⟨#[110, 111, 110, 101]⟩, .string ⟨#[112, 108, 49]⟩, .string ⟨#[112, 108, 50]⟩, .string ⟨#[112, 108, 50, 112, 108, 117, 115]⟩, .string ⟨#[112, 108, 51]⟩, .string ⟨#[115, 116, 114, 105, 99, 116]⟩] 9))) := (Below.refl _ _).alloc (Nat.le_refl _) _
    rcases (by omega : k = 0 ∨ k = 1 ∨ k = 2 ∨ k = 3 ∨ k = 4 ∨ k = 5) with rfl | rfl | rfl | rfl | rfl | rfl <;>
    (go_enter Tryd.func7, Tryd.ntmps7
     go_wp2_with (go_at_call 8; refine (rnames_is _).mono ?_; rintro e w' ⟨rfl, rfl⟩)
     go_ret
     exact ⟨rfl, hb.out⟩)
  · rw [e]
    clear e
    by_cases h0 : n < 0
    · go_enter Tryd.func7, Tryd.ntmps7
      go_wp2
      go_ret
      exact ⟨rfl, Below.refl _ _⟩
    · have h5 : n > 5 := by omega
      go_enter Tryd.func7, Tryd.ntmps7
      go_wp2
      go_ret
      exact ⟨rfl, Below.refl _ _⟩
theorem back_R (k : Nat) (hk : k < 6) : ofR (nameL k) = k := by
  rcases (by omega : k = 0 ∨ k = 1 ∨ k = 2 ∨ k = 3 ∨ k = 4 ∨ k = 5) with rfl | rfl | rfl | rfl | rfl | rfl <;> decide +kernel
theorem back_B (k : Nat) (hk : k < 6) : ofB (nameL k) = true := by
  rcases (by omega : k = 0 ∨ k = 1 ∨ k = 2 ∨ k = 3 ∨ k = 4 ∨ k = 5) with rfl | rfl | rfl | rfl | rfl | rfl <;> decide +kernel
theorem back_E (k : Nat) (hk : k < 6) : ((nameL k).toList == []) = false := by
  rw [Lib.toList_data]
  rcases (by omega : k = 0 ∨ k = 1 ∨ k = 2 ∨ k = 3 ∨ k = 4 ∨ k = 5) with rfl | rfl | rfl | rfl | rfl | rfl <;> decide +kernel
set_option maxHeartbeats 8000000 in
theorem names_walk (n : Int) (s : ByteArray) (w : World) (h : Names w) : Calls Tryd.prog 3 #[.int .i64 n, .string s] w fun e w' => e = .returned (.bool true) ∧ Below w.heap.size w w' := by
  have HN := hidN h
  clear h
  have hr : (ofR s != ofR s) = false := by simp
  have hb : (ofB s != ofB s) = false := by simp
  have hx : ((nameL n).toList == (nameL n).toList) = true := by simp
  go_enter Tryd.func3, Tryd.ntmps3
  go_wp2_with fail
  go_at_call 4
  refine (of_any s w HN.out).mono ?_
  rintro e w0 ⟨rfl, rfl⟩
  go_wp2_with fail
  go_at_call 5
  refine (rof_any s w).mono ?_
  rintro e w1 ⟨rfl, b1⟩
  have B1 := hidN b1
  have N1 := hidN (HN.out.later b1)
  clear b1
  generalize ofR s = r at *
  generalize ofB s = b at *
  go_wp2_with fail
  go_at_call 6
  refine (name_any n w1 N1.out).mono ?_
  rintro e w2 ⟨rfl, rfl⟩
  go_wp2_with fail
  go_at_call 7
  refine (rname_any n w1).mono ?_
  rintro e w3 ⟨rfl, b3⟩
  have B3 := hidN (B1.out.trans (b3.mono B1.out.size))
  have N3 := hidN (N1.out.later b3)
  clear b3 B1 N1
  generalize nameL n = x at *
  go_wp2_with fail
  go_loop [37] (fun t => ∃ k : Nat, k ≤ 6 ∧ t = .int .i64 k) (fun t => 6 - (intOf t).toNat)
  case atStart => exact ⟨0, by omega, rfl⟩
  case round =>
    obtain ⟨k, hk, rfl⟩ := hrel
    by_cases hlt : k < 6
    · have hlti : (k : Int) < 6 := by omega
      have hR : ofR (nameL k) = k := back_R k hlt
      have hB : ofB (nameL k) = true := back_B k hlt
      have hE : ((nameL k).toList == []) = false := back_E k hlt
      have hkk : ((k : Int) != (k : Int)) = false := by simp
      go_wp2_with (first | (go_at_call 6; refine (name_any _ _ N3.out).mono ?_; rintro e w' ⟨rfl, rfl⟩) | (go_at_call 4; refine (of_any _ _ N3.out).mono ?_; rintro e w' ⟨rfl, rfl⟩))
      go_round
      case rel => exact ⟨k + 1, by omega, by go_num⟩
      case measure => simp [intOf]; omega
    · have hlti : ¬ (k : Int) < 6 := by omega
      go_wp2_with fail
      go_ret
      exact ⟨rfl, B3.out⟩
end Go.Proofs.YtonmmeeigklapabDoor
