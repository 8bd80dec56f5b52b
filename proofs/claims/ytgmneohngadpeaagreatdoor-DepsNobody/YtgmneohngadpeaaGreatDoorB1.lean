/-
  A set that no call made: walks of its methods, at nil and at a plain Set.
-/
import Derived.Test.YtgmneohngadpeaaGreatDoorRows
import Derived.WalkKit
import Derived.ProofKit
import Derived.Deep.LoopGhost
import Derived.Deep.Draws
import Derived.Lib.SliceRun
import Derived.Lib.Walk
import Derived.Lib.Builder
import Derived.RegionTactic
import Derived.Deep.QuietTactic
import Derived.BigQuiet
namespace Go.Proofs.YtgmneohngadpeaaGreatDoor
set_option linter.unusedVariables false
set_option linter.unusedSimpArgs false
open Go.RowKit

theorem hid {p : Prop} (h : p) : Hid p := h
theorem below_box (w : World) (o : Obj) : Below w.heap.size w (w.alloc o) := (Below.refl _ _).alloc (Nat.le_refl _) _
theorem below_drewN {B : Nat} {w w' : World} (h : Below B w w') (q : Nat) : Below B w (w'.drewN q) := ⟨h.os, h.tape, h.output, h.size, h.block⟩
theorem new_cells (w : World) (cs : Array Value) (t : TypeId) (j : Nat) : (w.alloc (.cells cs t)).cell? ⟨w.heap.size, j, none⟩ = cs[j]? := Lib.cell_of_heap (heap_alloc_new w _) j

/-- nil, or a Set that no call made. -/
def NoSet (w : World) (v : Value) : Prop := v = .pointer none ∨ ∃ b, v = .pointer (some ⟨b, 0, none⟩) ∧ w.cell? ⟨b, 0, none⟩ = some (.bool false)
theorem NoSet.later {w w' : World} {v : Value} (h : NoSet w v) (hb : Below w.heap.size w w') : NoSet w' v := by
  rcases h with h | ⟨b, h, c0⟩
  · exact .inl h
  · have hlt : b < w.heap.size := World.block_lt_of_cell? _ _ c0
    exact .inr ⟨b, h, (hb.cell (p := ⟨b, 0, none⟩) hlt).trans c0⟩
theorem NoSet.ptr {w : World} {v : Value} (h : NoSet w v) : ∃ p, v = .pointer p := by
  rcases h with h | ⟨b, h, c0⟩
  · exact ⟨_, h⟩
  · exact ⟨_, h⟩

theorem isMade_at (b : Nat) (m : Bool) (w : World) (h : w.cell? ⟨b, 0, none⟩ = some (.bool m)) : Calls Tryz.prog 87 #[.pointer (some ⟨b, 0, none⟩)] w fun e w' => e = .returned (.bool m) ∧ w = w' := by
  go_enter Tryz.func87, Tryz.ntmps87
  go_wp2
  go_ret
  exact ⟨rfl, rfl⟩
theorem isMade_no (v : Value) (w : World) (h : NoSet w v) : Calls Tryz.prog 87 #[v] w fun e w' => e = .returned (.bool false) ∧ w = w' := by
  rcases h with rfl | ⟨b, rfl, c0⟩
  · go_enter Tryz.func87, Tryz.ntmps87
    go_wp2
    go_ret
    exact ⟨rfl, rfl⟩
  · exact isMade_at b false w c0
theorem check_no (v : Value) (n : Int) (w : World) (h : NoSet w v) : Calls Tryz.prog 50 #[v, .int .i64 n] w fun e w' => e = .returned (.int .i64 2) ∧ w = w' := by
  obtain ⟨p, rfl⟩ := h.ptr
  have H := hid h
  clear h
  go_enter Tryz.func50, Tryz.ntmps50
  go_wp2_with (go_at_call 87; refine (isMade_no _ _ H.out).mono ?_; rintro e w' ⟨rfl, rfl⟩)
  go_ret
  exact ⟨rfl, rfl⟩
theorem add_no (v : Value) (n : Int) (w : World) (h : NoSet w v) : Calls Tryz.prog 30 #[v, .int .i64 n] w fun e w' => e = .returned (.int .i64 2) ∧ w = w' := by
  obtain ⟨p, rfl⟩ := h.ptr
  have H := hid h
  clear h
  go_enter Tryz.func30, Tryz.ntmps30
  go_wp2_with (go_at_call 50; refine (check_no _ _ _ H.out).mono ?_; rintro e w' ⟨rfl, rfl⟩)
  go_ret
  exact ⟨rfl, rfl⟩
theorem has_no (v : Value) (n : Int) (w : World) (h : NoSet w v) : Calls Tryz.prog 31 #[v, .int .i64 n] w fun e w' => e = .returned (.bool false) ∧ w = w' := by
  obtain ⟨p, rfl⟩ := h.ptr
  have H := hid h
  clear h
  go_enter Tryz.func31, Tryz.ntmps31
  go_wp2_with (go_at_call 50; refine (check_no _ _ _ H.out).mono ?_; rintro e w' ⟨rfl, rfl⟩)
  go_ret
  exact ⟨rfl, rfl⟩
theorem next_no (v : Value) (n : Int) (w : World) (h : NoSet w v) : Calls Tryz.prog 73 #[v, .int .i64 n] w fun e w' => e = .returned (.tuple #[.int .i64 0, .bool false]) ∧ w = w' := by
  obtain ⟨p, rfl⟩ := h.ptr
  have H := hid h
  clear h
  go_enter Tryz.func73, Tryz.ntmps73
  go_wp2_with (go_at_call 50; refine (check_no _ _ _ H.out).mono ?_; rintro e w' ⟨rfl, rfl⟩)
  all_goals
    go_ret2
    exact ⟨rfl, rfl⟩
theorem merge_no1 (v u f : Value) (w : World) (h : NoSet w v) : Calls Tryz.prog 133 #[v, u, f] w fun e w' => e = .returned (.tuple #[.bool false, .int .i64 2]) ∧ w = w' := by
  obtain ⟨p, rfl⟩ := h.ptr
  have H := hid h
  clear h
  go_enter Tryz.func133, Tryz.ntmps133
  go_wp2_with (go_at_call 87; refine (isMade_no _ _ H.out).mono ?_; rintro e w' ⟨rfl, rfl⟩)
  go_ret2
  exact ⟨rfl, rfl⟩
theorem merge_no2 (b : Nat) (u f : Value) (w : World) (hm : w.cell? ⟨b, 0, none⟩ = some (.bool true)) (h : NoSet w u) : Calls Tryz.prog 133 #[.pointer (some ⟨b, 0, none⟩), u, f] w fun e w' => e = .returned (.tuple #[.bool false, .int .i64 2]) ∧ w = w' := by
  obtain ⟨p, rfl⟩ := h.ptr
  have H := hid h
  clear h
  have HM := hid hm
  clear hm
  go_enter Tryz.func133, Tryz.ntmps133
  go_wp2_with fail
  refine (isMade_at _ _ _ HM.out).mono ?_
  rintro e w' ⟨rfl, rfl⟩
  go_wp2_with fail
  refine (isMade_no _ _ H.out).mono ?_
  rintro e w' ⟨rfl, rfl⟩
  go_wp2_with fail
  go_ret2
  exact ⟨rfl, rfl⟩
theorem or_no1 (v u : Value) (w : World) (h : NoSet w v) : Calls Tryz.prog 110 #[v, u] w fun e w' => e = .returned (.tuple #[.bool false, .int .i64 2]) ∧ w = w' := by
  obtain ⟨p, rfl⟩ := h.ptr
  have H := hid h
  clear h
  go_enter Tryz.func110, Tryz.ntmps110
  go_wp2_with (go_at_call 133; refine (merge_no1 _ _ _ _ H.out).mono ?_; rintro e w' ⟨rfl, rfl⟩)
  go_ret2
  exact ⟨rfl, rfl⟩
end Go.Proofs.YtgmneohngadpeaaGreatDoor
