/-
  A set that no call made: walks of its methods, at nil and at a plain Set.
-/
import Derived.Test.YtbcegdiabnapkabDoorRows
import Derived.WalkKit
import Derived.ProofKit
import Derived.Deep.LoopGhost
import Derived.Deep.Draws
import Derived.Lib.SliceRun
import Derived.Lib.Walk
import Derived.Lib.Builder
import Derived.RegionTactic
import Derived.Deep.QuietTactic
import Derived.BigQuiet
namespace Go.Proofs.YtbcegdiabnapkabDoor
set_option linter.unusedVariables false
set_option linter.unusedSimpArgs false
open Go.RowKit

theorem hid {p : Prop} (h : p) : Hid p := h
theorem below_box (w : World) (o : Obj) : Below w.heap.size w (w.alloc o) := (Below.refl _ _).alloc (Nat.le_refl _) _
theorem below_drewN {B : Nat} {w w' : World} (h : Below B w w') (q : Nat) : Below B w (w'.drewN q) := ⟨h.os, h.tape, h.output, h.size, h.block⟩
theorem new_cells (w : World) (cs : Array Value) (t : TypeId) (j : Nat) : (w.alloc (.cells cs t)).cell? ⟨w.heap.size, j, none⟩ = cs[j]? := Lib.cell_of_heap (heap_alloc_new w _) j

/-- nil, or a Set that no call made. -/
def NoSet (w : World) (v : Value) : Prop := v = .pointer none ∨ ∃ b, v = .pointer (some ⟨b, 0, none⟩) ∧ w.cell? ⟨b, 0, none⟩ = some (.bool false)
theorem NoSet.later {w w' : World} {v : Value} (h : NoSet w v) (hb : Below w.heap.size w w') : NoSet w' v := by
  rcases h with h | ⟨b, h, c0⟩
  · exact .inl h
  · have hlt : b < w.heap.size := World.block_lt_of_cell? _ _ c0
    exact .inr ⟨b, h, (hb.cell (p := ⟨b, 0, none⟩) hlt).trans c0⟩
theorem NoSet.ptr {w : World} {v : Value} (h : NoSet w v) : ∃ p, v = .pointer p := by
  rcases h with h | ⟨b, h, c0⟩
  · exact ⟨_, h⟩
  · exact ⟨_, h⟩

theorem isMade_at (b : Nat) (m : Bool) (w : World) (h : w.cell? ⟨b, 0, none⟩ = some (.bool m)) : Calls Tryd.prog 28 #[.pointer (some ⟨b, 0, none⟩)] w fun e w' => e = .returned (.bool m) ∧ w = w' := by
  go_enter Tryd.func28, Tryd.ntmps28
  go_wp2
  go_ret
  exact ⟨rfl, rfl⟩
theorem isMade_no (v : Value) (w : World) (h : NoSet w v) : Calls Tryd.prog 28 #[v] w fun e w' => e = .returned (.bool false) ∧ w = w' := by
  rcases h with rfl | ⟨b, rfl, c0⟩
  · go_enter Tryd.func28, Tryd.ntmps28
    go_wp2
    go_ret
    exact ⟨rfl, rfl⟩
  · exact isMade_at b false w c0
theorem check_no (v : Value) (n : Int) (w : World) (h : NoSet w v) : Calls Tryd.prog 27 #[v, .int .i64 n] w fun e w' => e = .returned (.int .i64 2) ∧ w = w' := by
  obtain ⟨p, rfl⟩ := h.ptr
  have H := hid h
  clear h
  go_enter Tryd.func27, Tryd.ntmps27
  go_wp2_with (go_at_call 28; refine (isMade_no _ _ H.out).mono ?_; rintro e w' ⟨rfl, rfl⟩)
  go_ret
  exact ⟨rfl, rfl⟩
theorem add_no (v : Value) (n : Int) (w : World) (h : NoSet w v) : Calls Tryd.prog 20 #[v, .int .i64 n] w fun e w' => e = .returned (.int .i64 2) ∧ w = w' := by
  obtain ⟨p, rfl⟩ := h.ptr
  have H := hid h
  clear h
  go_enter Tryd.func20, Tryd.ntmps20
  go_wp2_with (go_at_call 27; refine (check_no _ _ _ H.out).mono ?_; rintro e w' ⟨rfl, rfl⟩)
  go_ret
  exact ⟨rfl, rfl⟩
theorem has_no (v : Value) (n : Int) (w : World) (h : NoSet w v) : Calls Tryd.prog 32 #[v, .int .i64 n] w fun e w' => e = .returned (.bool false) ∧ w = w' := by
  obtain ⟨p, rfl⟩ := h.ptr
  have H := hid h
  clear h
  go_enter Tryd.func32, Tryd.ntmps32
  go_wp2_with (go_at_call 27; refine (check_no _ _ _ H.out).mono ?_; rintro e w' ⟨rfl, rfl⟩)
  go_ret
  exact ⟨rfl, rfl⟩
theorem bound_no (v : Value) (w : World) (h : NoSet w v) : Calls Tryd.prog 22 #[v] w fun e w' => e = .returned (.int .i64 0) ∧ w = w' := by
  obtain ⟨p, rfl⟩ := h.ptr
  have H := hid h
  clear h
  go_enter Tryd.func22, Tryd.ntmps22
  go_wp2_with (go_at_call 28; refine (isMade_no _ _ H.out).mono ?_; rintro e w' ⟨rfl, rfl⟩)
  go_ret
  exact ⟨rfl, rfl⟩
theorem next_no (v : Value) (n : Int) (w : World) (h : NoSet w v) : Calls Tryd.prog 24 #[v, .int .i64 n] w fun e w' => e = .returned (.tuple #[.int .i64 0, .bool false]) ∧ w = w' := by
  obtain ⟨p, rfl⟩ := h.ptr
  have H := hid h
  clear h
  go_enter Tryd.func24, Tryd.ntmps24
  go_wp2_with (go_at_call 27; refine (check_no _ _ _ H.out).mono ?_; rintro e w' ⟨rfl, rfl⟩)
  all_goals
    go_ret2
    exact ⟨rfl, rfl⟩
theorem merge_no1 (v u f : Value) (w : World) (h : NoSet w v) : Calls Tryd.prog 29 #[v, u, f] w fun e w' => e = .returned (.tuple #[.bool false, .int .i64 2]) ∧ w = w' := by
  obtain ⟨p, rfl⟩ := h.ptr
  have H := hid h
  clear h
  go_enter Tryd.func29, Tryd.ntmps29
  go_wp2_with (go_at_call 28; refine (isMade_no _ _ H.out).mono ?_; rintro e w' ⟨rfl, rfl⟩)
  go_ret2
  exact ⟨rfl, rfl⟩
theorem merge_no2 (b : Nat) (u f : Value) (w : World) (hm : w.cell? ⟨b, 0, none⟩ = some (.bool true)) (h : NoSet w u) : Calls Tryd.prog 29 #[.pointer (some ⟨b, 0, none⟩), u, f] w fun e w' => e = .returned (.tuple #[.bool false, .int .i64 2]) ∧ w = w' := by
  obtain ⟨p, rfl⟩ := h.ptr
  have H := hid h
  clear h
  have HM := hid hm
  clear hm
  go_enter Tryd.func29, Tryd.ntmps29
  go_wp2_with fail
  refine (isMade_at _ _ _ HM.out).mono ?_
  rintro e w' ⟨rfl, rfl⟩
  go_wp2_with fail
  refine (isMade_no _ _ H.out).mono ?_
  rintro e w' ⟨rfl, rfl⟩
  go_wp2_with fail
  go_ret2
  exact ⟨rfl, rfl⟩
theorem or_no1 (v u : Value) (w : World) (h : NoSet w v) : Calls Tryd.prog 23 #[v, u] w fun e w' => e = .returned (.tuple #[.bool false, .int .i64 2]) ∧ w = w' := by
  obtain ⟨p, rfl⟩ := h.ptr
  have H := hid h
  clear h
  go_enter Tryd.func23, Tryd.ntmps23
  go_wp2_with (go_at_call 29; refine (merge_no1 _ _ _ _ H.out).mono ?_; rintro e w' ⟨rfl, rfl⟩)
  go_ret2
  exact ⟨rfl, rfl⟩
end Go.Proofs.YtbcegdiabnapkabDoor
