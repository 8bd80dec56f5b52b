/-
  What fork says of an empty read.
-/
import Derived.Test.YtnfbcmnlloipiaaLs1
namespace Go.Proofs.Ytnfbcmnlloipiaa
set_option linter.unusedVariables false
set_option linter.unusedSimpArgs false
open Go.RowKit Go.Lib Go.Maps

set_option maxHeartbeats 2000000 in
set_option maxRecDepth 100000 in
theorem fork_0 (kb sb : Nat) (s : ByteArray) (rs : Value) (la : Option Addr) (lc : Nat) (w : World) (h : Lk w kb s rs sb) : Calls Try.prog 74 #[.pointer (some ⟨kb, 0, none⟩), rd0 la lc] w fun e w' => e = .returned (.tuple #[an0, .bool false]) ∧ Below w.heap.size w w' := by
  have c4 : ∀ o p, ((w.alloc o).alloc p).cell? ⟨kb, 4, none⟩ = some (.slice none 0 0) := fun o p => Lib.cell?_alloc_some _ (Lib.cell?_alloc_some _ h.c4)
  clear h
  go_enter Try.func74, Try.ntmps74
  go_wp2_with fail
  go_quiet ((go_at_call 17; exact Calls.quiet_of_same (eq_0 _ _ _ _ _)))
  obtain ⟨W, hW⟩ : ∃ W, ((w.alloc (.cells #[.int .i64 0, .int .i64 0, .slice la 0 lc] 77)).alloc (.cells #[.int .i64 0, .int .i64 0, .int .i64 0, .int .i64 0, .string ⟨#[]⟩, .int .i64 0, .slice none 0 0, .bool false, .int .i64 0] 85)).drewN nq = W := ⟨_, rfl⟩
  have hs : (w.alloc (.cells #[.int .i64 0, .int .i64 0, .slice la 0 lc] 77)).heap.size = w.heap.size + 1 := by rw [alloc_size]
  have BW : Hid (Below w.heap.size w W) := by rw [← hW]; exact below_drewN ((below_box w _).alloc (by rw [alloc_size]; omega) _) _
  have ce : ∀ i, W.cell? ⟨w.heap.size + 1, i, none⟩ = (#[.int .i64 0, .int .i64 0, .int .i64 0, .int .i64 0, .string ⟨#[]⟩, .int .i64 0, .slice none 0 0, .bool false, .int .i64 0] : Array Value)[i]? := fun i => by
    rw [← hW, ← hs]
    exact new_cells (w.alloc (.cells #[.int .i64 0, .int .i64 0, .slice la 0 lc] 77)) _ 85 i
  have fz : ∀ i, W.frozen? ⟨w.heap.size + 1, i, none⟩ = false := fun i => by
    rw [← hW, ← hs]
    exact Lib.frozen_of_heap (heap_alloc_new (w.alloc (.cells #[.int .i64 0, .int .i64 0, .slice la 0 lc] 77)) _) i
  have y0 : W.cell? ⟨w.heap.size + 1, 0, none⟩ = some (.int .i64 0) := ce 0
  have y1 : W.cell? ⟨w.heap.size + 1, 1, none⟩ = some (.int .i64 0) := ce 1
  have y2 : W.cell? ⟨w.heap.size + 1, 2, none⟩ = some (.int .i64 0) := ce 2
  have y3 : W.cell? ⟨w.heap.size + 1, 3, none⟩ = some (.int .i64 0) := ce 3
  have y4 : W.cell? ⟨w.heap.size + 1, 4, none⟩ = some (.string ⟨#[]⟩) := ce 4
  have y5 : W.cell? ⟨w.heap.size + 1, 5, none⟩ = some (.int .i64 0) := ce 5
  have y6 : W.cell? ⟨w.heap.size + 1, 6, none⟩ = some (.slice none 0 0) := ce 6
  have y7 : W.cell? ⟨w.heap.size + 1, 7, none⟩ = some (.bool false) := ce 7
  have y8 : W.cell? ⟨w.heap.size + 1, 8, none⟩ = some (.int .i64 0) := ce 8
  rw [hW]
  clear hW ce hs c4
  go_wp2_with fail
  rw [Tx.setCell_self y0, Tx.setCell_self y1, Tx.setCell_self y2, Tx.setCell_self y3, Tx.setCell_self y4, Tx.setCell_self y5, Tx.setCell_self y6, Tx.setCell_self y7, Tx.setCell_self y8]
  exact bodyPost_ret (v := .tuple #[an0, .bool false]) (by simp [results, Try.results74, go_sem, y0, y1, y2, y3, y4, y5, y6, y7, y8]) rfl ⟨rfl, BW.out⟩
end Go.Proofs.Ytnfbcmnlloipiaa
