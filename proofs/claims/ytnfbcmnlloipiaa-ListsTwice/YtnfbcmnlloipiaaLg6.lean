/-
  fork: a read that does not begin the trace.
-/
import Derived.Test.YtnfbcmnlloipiaaEq
namespace Go.Proofs.Ytnfbcmnlloipiaa
set_option linter.unusedVariables false
set_option linter.unusedSimpArgs false
open Go.RowKit Go.Lib Go.Maps

set_option maxHeartbeats 4000000 in
set_option maxRecDepth 100000 in
theorem fork_no (kb ri rj ti : Nat) {S S' : Nat → Prop} (la ta : Option Addr) (lc tc : Nat) (xs ts : List Int) (w : World) (h : IntsIn S w (.slice la xs.length lc) xs) (ht : IntsIn S' w (.slice ta ts.length tc) ts) (hle : xs.length ≤ ts.length) (h2 : w.cell? ⟨kb, 2, none⟩ = some (.int .i64 ti)) (h4 : w.cell? ⟨kb, 4, none⟩ = some (.slice ta ts.length tc)) (hq : xs = ts.take xs.length) : Calls Try.prog 74 #[.pointer (some ⟨kb, 0, none⟩), .agg #[.int .i64 ri, .int .i64 rj, .slice la xs.length lc]] w fun e w' => e = .returned (.tuple #[an0, .bool false]) ∧ Below w.heap.size w w' := by
  obtain ⟨W, hW⟩ : ∃ W, (w.alloc (.cells #[.int .i64 ri, .int .i64 rj, .slice la xs.length lc] 77)).alloc (.cells #[.int .i64 0, .int .i64 0, .int .i64 0, .int .i64 0, .string ⟨#[]⟩, .int .i64 0, .slice none 0 0, .bool false, .int .i64 0] 85) = W := ⟨_, rfl⟩
  have BW : Hid (Below w.heap.size w W) := by rw [← hW]; exact (below_box w _).alloc (by rw [alloc_size]; omega) _
  have e1 : (w.alloc (.cells #[.int .i64 ri, .int .i64 rj, .slice la xs.length lc] 77)).heap.size = w.heap.size + 1 := by rw [alloc_size]
  have eW : W.heap.size = w.heap.size + 2 := by rw [← hW, alloc_size, e1]
  have x2 : W.cell? ⟨w.heap.size, 2, none⟩ = some (.slice la xs.length lc) := by
    rw [← hW]
    exact Lib.cell?_alloc_some _ (new_cells w _ 77 2)
  have zc : ∀ i, W.cell? ⟨w.heap.size + 1, i, none⟩ = (#[.int .i64 0, .int .i64 0, .int .i64 0, .int .i64 0, .string ⟨#[]⟩, .int .i64 0, .slice none 0 0, .bool false, .int .i64 0] : Array Value)[i]? := fun i => by
    rw [← hW, ← e1]
    exact new_cells _ _ 85 i
  have zf : ∀ i, W.frozen? ⟨w.heap.size + 1, i, none⟩ = false := fun i => by
    rw [← hW, ← e1]
    exact Lib.frozen_of_heap (heap_alloc_new _ _) i
  have c2 := (BW.out.cell (p := ⟨kb, 2, none⟩) (World.block_lt_of_cell? _ _ h2)).trans h2
  have c4 := (BW.out.cell (p := ⟨kb, 4, none⟩) (World.block_lt_of_cell? _ _ h4)).trans h4
  have y0 : W.cell? ⟨w.heap.size + 1, 0, none⟩ = some (.int .i64 0) := zc 0
  have y1 : W.cell? ⟨w.heap.size + 1, 1, none⟩ = some (.int .i64 0) := zc 1
  have y2 : W.cell? ⟨w.heap.size + 1, 2, none⟩ = some (.int .i64 0) := zc 2
  have y3 : W.cell? ⟨w.heap.size + 1, 3, none⟩ = some (.int .i64 0) := zc 3
  have y4 : W.cell? ⟨w.heap.size + 1, 4, none⟩ = some (.string ⟨#[]⟩) := zc 4
  have y5 : W.cell? ⟨w.heap.size + 1, 5, none⟩ = some (.int .i64 0) := zc 5
  have y6 : W.cell? ⟨w.heap.size + 1, 6, none⟩ = some (.slice none 0 0) := zc 6
  have y7 : W.cell? ⟨w.heap.size + 1, 7, none⟩ = some (.bool false) := zc 7
  have y8 : W.cell? ⟨w.heap.size + 1, 8, none⟩ = some (.int .i64 0) := zc 8
  obtain ⟨a1, c1, hv1, ⟨hb1, _⟩, k1⟩ := IntsIn.cells h
  obtain ⟨a2, c2', hv2, ⟨hb2, htc⟩, k2⟩ := IntsIn.cells ht
  cases hv1
  cases hv2
  have EQ : Hid (∀ n, Calls Try.prog 17 #[.slice la xs.length lc, .slice ta xs.length tc] (W.drewN n) fun e w'' => e = .returned (.bool (decide (xs = ts.take xs.length))) ∧ ∃ m, w'' = W.drewN m) := fun n => by
    have k1' : IntCells (W.drewN n) la xs xs.length := k1.later (below_drewN BW.out n)
    have k2' : IntCells (W.drewN n) ta (ts.take xs.length) xs.length := fun j hj => by
      obtain ⟨b, o, hao, hc⟩ := k2.later (below_drewN BW.out n) j (by omega)
      refine ⟨b, o, hao, hc.trans ?_⟩
      simp [List.getD, List.getElem?_take, hj]
    refine (slicesEqual_cells la ta lc tc xs.length xs.length xs (ts.take xs.length) (W.drewN n) rfl (by rw [List.length_take]; omega) (by omega) k1' k2').mono ?_
    rintro e w' ⟨he, q, hw'⟩
    exact ⟨he, _, hw'.trans (drew_drew W n q)⟩
  have EB : decide (xs = ts.take xs.length) = true := decide_eq_true hq
  rw [EB] at EQ
  have hli : (xs.length : Int) ≤ ts.length := by omega
  have hlc : (xs.length : Int) ≤ tc := by omega
  have hln : xs.length ≤ tc := by omega
  clear zc h ht h2 h4 hq k1 k2 EB
  go_enter Try.func74, Try.ntmps74
  go_wp2_with fail
  clear hW
  go_quiet ((go_at_call 17; exact EQ.out _))
  have q0 : (W.drewN nq).cell? ⟨w.heap.size + 1, 0, none⟩ = _ := y0
  have q1 : (W.drewN nq).cell? ⟨w.heap.size + 1, 1, none⟩ = _ := y1
  have q2 : (W.drewN nq).cell? ⟨w.heap.size + 1, 2, none⟩ = _ := y2
  have q3 : (W.drewN nq).cell? ⟨w.heap.size + 1, 3, none⟩ = _ := y3
  have q4 : (W.drewN nq).cell? ⟨w.heap.size + 1, 4, none⟩ = _ := y4
  have q5 : (W.drewN nq).cell? ⟨w.heap.size + 1, 5, none⟩ = _ := y5
  have q6 : (W.drewN nq).cell? ⟨w.heap.size + 1, 6, none⟩ = _ := y6
  have q7 : (W.drewN nq).cell? ⟨w.heap.size + 1, 7, none⟩ = _ := y7
  have q8 : (W.drewN nq).cell? ⟨w.heap.size + 1, 8, none⟩ = _ := y8
  go_wp2_with fail
  rw [Tx.setCell_self q0, Tx.setCell_self q1, Tx.setCell_self q2, Tx.setCell_self q3, Tx.setCell_self q4, Tx.setCell_self q5, Tx.setCell_self q6, Tx.setCell_self q7, Tx.setCell_self q8]
  exact bodyPost_ret (v := .tuple #[an0, .bool false]) (by simp [results, Try.results74, go_sem, y0, y1, y2, y3, y4, y5, y6, y7, y8]) rfl ⟨rfl, below_drewN BW.out nq⟩
set_option maxHeartbeats 4000000 in
set_option maxRecDepth 100000 in
theorem fork_yes (kb ri rj ti : Nat) {S S' : Nat → Prop} (la ta : Option Addr) (lc tc : Nat) (xs ts : List Int) (w : World) (h : IntsIn S w (.slice la xs.length lc) xs) (ht : IntsIn S' w (.slice ta ts.length tc) ts) (hle : xs.length ≤ ts.length) (h2 : w.cell? ⟨kb, 2, none⟩ = some (.int .i64 ti)) (h4 : w.cell? ⟨kb, 4, none⟩ = some (.slice ta ts.length tc)) (hq : ¬ xs = ts.take xs.length) : Calls Try.prog 74 #[.pointer (some ⟨kb, 0, none⟩), .agg #[.int .i64 ri, .int .i64 rj, .slice la xs.length lc]] w fun e w' => e = .returned (.tuple #[anV 4 ti 0, .bool true]) ∧ Below w.heap.size w w' := by
  obtain ⟨W, hW⟩ : ∃ W, (w.alloc (.cells #[.int .i64 ri, .int .i64 rj, .slice la xs.length lc] 77)).alloc (.cells #[.int .i64 0, .int .i64 0, .int .i64 0, .int .i64 0, .string ⟨#[]⟩, .int .i64 0, .slice none 0 0, .bool false, .int .i64 0] 85) = W := ⟨_, rfl⟩
  have BW : Hid (Below w.heap.size w W) := by rw [← hW]; exact (below_box w _).alloc (by rw [alloc_size]; omega) _
  have e1 : (w.alloc (.cells #[.int .i64 ri, .int .i64 rj, .slice la xs.length lc] 77)).heap.size = w.heap.size + 1 := by rw [alloc_size]
  have eW : W.heap.size = w.heap.size + 2 := by rw [← hW, alloc_size, e1]
  have x2 : W.cell? ⟨w.heap.size, 2, none⟩ = some (.slice la xs.length lc) := by
    rw [← hW]
    exact Lib.cell?_alloc_some _ (new_cells w _ 77 2)
  have zc : ∀ i, W.cell? ⟨w.heap.size + 1, i, none⟩ = (#[.int .i64 0, .int .i64 0, .int .i64 0, .int .i64 0, .string ⟨#[]⟩, .int .i64 0, .slice none 0 0, .bool false, .int .i64 0] : Array Value)[i]? := fun i => by
    rw [← hW, ← e1]
    exact new_cells _ _ 85 i
  have zf : ∀ i, W.frozen? ⟨w.heap.size + 1, i, none⟩ = false := fun i => by
    rw [← hW, ← e1]
    exact Lib.frozen_of_heap (heap_alloc_new _ _) i
  have c2 := (BW.out.cell (p := ⟨kb, 2, none⟩) (World.block_lt_of_cell? _ _ h2)).trans h2
  have c4 := (BW.out.cell (p := ⟨kb, 4, none⟩) (World.block_lt_of_cell? _ _ h4)).trans h4
  have y0 : W.cell? ⟨w.heap.size + 1, 0, none⟩ = some (.int .i64 0) := zc 0
  have y1 : W.cell? ⟨w.heap.size + 1, 1, none⟩ = some (.int .i64 0) := zc 1
  have y2 : W.cell? ⟨w.heap.size + 1, 2, none⟩ = some (.int .i64 0) := zc 2
  have y3 : W.cell? ⟨w.heap.size + 1, 3, none⟩ = some (.int .i64 0) := zc 3
  have y4 : W.cell? ⟨w.heap.size + 1, 4, none⟩ = some (.string ⟨#[]⟩) := zc 4
  have y5 : W.cell? ⟨w.heap.size + 1, 5, none⟩ = some (.int .i64 0) := zc 5
  have y6 : W.cell? ⟨w.heap.size + 1, 6, none⟩ = some (.slice none 0 0) := zc 6
  have y7 : W.cell? ⟨w.heap.size + 1, 7, none⟩ = some (.bool false) := zc 7
  have y8 : W.cell? ⟨w.heap.size + 1, 8, none⟩ = some (.int .i64 0) := zc 8
  obtain ⟨a1, c1, hv1, ⟨hb1, _⟩, k1⟩ := IntsIn.cells h
  obtain ⟨a2, c2', hv2, ⟨hb2, htc⟩, k2⟩ := IntsIn.cells ht
  cases hv1
  cases hv2
  have EQ : Hid (∀ n, Calls Try.prog 17 #[.slice la xs.length lc, .slice ta xs.length tc] (W.drewN n) fun e w'' => e = .returned (.bool (decide (xs = ts.take xs.length))) ∧ ∃ m, w'' = W.drewN m) := fun n => by
    have k1' : IntCells (W.drewN n) la xs xs.length := k1.later (below_drewN BW.out n)
    have k2' : IntCells (W.drewN n) ta (ts.take xs.length) xs.length := fun j hj => by
      obtain ⟨b, o, hao, hc⟩ := k2.later (below_drewN BW.out n) j (by omega)
      refine ⟨b, o, hao, hc.trans ?_⟩
      simp [List.getD, List.getElem?_take, hj]
    refine (slicesEqual_cells la ta lc tc xs.length xs.length xs (ts.take xs.length) (W.drewN n) rfl (by rw [List.length_take]; omega) (by omega) k1' k2').mono ?_
    rintro e w' ⟨he, q, hw'⟩
    exact ⟨he, _, hw'.trans (drew_drew W n q)⟩
  have EB : decide (xs = ts.take xs.length) = false := decide_eq_false hq
  rw [EB] at EQ
  have hli : (xs.length : Int) ≤ ts.length := by omega
  have hlc : (xs.length : Int) ≤ tc := by omega
  have hln : xs.length ≤ tc := by omega
  clear zc h ht h2 h4 hq k1 k2 EB
  go_enter Try.func74, Try.ntmps74
  go_wp2_with fail
  clear hW
  go_quiet ((go_at_call 17; exact EQ.out _))
  have hge : w.heap.size ≤ w.heap.size + 1 := by omega
  go_wp2_with fail
  refine bodyPost_ret (v := .tuple #[anV 4 ti 0, .bool true]) (by simp [results, Try.results74, go_sem, y0, y1, y2, y3, y4, y5, y6, y7, y8]) rfl ⟨rfl, ?_⟩
  exact ((((((((((below_drewN BW.out nq).setCell hge _).setCell hge _).setCell hge _).setCell hge _).setCell hge _).setCell hge _).setCell hge _).setCell hge _).setCell hge _)
end Go.Proofs.Ytnfbcmnlloipiaa
