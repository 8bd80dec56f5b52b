/-
  lists at a table that nobody made: nil, or a plain one.
-/
import Derived.Test.YtnfbcmnlloipiaaTb0
import Derived.MapKept
namespace Go.Proofs.Ytnfbcmnlloipiaa
set_option linter.unusedVariables false
set_option linter.unusedSimpArgs false
open Go.RowKit Go.Lib Go.Maps

/-- nil, or a table whose map of kinds is nil. -/
def Nobody (w : World) (v : Value) : Prop := v = .pointer none ∨ ∃ b, v = .pointer (some ⟨b, 0, none⟩) ∧ w.cell? ⟨b, 2, none⟩ = some (.map none)
theorem Nobody.later {w w' : World} {v : Value} (h : Nobody w v) (hb : Below w.heap.size w w') : Nobody w' v := by
  rcases h with h | ⟨b, h, c2⟩
  · exact .inl h
  · exact .inr ⟨b, h, (hb.cell (p := ⟨b, 2, none⟩) (World.block_lt_of_cell? _ _ c2)).trans c2⟩
theorem lk_no (w : World) (s : ByteArray) : (Instr.lookup 60 (.map none) (.string s) false).run Try.prog w = .ok (.int .i64 0) w := by
  have h := Go.MapKept.run_checkKey (w := w) Try.underlying9 (k := .string s) (by trivial) true 9999
  simp [Instr.lookup, h, Instr.findKey, Instr.findNow, run_underlying Try.underlying60, run_underlying Try.underlying9, go_sem]
set_option maxRecDepth 100000 in
theorem kind_no (v : Value) (s : ByteArray) (w : World) (h : Nobody w v) : Calls Try.prog 65 #[v, .string s] w fun e w' => e = .returned (.int .i64 0) ∧ w = w' := by
  rcases h with rfl | ⟨b, rfl, c2⟩
  · go_enter Try.func65, Try.ntmps65
    go_wp2
    go_ret
    exact ⟨rfl, rfl⟩
  · have L := fun W => lk_no W s
    go_enter Try.func65, Try.ntmps65
    go_wp2
    go_ret
    exact ⟨rfl, rfl⟩
theorem new_cells (w : World) (cs : Array Value) (t : TypeId) (j : Nat) : (w.alloc (.cells cs t)).cell? ⟨w.heap.size, j, none⟩ = cs[j]? := Lib.cell_of_heap (heap_alloc_new w _) j
/-- What stands in a new block still stands behind a call. -/
theorem box_later {w w1 : World} {cs : Array Value} {t : TypeId} (b1 : Below (w.alloc (.cells cs t)).heap.size (w.alloc (.cells cs t)) w1) : w.heap.size < w1.heap.size ∧ (∀ i, w1.cell? ⟨w.heap.size, i, none⟩ = cs[i]?) ∧ (∀ i, w1.frozen? ⟨w.heap.size, i, none⟩ = false) ∧ Below w.heap.size w w1 := by
  have hs := b1.size
  rw [alloc_size] at hs
  have hlt : w.heap.size < (w.alloc (.cells cs t)).heap.size := by rw [alloc_size]; omega
  exact ⟨hs, fun i => (b1.cell (p := ⟨w.heap.size, i, none⟩) hlt).trans (new_cells w cs t i), fun i => (b1.frozen (p := ⟨w.heap.size, i, none⟩) hlt).trans (Lib.frozen_of_heap (heap_alloc_new w _) i), (below_box w _).trans (b1.mono (Nat.le_of_lt hlt))⟩
/-- A look that saw nothing. -/
abbrev noLook : Value := .agg #[.string ⟨#[]⟩, .slice none 0 0, .int .i64 0, .int .i64 0, .slice none 0 0, .map none]
set_option maxHeartbeats 2000000 in
set_option maxRecDepth 100000 in
theorem look_no (v : Value) (s : ByteArray) (w : World) (h : Nobody w v) : Calls Try.prog 41 #[v, .string s] w fun e w' => e = .returned (.tuple #[noLook, .bool false]) ∧ Below w.heap.size w w' := by
  have HN : ∀ o, Hid (Nobody (w.alloc o) v) := fun o => h.later (below_box w o)
  clear h
  go_enter Try.func41, Try.ntmps41
  go_wp2_with (go_at_call 65; refine (kind_no _ _ _ (HN _).out).mono ?_; rintro e w' ⟨rfl, rfl⟩)
  exact bodyPost_ret (v := .tuple #[noLook, .bool false]) (by simp [results, Try.results41, go_sem]) rfl ⟨rfl, below_box w _⟩
set_option maxHeartbeats 2000000 in
set_option maxRecDepth 100000 in
theorem trusted_no (v : Value) (s : ByteArray) (w : World) (h : Nobody w v) : Calls Try.prog 34 #[v, .string s] w fun e w' => e = .returned (.tuple #[noLook, .bool false]) ∧ Below w.heap.size w w' := by
  have HN : ∀ o, Hid (Nobody (w.alloc o) v) := fun o => h.later (below_box w o)
  clear h
  go_enter Try.func34, Try.ntmps34
  go_wp2_with (go_at_call 41; refine (look_no _ _ _ (HN _).out).mono ?_; rintro e w1 ⟨rfl, b1⟩; obtain ⟨hs1, c0, fz, b1⟩ := box_later b1; have B1 := hid b1; have y0 := c0 0; have y1 := c0 1; have y2 := c0 2; have y3 := c0 3; have y4 := c0 4; have y5 := c0 5; simp only [List.getElem?_toArray, List.getElem?_cons_zero, List.getElem?_cons_succ] at y0 y1 y2 y3 y4 y5; clear b1 c0 HN)
  rw [Tx.setCell_self y0, Tx.setCell_self y1, Tx.setCell_self y2, Tx.setCell_self y3, Tx.setCell_self y4, Tx.setCell_self y5]
  have al : ∀ (i : Nat) (u : Value), w1.cell? ⟨w.heap.size, i, none⟩ = some u → (w1.alloc (.cells #[.string ⟨#[]⟩, .slice none 0 0, .int .i64 0, .int .i64 0, .slice none 0 0, .map none] 80)).cell? ⟨w.heap.size, i, none⟩ = some u := fun i u h => Lib.cell?_alloc_some _ h
  have z0 := al 0 _ y0
  have z1 := al 1 _ y1
  have z2 := al 2 _ y2
  have z3 := al 3 _ y3
  have z4 := al 4 _ y4
  have z5 := al 5 _ y5
  exact bodyPost_ret (v := .tuple #[noLook, .bool false]) (by simp [results, Try.results34, go_sem, z0, z1, z2, z3, z4, z5]) rfl ⟨rfl, B1.out.trans ((below_box w1 _).mono B1.out.size)⟩
set_option maxHeartbeats 2000000 in
set_option maxRecDepth 100000 in
theorem trace_no (v : Value) (s : ByteArray) (w : World) (h : Nobody w v) : Calls Try.prog 12 #[v, .string s] w fun e w' => e = .returned (.tuple #[.slice none 0 0, .bool false]) ∧ Below w.heap.size w w' := by
  have HN := hid h
  clear h
  go_enter Try.func12, Try.ntmps12
  go_wp2_with (go_at_call 34; refine (trusted_no _ _ _ HN.out).mono ?_; rintro e w1 ⟨rfl, b1⟩; have B1 := hid b1; clear b1 HN)
  go_ret2
  exact ⟨rfl, B1.out.trans ((below_box w1 _).mono B1.out.size)⟩
set_option maxHeartbeats 2000000 in
set_option maxRecDepth 100000 in
theorem anom_no (v : Value) (s : ByteArray) (w : World) (h : Nobody w v) : Calls Try.prog 15 #[v, .string s] w fun e w' => e = .returned (.slice none 0 0) ∧ Below w.heap.size w w' := by
  have HN := hid h
  clear h
  go_enter Try.func15, Try.ntmps15
  go_wp2_with (go_at_call 41; refine (look_no _ _ _ HN.out).mono ?_; rintro e w1 ⟨rfl, b1⟩; have B1 := hid b1; clear b1 HN)
  go_ret
  exact ⟨rfl, B1.out.trans ((below_box w1 _).mono B1.out.size)⟩
set_option maxHeartbeats 2000000 in
set_option maxRecDepth 100000 in
theorem edges_no (v : Value) (s : ByteArray) (w : World) (h : Nobody w v) : Calls Try.prog 19 #[v, .string s] w fun e w' => e = .returned (.slice none 0 0) ∧ Below w.heap.size w w' := by
  have HN := hid h
  clear h
  go_enter Try.func19, Try.ntmps19
  go_wp2_with (go_at_call 34; refine (trusted_no _ _ _ HN.out).mono ?_; rintro e w1 ⟨rfl, b1⟩; have B1 := hid b1; clear b1 HN)
  go_ret
  exact ⟨rfl, B1.out.trans ((below_box w1 _).mono B1.out.size)⟩
end Go.Proofs.Ytnfbcmnlloipiaa
