/-
  middle: the read ends inside of what another transaction appended.
  slices.Equal of ints.
  fork: a read that does not begin the trace.
  Rows of anomalies; are they harmless?
  twice: a value that stood in the read before. A map that counts ints.
-/
import Derived.Test.YtnfbcmnlloipiaaV3
namespace Go.Proofs.Ytnfbcmnlloipiaa
set_option linter.unusedVariables false
set_option linter.unusedSimpArgs false
open Go.RowKit Go.Lib Go.Maps

theorem last_is {S : Nat → Prop} (v : Value) (xs : List Int) (w : World) (h : IntsIn S w v xs) (h0 : 0 < xs.length) : Calls Try.prog 78 #[v] w fun e w' => e = .returned (.tuple #[.int .i64 (xs.getD (xs.length - 1) default), .bool true]) ∧ w = w' := by
  obtain ⟨ao, c, rfl, ⟨hb, _⟩, hc⟩ := h
  obtain ⟨b, off, rfl, _, hcc⟩ := hc h0
  have v0 := hcc (xs.length - 1) (by omega)
  obtain ⟨m, hm⟩ : ∃ m, xs.length = m + 1 := ⟨xs.length - 1, by omega⟩
  obtain ⟨X, hX⟩ : ∃ X, xs.getD (xs.length - 1) default = X := ⟨_, rfl⟩
  rw [hX] at v0
  rw [hX]
  clear hX hc hcc
  rw [hm] at v0 hb ⊢
  rw [show m + 1 - 1 = m from rfl] at v0
  have n0 : ¬ (((m + 1 : Nat) : Int) = 0) := by omega
  have nb : ((((m + 1 : Nat) : Int)) == 0) = false := by simpa using n0
  clear hm
  go_enter Try.func78, Try.ntmps78
  go_wp2_with fail
  go_ret2
  exact ⟨rfl, rfl⟩
set_option maxHeartbeats 4000000 in
set_option maxRecDepth 100000 in
theorem middle_none (kb sb n ri rj : Nat) (f : Int → Option MSrc) {S : Nat → Prop} (la : Option Addr) (lc : Nat) (xs : List Int) (w : World) (h : IntsIn S w (.slice la xs.length lc) xs) (hw : ∀ x ∈ xs, (Lit.int .i64 x).wf = true) (h5 : w.cell? ⟨kb, 5, none⟩ = some (.map (some sb))) (hs : Sc w sb n f) (h0 : 0 < xs.length) (hfx : f (xs.getD (xs.length - 1) default) = none) : Calls Try.prog 73 #[.pointer (some ⟨kb, 0, none⟩), .agg #[.int .i64 ri, .int .i64 rj, .slice la xs.length lc]] w fun e w' => e = .returned (.tuple #[an0, .bool false]) ∧ Below w.heap.size w w' := by
  obtain ⟨W, hW⟩ : ∃ W, (w.alloc (.cells #[.int .i64 ri, .int .i64 rj, .slice la xs.length lc] 77)).alloc (.cells #[.int .i64 0, .int .i64 0, .int .i64 0, .int .i64 0, .string ⟨#[]⟩, .int .i64 0, .slice none 0 0, .bool false, .int .i64 0] 85) = W := ⟨_, rfl⟩
  have BW : Hid (Below w.heap.size w W) := by rw [← hW]; exact (below_box w _).alloc (by rw [alloc_size]; omega) _
  have e1 : (w.alloc (.cells #[.int .i64 ri, .int .i64 rj, .slice la xs.length lc] 77)).heap.size = w.heap.size + 1 := by rw [alloc_size]
  have eW : W.heap.size = w.heap.size + 2 := by rw [← hW, alloc_size, e1]
  have rr : ∀ i u, (#[.int .i64 ri, .int .i64 rj, .slice la xs.length lc] : Array Value)[i]? = some u → W.cell? ⟨w.heap.size, i, none⟩ = some u := fun i u hu => by
    rw [← hW]
    exact Lib.cell?_alloc_some _ ((new_cells w _ 77 i).trans hu)
  have x0 := rr 0 _ rfl
  have x2 := rr 2 _ rfl
  have zc : ∀ i, W.cell? ⟨w.heap.size + 1, i, none⟩ = (#[.int .i64 0, .int .i64 0, .int .i64 0, .int .i64 0, .string ⟨#[]⟩, .int .i64 0, .slice none 0 0, .bool false, .int .i64 0] : Array Value)[i]? := fun i => by
    rw [← hW, ← e1]
    exact new_cells _ _ 85 i
  have zf : ∀ i, W.frozen? ⟨w.heap.size + 1, i, none⟩ = false := fun i => by
    rw [← hW, ← e1]
    exact Lib.frozen_of_heap (heap_alloc_new _ _) i
  obtain ⟨F, hF, _⟩ := id hs
  have c5 := (BW.out.cell (p := ⟨kb, 5, none⟩) (World.block_lt_of_cell? _ _ h5)).trans h5
  have hx : (Lit.int .i64 (xs.getD (xs.length - 1) default)).wf = true := hw _ (by simp [List.getD, List.getElem?_eq_getElem (show xs.length - 1 < xs.length by omega)])
  have LK := (hs.same (BW.out.block sb hF.lt)).look_ok _ hx
  have IN : IntsIn S W (.slice la xs.length lc) xs := h.keep (keeps_below BW.out) (fun _ _ x => x)
  have LA := hid (last_is _ xs W IN h0)
  have a0 : ∀ o, (W.alloc o).cell? ⟨w.heap.size, 0, none⟩ = some (.int .i64 ri) := fun o => Lib.cell?_alloc_some _ x0
  have ac : ∀ o i u, (#[.int .i64 0, .int .i64 0, .int .i64 0, .int .i64 0, .string ⟨#[]⟩, .int .i64 0, .slice none 0 0, .bool false, .int .i64 0] : Array Value)[i]? = some u → (W.alloc o).cell? ⟨w.heap.size + 1, i, none⟩ = some u := fun o i u hu => Lib.cell?_alloc_some _ ((zc i).trans hu)
  have af : ∀ o i, (W.alloc o).frozen? ⟨w.heap.size + 1, i, none⟩ = false := fun o i => ((below_box W o).frozen (p := ⟨w.heap.size + 1, i, none⟩) (by show w.heap.size + 1 < W.heap.size; omega)).trans (zf i)
  have y0 : W.cell? ⟨w.heap.size + 1, 0, none⟩ = some (.int .i64 0) := zc 0
  have y1 : W.cell? ⟨w.heap.size + 1, 1, none⟩ = some (.int .i64 0) := zc 1
  have y2 : W.cell? ⟨w.heap.size + 1, 2, none⟩ = some (.int .i64 0) := zc 2
  have y3 : W.cell? ⟨w.heap.size + 1, 3, none⟩ = some (.int .i64 0) := zc 3
  have y4 : W.cell? ⟨w.heap.size + 1, 4, none⟩ = some (.string ⟨#[]⟩) := zc 4
  have y5 : W.cell? ⟨w.heap.size + 1, 5, none⟩ = some (.int .i64 0) := zc 5
  have y6 : W.cell? ⟨w.heap.size + 1, 6, none⟩ = some (.slice none 0 0) := zc 6
  have y7 : W.cell? ⟨w.heap.size + 1, 7, none⟩ = some (.bool false) := zc 7
  have y8 : W.cell? ⟨w.heap.size + 1, 8, none⟩ = some (.int .i64 0) := zc 8
  have hne : ¬ (w.heap.size = W.heap.size) := by omega
  have hne1 : ¬ (w.heap.size + 1 = W.heap.size) := by omega
  clear ac zc af a0 rr hF hs IN h5 h hw
  obtain ⟨X, hX⟩ : ∃ X, xs.getD (xs.length - 1) default = X := ⟨_, rfl⟩
  rw [hX] at LK LA hx hfx
  clear hX
  rw [hfx] at LK
  simp only [Option.getD, Option.isSome, srcV] at LK
  clear hfx
  go_enter Try.func73, Try.ntmps73
  go_wp2_with fail
  go_at_call 78
  refine LA.out.mono ?_
  rintro e w1 ⟨rfl, rfl⟩
  go_wp2_with fail
  rw [Tx.setCell_self y0, Tx.setCell_self y1, Tx.setCell_self y2, Tx.setCell_self y3, Tx.setCell_self y4, Tx.setCell_self y5, Tx.setCell_self y6, Tx.setCell_self y7, Tx.setCell_self y8]
  exact bodyPost_ret (v := .tuple #[an0, .bool false]) (by simp [results, Try.results73, go_sem, eW, y0, y1, y2, y3, y4, y5, y6, y7, y8]) rfl ⟨rfl, BW.out.trans ((below_box W _).mono BW.out.size)⟩
set_option maxHeartbeats 4000000 in
set_option maxRecDepth 100000 in
theorem middle_final (kb sb n ri rj : Nat) (f : Int → Option MSrc) {S : Nat → Prop} (la : Option Addr) (lc : Nat) (xs : List Int) (w : World) (h : IntsIn S w (.slice la xs.length lc) xs) (hw : ∀ x ∈ xs, (Lit.int .i64 x).wf = true) (h5 : w.cell? ⟨kb, 5, none⟩ = some (.map (some sb))) (hs : Sc w sb n f) (h0 : 0 < xs.length) (s1 s2 : Nat) (s3 : Bool) (hfx : f (xs.getD (xs.length - 1) default) = some (s1, s2, s3, true)) : Calls Try.prog 73 #[.pointer (some ⟨kb, 0, none⟩), .agg #[.int .i64 ri, .int .i64 rj, .slice la xs.length lc]] w fun e w' => e = .returned (.tuple #[an0, .bool false]) ∧ Below w.heap.size w w' := by
  obtain ⟨W, hW⟩ : ∃ W, (w.alloc (.cells #[.int .i64 ri, .int .i64 rj, .slice la xs.length lc] 77)).alloc (.cells #[.int .i64 0, .int .i64 0, .int .i64 0, .int .i64 0, .string ⟨#[]⟩, .int .i64 0, .slice none 0 0, .bool false, .int .i64 0] 85) = W := ⟨_, rfl⟩
  have BW : Hid (Below w.heap.size w W) := by rw [← hW]; exact (below_box w _).alloc (by rw [alloc_size]; omega) _
  have e1 : (w.alloc (.cells #[.int .i64 ri, .int .i64 rj, .slice la xs.length lc] 77)).heap.size = w.heap.size + 1 := by rw [alloc_size]
  have eW : W.heap.size = w.heap.size + 2 := by rw [← hW, alloc_size, e1]
  have rr : ∀ i u, (#[.int .i64 ri, .int .i64 rj, .slice la xs.length lc] : Array Value)[i]? = some u → W.cell? ⟨w.heap.size, i, none⟩ = some u := fun i u hu => by
    rw [← hW]
    exact Lib.cell?_alloc_some _ ((new_cells w _ 77 i).trans hu)
  have x0 := rr 0 _ rfl
  have x2 := rr 2 _ rfl
  have zc : ∀ i, W.cell? ⟨w.heap.size + 1, i, none⟩ = (#[.int .i64 0, .int .i64 0, .int .i64 0, .int .i64 0, .string ⟨#[]⟩, .int .i64 0, .slice none 0 0, .bool false, .int .i64 0] : Array Value)[i]? := fun i => by
    rw [← hW, ← e1]
    exact new_cells _ _ 85 i
  have zf : ∀ i, W.frozen? ⟨w.heap.size + 1, i, none⟩ = false := fun i => by
    rw [← hW, ← e1]
    exact Lib.frozen_of_heap (heap_alloc_new _ _) i
  obtain ⟨F, hF, _⟩ := id hs
  have c5 := (BW.out.cell (p := ⟨kb, 5, none⟩) (World.block_lt_of_cell? _ _ h5)).trans h5
  have hx : (Lit.int .i64 (xs.getD (xs.length - 1) default)).wf = true := hw _ (by simp [List.getD, List.getElem?_eq_getElem (show xs.length - 1 < xs.length by omega)])
  have LK := (hs.same (BW.out.block sb hF.lt)).look_ok _ hx
  have IN : IntsIn S W (.slice la xs.length lc) xs := h.keep (keeps_below BW.out) (fun _ _ x => x)
  have LA := hid (last_is _ xs W IN h0)
  have a0 : ∀ o, (W.alloc o).cell? ⟨w.heap.size, 0, none⟩ = some (.int .i64 ri) := fun o => Lib.cell?_alloc_some _ x0
  have ac : ∀ o i u, (#[.int .i64 0, .int .i64 0, .int .i64 0, .int .i64 0, .string ⟨#[]⟩, .int .i64 0, .slice none 0 0, .bool false, .int .i64 0] : Array Value)[i]? = some u → (W.alloc o).cell? ⟨w.heap.size + 1, i, none⟩ = some u := fun o i u hu => Lib.cell?_alloc_some _ ((zc i).trans hu)
  have af : ∀ o i, (W.alloc o).frozen? ⟨w.heap.size + 1, i, none⟩ = false := fun o i => ((below_box W o).frozen (p := ⟨w.heap.size + 1, i, none⟩) (by show w.heap.size + 1 < W.heap.size; omega)).trans (zf i)
  have y0 : W.cell? ⟨w.heap.size + 1, 0, none⟩ = some (.int .i64 0) := zc 0
  have y1 : W.cell? ⟨w.heap.size + 1, 1, none⟩ = some (.int .i64 0) := zc 1
  have y2 : W.cell? ⟨w.heap.size + 1, 2, none⟩ = some (.int .i64 0) := zc 2
  have y3 : W.cell? ⟨w.heap.size + 1, 3, none⟩ = some (.int .i64 0) := zc 3
  have y4 : W.cell? ⟨w.heap.size + 1, 4, none⟩ = some (.string ⟨#[]⟩) := zc 4
  have y5 : W.cell? ⟨w.heap.size + 1, 5, none⟩ = some (.int .i64 0) := zc 5
  have y6 : W.cell? ⟨w.heap.size + 1, 6, none⟩ = some (.slice none 0 0) := zc 6
  have y7 : W.cell? ⟨w.heap.size + 1, 7, none⟩ = some (.bool false) := zc 7
  have y8 : W.cell? ⟨w.heap.size + 1, 8, none⟩ = some (.int .i64 0) := zc 8
  have hne : ¬ (w.heap.size = W.heap.size) := by omega
  have hne1 : ¬ (w.heap.size + 1 = W.heap.size) := by omega
  clear ac zc af a0 rr hF hs IN h5 h hw
  obtain ⟨X, hX⟩ : ∃ X, xs.getD (xs.length - 1) default = X := ⟨_, rfl⟩
  rw [hX] at LK LA hx hfx
  clear hX
  rw [hfx] at LK
  simp only [Option.getD, Option.isSome, srcV] at LK
  clear hfx
  go_enter Try.func73, Try.ntmps73
  go_wp2_with fail
  go_at_call 78
  refine LA.out.mono ?_
  rintro e w1 ⟨rfl, rfl⟩
  go_wp2_with fail
  rw [Tx.setCell_self y0, Tx.setCell_self y1, Tx.setCell_self y2, Tx.setCell_self y3, Tx.setCell_self y4, Tx.setCell_self y5, Tx.setCell_self y6, Tx.setCell_self y7, Tx.setCell_self y8]
  exact bodyPost_ret (v := .tuple #[an0, .bool false]) (by simp [results, Try.results73, go_sem, eW, y0, y1, y2, y3, y4, y5, y6, y7, y8]) rfl ⟨rfl, BW.out.trans ((below_box W _).mono BW.out.size)⟩
set_option maxHeartbeats 4000000 in
set_option maxRecDepth 100000 in
theorem middle_same (kb sb n ri rj : Nat) (f : Int → Option MSrc) {S : Nat → Prop} (la : Option Addr) (lc : Nat) (xs : List Int) (w : World) (h : IntsIn S w (.slice la xs.length lc) xs) (hw : ∀ x ∈ xs, (Lit.int .i64 x).wf = true) (h5 : w.cell? ⟨kb, 5, none⟩ = some (.map (some sb))) (hs : Sc w sb n f) (h0 : 0 < xs.length) (s2 : Nat) (s3 : Bool) (hfx : f (xs.getD (xs.length - 1) default) = some (ri, s2, s3, false)) : Calls Try.prog 73 #[.pointer (some ⟨kb, 0, none⟩), .agg #[.int .i64 ri, .int .i64 rj, .slice la xs.length lc]] w fun e w' => e = .returned (.tuple #[an0, .bool false]) ∧ Below w.heap.size w w' := by
  obtain ⟨W, hW⟩ : ∃ W, (w.alloc (.cells #[.int .i64 ri, .int .i64 rj, .slice la xs.length lc] 77)).alloc (.cells #[.int .i64 0, .int .i64 0, .int .i64 0, .int .i64 0, .string ⟨#[]⟩, .int .i64 0, .slice none 0 0, .bool false, .int .i64 0] 85) = W := ⟨_, rfl⟩
  have BW : Hid (Below w.heap.size w W) := by rw [← hW]; exact (below_box w _).alloc (by rw [alloc_size]; omega) _
  have e1 : (w.alloc (.cells #[.int .i64 ri, .int .i64 rj, .slice la xs.length lc] 77)).heap.size = w.heap.size + 1 := by rw [alloc_size]
  have eW : W.heap.size = w.heap.size + 2 := by rw [← hW, alloc_size, e1]
  have rr : ∀ i u, (#[.int .i64 ri, .int .i64 rj, .slice la xs.length lc] : Array Value)[i]? = some u → W.cell? ⟨w.heap.size, i, none⟩ = some u := fun i u hu => by
    rw [← hW]
    exact Lib.cell?_alloc_some _ ((new_cells w _ 77 i).trans hu)
  have x0 := rr 0 _ rfl
  have x2 := rr 2 _ rfl
  have zc : ∀ i, W.cell? ⟨w.heap.size + 1, i, none⟩ = (#[.int .i64 0, .int .i64 0, .int .i64 0, .int .i64 0, .string ⟨#[]⟩, .int .i64 0, .slice none 0 0, .bool false, .int .i64 0] : Array Value)[i]? := fun i => by
    rw [← hW, ← e1]
    exact new_cells _ _ 85 i
  have zf : ∀ i, W.frozen? ⟨w.heap.size + 1, i, none⟩ = false := fun i => by
    rw [← hW, ← e1]
    exact Lib.frozen_of_heap (heap_alloc_new _ _) i
  obtain ⟨F, hF, _⟩ := id hs
  have c5 := (BW.out.cell (p := ⟨kb, 5, none⟩) (World.block_lt_of_cell? _ _ h5)).trans h5
  have hx : (Lit.int .i64 (xs.getD (xs.length - 1) default)).wf = true := hw _ (by simp [List.getD, List.getElem?_eq_getElem (show xs.length - 1 < xs.length by omega)])
  have LK := (hs.same (BW.out.block sb hF.lt)).look_ok _ hx
  have IN : IntsIn S W (.slice la xs.length lc) xs := h.keep (keeps_below BW.out) (fun _ _ x => x)
  have LA := hid (last_is _ xs W IN h0)
  have a0 : ∀ o, (W.alloc o).cell? ⟨w.heap.size, 0, none⟩ = some (.int .i64 ri) := fun o => Lib.cell?_alloc_some _ x0
  have ac : ∀ o i u, (#[.int .i64 0, .int .i64 0, .int .i64 0, .int .i64 0, .string ⟨#[]⟩, .int .i64 0, .slice none 0 0, .bool false, .int .i64 0] : Array Value)[i]? = some u → (W.alloc o).cell? ⟨w.heap.size + 1, i, none⟩ = some u := fun o i u hu => Lib.cell?_alloc_some _ ((zc i).trans hu)
  have af : ∀ o i, (W.alloc o).frozen? ⟨w.heap.size + 1, i, none⟩ = false := fun o i => ((below_box W o).frozen (p := ⟨w.heap.size + 1, i, none⟩) (by show w.heap.size + 1 < W.heap.size; omega)).trans (zf i)
  have y0 : W.cell? ⟨w.heap.size + 1, 0, none⟩ = some (.int .i64 0) := zc 0
  have y1 : W.cell? ⟨w.heap.size + 1, 1, none⟩ = some (.int .i64 0) := zc 1
  have y2 : W.cell? ⟨w.heap.size + 1, 2, none⟩ = some (.int .i64 0) := zc 2
  have y3 : W.cell? ⟨w.heap.size + 1, 3, none⟩ = some (.int .i64 0) := zc 3
  have y4 : W.cell? ⟨w.heap.size + 1, 4, none⟩ = some (.string ⟨#[]⟩) := zc 4
  have y5 : W.cell? ⟨w.heap.size + 1, 5, none⟩ = some (.int .i64 0) := zc 5
  have y6 : W.cell? ⟨w.heap.size + 1, 6, none⟩ = some (.slice none 0 0) := zc 6
  have y7 : W.cell? ⟨w.heap.size + 1, 7, none⟩ = some (.bool false) := zc 7
  have y8 : W.cell? ⟨w.heap.size + 1, 8, none⟩ = some (.int .i64 0) := zc 8
  have hne : ¬ (w.heap.size = W.heap.size) := by omega
  have hne1 : ¬ (w.heap.size + 1 = W.heap.size) := by omega
  clear ac zc af a0 rr hF hs IN h5 h hw
  obtain ⟨X, hX⟩ : ∃ X, xs.getD (xs.length - 1) default = X := ⟨_, rfl⟩
  rw [hX] at LK LA hx hfx
  clear hX
  rw [hfx] at LK
  simp only [Option.getD, Option.isSome, srcV] at LK
  clear hfx
  go_enter Try.func73, Try.ntmps73
  go_wp2_with fail
  go_at_call 78
  refine LA.out.mono ?_
  rintro e w1 ⟨rfl, rfl⟩
  go_wp2_with fail
  rw [Tx.setCell_self y0, Tx.setCell_self y1, Tx.setCell_self y2, Tx.setCell_self y3, Tx.setCell_self y4, Tx.setCell_self y5, Tx.setCell_self y6, Tx.setCell_self y7, Tx.setCell_self y8]
  exact bodyPost_ret (v := .tuple #[an0, .bool false]) (by simp [results, Try.results73, go_sem, eW, y0, y1, y2, y3, y4, y5, y6, y7, y8]) rfl ⟨rfl, BW.out.trans ((below_box W _).mono BW.out.size)⟩
set_option maxHeartbeats 4000000 in
set_option maxRecDepth 100000 in
theorem middle_loud (kb sb n ri rj : Nat) (f : Int → Option MSrc) {S : Nat → Prop} (la : Option Addr) (lc : Nat) (xs : List Int) (w : World) (h : IntsIn S w (.slice la xs.length lc) xs) (hw : ∀ x ∈ xs, (Lit.int .i64 x).wf = true) (h5 : w.cell? ⟨kb, 5, none⟩ = some (.map (some sb))) (hs : Sc w sb n f) (h0 : 0 < xs.length) (s1 s2 : Nat) (s3 : Bool) (hfx : f (xs.getD (xs.length - 1) default) = some (s1, s2, s3, false)) (hny : s1 ≠ ri) : Calls Try.prog 73 #[.pointer (some ⟨kb, 0, none⟩), .agg #[.int .i64 ri, .int .i64 rj, .slice la xs.length lc]] w fun e w' => e = .returned (.tuple #[anV 6 s1 (xs.getD (xs.length - 1) default), .bool true]) ∧ Below w.heap.size w w' := by
  obtain ⟨W, hW⟩ : ∃ W, (w.alloc (.cells #[.int .i64 ri, .int .i64 rj, .slice la xs.length lc] 77)).alloc (.cells #[.int .i64 0, .int .i64 0, .int .i64 0, .int .i64 0, .string ⟨#[]⟩, .int .i64 0, .slice none 0 0, .bool false, .int .i64 0] 85) = W := ⟨_, rfl⟩
  have BW : Hid (Below w.heap.size w W) := by rw [← hW]; exact (below_box w _).alloc (by rw [alloc_size]; omega) _
  have e1 : (w.alloc (.cells #[.int .i64 ri, .int .i64 rj, .slice la xs.length lc] 77)).heap.size = w.heap.size + 1 := by rw [alloc_size]
  have eW : W.heap.size = w.heap.size + 2 := by rw [← hW, alloc_size, e1]
  have rr : ∀ i u, (#[.int .i64 ri, .int .i64 rj, .slice la xs.length lc] : Array Value)[i]? = some u → W.cell? ⟨w.heap.size, i, none⟩ = some u := fun i u hu => by
    rw [← hW]
    exact Lib.cell?_alloc_some _ ((new_cells w _ 77 i).trans hu)
  have x0 := rr 0 _ rfl
  have x2 := rr 2 _ rfl
  have zc : ∀ i, W.cell? ⟨w.heap.size + 1, i, none⟩ = (#[.int .i64 0, .int .i64 0, .int .i64 0, .int .i64 0, .string ⟨#[]⟩, .int .i64 0, .slice none 0 0, .bool false, .int .i64 0] : Array Value)[i]? := fun i => by
    rw [← hW, ← e1]
    exact new_cells _ _ 85 i
  have zf : ∀ i, W.frozen? ⟨w.heap.size + 1, i, none⟩ = false := fun i => by
    rw [← hW, ← e1]
    exact Lib.frozen_of_heap (heap_alloc_new _ _) i
  obtain ⟨F, hF, _⟩ := id hs
  have c5 := (BW.out.cell (p := ⟨kb, 5, none⟩) (World.block_lt_of_cell? _ _ h5)).trans h5
  have hx : (Lit.int .i64 (xs.getD (xs.length - 1) default)).wf = true := hw _ (by simp [List.getD, List.getElem?_eq_getElem (show xs.length - 1 < xs.length by omega)])
  have LK := (hs.same (BW.out.block sb hF.lt)).look_ok _ hx
  have IN : IntsIn S W (.slice la xs.length lc) xs := h.keep (keeps_below BW.out) (fun _ _ x => x)
  have LA := hid (last_is _ xs W IN h0)
  have a0 : ∀ o, (W.alloc o).cell? ⟨w.heap.size, 0, none⟩ = some (.int .i64 ri) := fun o => Lib.cell?_alloc_some _ x0
  have ac : ∀ o i u, (#[.int .i64 0, .int .i64 0, .int .i64 0, .int .i64 0, .string ⟨#[]⟩, .int .i64 0, .slice none 0 0, .bool false, .int .i64 0] : Array Value)[i]? = some u → (W.alloc o).cell? ⟨w.heap.size + 1, i, none⟩ = some u := fun o i u hu => Lib.cell?_alloc_some _ ((zc i).trans hu)
  have af : ∀ o i, (W.alloc o).frozen? ⟨w.heap.size + 1, i, none⟩ = false := fun o i => ((below_box W o).frozen (p := ⟨w.heap.size + 1, i, none⟩) (by show w.heap.size + 1 < W.heap.size; omega)).trans (zf i)
  have y0 : W.cell? ⟨w.heap.size + 1, 0, none⟩ = some (.int .i64 0) := zc 0
  have y1 : W.cell? ⟨w.heap.size + 1, 1, none⟩ = some (.int .i64 0) := zc 1
  have y2 : W.cell? ⟨w.heap.size + 1, 2, none⟩ = some (.int .i64 0) := zc 2
  have y3 : W.cell? ⟨w.heap.size + 1, 3, none⟩ = some (.int .i64 0) := zc 3
  have y4 : W.cell? ⟨w.heap.size + 1, 4, none⟩ = some (.string ⟨#[]⟩) := zc 4
  have y5 : W.cell? ⟨w.heap.size + 1, 5, none⟩ = some (.int .i64 0) := zc 5
  have y6 : W.cell? ⟨w.heap.size + 1, 6, none⟩ = some (.slice none 0 0) := zc 6
  have y7 : W.cell? ⟨w.heap.size + 1, 7, none⟩ = some (.bool false) := zc 7
  have y8 : W.cell? ⟨w.heap.size + 1, 8, none⟩ = some (.int .i64 0) := zc 8
  have hne : ¬ (w.heap.size = W.heap.size) := by omega
  have hne1 : ¬ (w.heap.size + 1 = W.heap.size) := by omega
  clear ac zc af a0 rr hF hs IN h5 h hw
  obtain ⟨X, hX⟩ : ∃ X, xs.getD (xs.length - 1) default = X := ⟨_, rfl⟩
  rw [hX] at LK LA hx hfx
  rw [hX]
  clear hX
  rw [hfx] at LK
  simp only [Option.getD, Option.isSome, srcV] at LK
  clear hfx
  have nyb : ((s1 : Int) == (ri : Int)) = false := by simp; omega
  clear hny
  go_enter Try.func73, Try.ntmps73
  go_wp2_with fail
  go_at_call 78
  refine LA.out.mono ?_
  rintro e w1 ⟨rfl, rfl⟩
  go_wp2_with fail
  have hge : w.heap.size ≤ w.heap.size + 1 := by omega
  refine bodyPost_ret (v := .tuple #[anV 6 s1 X, .bool true]) (by simp [results, Try.results73, go_sem, eW, y0, y1, y2, y3, y4, y5, y6, y7, y8]) rfl ⟨rfl, ?_⟩
  refine Below.alloc ?_ ?_ _
  · exact (((((((((BW.out.setCell hge _).setCell hge _).setCell hge _).setCell hge _).setCell hge _).setCell hge _).setCell hge _).setCell hge _).setCell hge _)
  · simp only [World.setCell, Array.size_modify]; omega
end Go.Proofs.Ytnfbcmnlloipiaa
namespace Go.Proofs.Ytnfbcmnlloipiaa
set_option linter.unusedVariables false
set_option linter.unusedSimpArgs false
open Go.RowKit Go.Lib

/-- The int at each place of a slice of length n. -/
def IntCells (w : World) (ao : Option Addr) (xs : List Int) (n : Nat) : Prop := ∀ j, j < n → ∃ b o, ao = some ⟨b, o, none⟩ ∧ w.cell? ⟨b, o + j, none⟩ = some (.int .i64 (xs.getD j default))
theorem IntsIn.cells {S : Nat → Prop} {w : World} {v : Value} {l : List Int} (h : IntsIn S w v l) : ∃ ao c, v = .slice ao l.length c ∧ (l.length * 8 ≤ 140737488355328 ∧ l.length ≤ c) ∧ IntCells w ao l l.length := by
  obtain ⟨ao, c, hv, hl, hc⟩ := h
  refine ⟨ao, c, hv, hl, fun j hj => ?_⟩
  obtain ⟨b, off, ha, _, hcc⟩ := hc (by omega)
  exact ⟨b, off, ha, hcc j hj⟩
theorem IntCells.later {w w' : World} {ao : Option Addr} {xs : List Int} {n : Nat} (h : IntCells w ao xs n) (hb : Below w.heap.size w w') : IntCells w' ao xs n := fun j hj => by
  obtain ⟨b, o, ha, hc⟩ := h j hj
  exact ⟨b, o, ha, (hb.cell (p := ⟨b, o + j, none⟩) (World.block_lt_of_cell? _ _ hc)).trans hc⟩
theorem IntCells.dropped {w : World} {ao : Option Addr} {xs : List Int} {m c d : Nat} (h : IntCells w ao xs m) (hd : d ≤ m) (hc : m ≤ c) : IntCells w (if c = d then ao else Option.map (fun x => x.add d) ao) (xs.drop d) (m - d) := fun j hj => by
  rw [if_neg (by omega)]
  obtain ⟨b, o, rfl, hc⟩ := h (d + j) (by omega)
  refine ⟨b, o + d, by simp [Addr.add], ?_⟩
  have e : (xs.drop d).getD j default = xs.getD (d + j) default := by simp [List.getD]
  rw [e, Nat.add_assoc]
  exact hc
theorem drew_drew (w : World) (q n : Nat) : (w.drewN q).drewN n = w.drewN (q + n) := by
  unfold World.drewN
  simp [Nat.add_assoc]
theorem intsEq_dec (xs ys : List Int) : intsEq xs ys = decide (xs = ys) := by
  by_cases h : xs = ys
  · rw [h, intsEq_refl]
    simp
  · rw [decide_eq_false h]
    by_cases hl : xs.length = ys.length
    · obtain ⟨j, hj, hne⟩ : ∃ j, j < xs.length ∧ xs.getD j default ≠ ys.getD j default := by
        apply Classical.byContradiction
        intro c
        apply h
        apply List.ext_getElem hl
        intro j h1 h2
        apply Classical.byContradiction
        intro c2
        exact c ⟨j, h1, by simpa [List.getD, h1, h2] using c2⟩
      exact allEq_miss _ xs ys j hj (by simpa using hne)
    · exact allEq_len _ xs ys hl

set_option maxHeartbeats 400000 in
theorem slicesEqual_walk (a1 a2 : Option Addr) (c1 c2 n : Nat) (xs ys : List Int) (w : World) (hx : xs.length = n) (hy : ys.length = n) (_hbig : n ≤ 9223372036854775807)
    (h1 : IntCells w a1 xs n) (h2 : IntCells w a2 ys n) :
    Calls Try.prog 17 #[.slice a1 n c1, .slice a2 n c2] w fun e w' => e = .returned (.bool (intsEq xs ys)) ∧ ∃ q, w' = w.drewN q := by
  have HX : Hid (xs.length = n) := hx
  have HY : Hid (ys.length = n) := hy
  clear hx hy
  go_enter Try.func17, Try.ntmps17
  go_wp2
  go_loopg [5, 13] n (fun g _ i wr => ∃ k : Nat, k ≤ n ∧ n - k ≤ g ∧ i = .int .i64 k ∧ Aside (∃ q, wr = w.drewN q) ∧ Aside (∀ j, j < k → (xs.getD j default == ys.getD j default) = true))
  case atStart => exact ⟨0, Nat.zero_le _, by omega, rfl, ⟨0, rfl⟩, fun j hj => absurd hj (Nat.not_lt_zero _)⟩
  case round =>
    obtain ⟨k, hk, hg, rfl, ⟨q, rfl⟩, A⟩ := hrel
    by_cases hlt : k < n
    · have hlti : (k : Int) < (n : Int) := by omega
      obtain ⟨b1, o1, rfl, k1⟩ := h1 k hlt
      obtain ⟨b2, o2, rfl, k2⟩ := h2 k hlt
      clear h1 h2
      generalize hX : xs.getD k default = X at k1
      generalize hY : ys.getD k default = Y at k2
      have HX' : Hid (xs.getD k default = X) := hX
      have HY' : Hid (ys.getD k default = Y) := hY
      clear hX hY
      cases hq : (X == Y) with
      | true =>
        have hne : (X != Y) = false := by simp [bne, hq]
        have HQ : Hid ((X == Y) = true) := hq
        clear hq
        go_wp2
        go_quiet (fail)
        go_wp2
        go_roundg (n - (k + 1))
        case measure => omega
        case rel =>
          refine ⟨k + 1, by omega, by omega, by go_num, ⟨_, rfl⟩, (show Aside _ from fun j hj => ?_)⟩
          by_cases e : j = k
          · subst e; rw [HX'.out, HY'.out]; exact HQ.out
          · exact A.out j (by omega)
      | false =>
        have hne : (X != Y) = true := by simp [bne, hq]
        have HQ : Hid ((X == Y) = false) := hq
        clear hq
        go_wp2
        go_quiet (fail)
        go_wp2
        go_ret
        refine ⟨?_, ⟨_, drew_drew _ _ _⟩⟩
        rw [show intsEq xs ys = false from allEq_miss _ xs ys k (by rw [HX.out]; exact hlt) (by rw [HX'.out, HY'.out]; exact HQ.out)]
        rfl
    · go_wp2
      go_ret
      refine ⟨?_, ⟨_, rfl⟩⟩
      rw [show intsEq xs ys = true from allEq_hit _ xs ys (by rw [HX.out, HY.out]) (fun j hj => A.out j (by rw [HX.out] at hj; omega))]
      rfl

theorem slicesEqual_lens (a1 a2 : Option Addr) (c1 c2 n m : Nat) (w : World) (hnm : n ≠ m) :
    Calls Try.prog 17 #[.slice a1 n c1, .slice a2 m c2] w fun e w' => e = .returned (.bool false) ∧ ∃ q, w' = w.drewN q := by
  have hne : ((n : Int) != (m : Int)) = true := by rw [bne_iff_ne]; omega
  go_enter Try.func17, Try.ntmps17
  go_wp2
  go_ret
  exact ⟨rfl, 0, rfl⟩


/-- slices.Equal tells whether two lists of ints are the same. -/
theorem slicesEqual_cells (a1 a2 : Option Addr) (c1 c2 n m : Nat) (xs ys : List Int) (w : World) (hn : xs.length = n) (hm : ys.length = m) (hb : n ≤ 9223372036854775807) (h1 : IntCells w a1 xs n) (h2 : IntCells w a2 ys m) :
    Calls Try.prog 17 #[.slice a1 n c1, .slice a2 m c2] w fun e w' => e = .returned (.bool (decide (xs = ys))) ∧ ∃ q, w' = w.drewN q := by
  rw [← intsEq_dec]
  subst hn hm
  by_cases h : xs.length = ys.length
  · rw [← h] at h2 ⊢
    exact slicesEqual_walk a1 a2 c1 c2 xs.length xs ys w rfl h.symm hb h1 h2
  · rw [show intsEq xs ys = false from allEq_len _ xs ys h]
    exact slicesEqual_lens a1 a2 c1 c2 _ _ w h

end Go.Proofs.Ytnfbcmnlloipiaa
namespace Go.Proofs.Ytnfbcmnlloipiaa
set_option linter.unusedVariables false
set_option linter.unusedSimpArgs false
open Go.RowKit Go.Lib Go.Maps

set_option maxHeartbeats 4000000 in
set_option maxRecDepth 100000 in
theorem fork_no (kb ri rj ti : Nat) {S S' : Nat → Prop} (la ta : Option Addr) (lc tc : Nat) (xs ts : List Int) (w : World) (h : IntsIn S w (.slice la xs.length lc) xs) (ht : IntsIn S' w (.slice ta ts.length tc) ts) (hle : xs.length ≤ ts.length) (h2 : w.cell? ⟨kb, 2, none⟩ = some (.int .i64 ti)) (h4 : w.cell? ⟨kb, 4, none⟩ = some (.slice ta ts.length tc)) (hq : xs = ts.take xs.length) : Calls Try.prog 74 #[.pointer (some ⟨kb, 0, none⟩), .agg #[.int .i64 ri, .int .i64 rj, .slice la xs.length lc]] w fun e w' => e = .returned (.tuple #[an0, .bool false]) ∧ Below w.heap.size w w' := by
  obtain ⟨W, hW⟩ : ∃ W, (w.alloc (.cells #[.int .i64 ri, .int .i64 rj, .slice la xs.length lc] 77)).alloc (.cells #[.int .i64 0, .int .i64 0, .int .i64 0, .int .i64 0, .string ⟨#[]⟩, .int .i64 0, .slice none 0 0, .bool false, .int .i64 0] 85) = W := ⟨_, rfl⟩
  have BW : Hid (Below w.heap.size w W) := by rw [← hW]; exact (below_box w _).alloc (by rw [alloc_size]; omega) _
  have e1 : (w.alloc (.cells #[.int .i64 ri, .int .i64 rj, .slice la xs.length lc] 77)).heap.size = w.heap.size + 1 := by rw [alloc_size]
  have eW : W.heap.size = w.heap.size + 2 := by rw [← hW, alloc_size, e1]
  have x2 : W.cell? ⟨w.heap.size, 2, none⟩ = some (.slice la xs.length lc) := by
    rw [← hW]
    exact Lib.cell?_alloc_some _ (new_cells w _ 77 2)
  have zc : ∀ i, W.cell? ⟨w.heap.size + 1, i, none⟩ = (#[.int .i64 0, .int .i64 0, .int .i64 0, .int .i64 0, .string ⟨#[]⟩, .int .i64 0, .slice none 0 0, .bool false, .int .i64 0] : Array Value)[i]? := fun i => by
    rw [← hW, ← e1]
    exact new_cells _ _ 85 i
  have zf : ∀ i, W.frozen? ⟨w.heap.size + 1, i, none⟩ = false := fun i => by
    rw [← hW, ← e1]
    exact Lib.frozen_of_heap (heap_alloc_new _ _) i
  have c2 := (BW.out.cell (p := ⟨kb, 2, none⟩) (World.block_lt_of_cell? _ _ h2)).trans h2
  have c4 := (BW.out.cell (p := ⟨kb, 4, none⟩) (World.block_lt_of_cell? _ _ h4)).trans h4
  have y0 : W.cell? ⟨w.heap.size + 1, 0, none⟩ = some (.int .i64 0) := zc 0
  have y1 : W.cell? ⟨w.heap.size + 1, 1, none⟩ = some (.int .i64 0) := zc 1
  have y2 : W.cell? ⟨w.heap.size + 1, 2, none⟩ = some (.int .i64 0) := zc 2
  have y3 : W.cell? ⟨w.heap.size + 1, 3, none⟩ = some (.int .i64 0) := zc 3
  have y4 : W.cell? ⟨w.heap.size + 1, 4, none⟩ = some (.string ⟨#[]⟩) := zc 4
  have y5 : W.cell? ⟨w.heap.size + 1, 5, none⟩ = some (.int .i64 0) := zc 5
  have y6 : W.cell? ⟨w.heap.size + 1, 6, none⟩ = some (.slice none 0 0) := zc 6
  have y7 : W.cell? ⟨w.heap.size + 1, 7, none⟩ = some (.bool false) := zc 7
  have y8 : W.cell? ⟨w.heap.size + 1, 8, none⟩ = some (.int .i64 0) := zc 8
  obtain ⟨a1, c1, hv1, ⟨hb1, _⟩, k1⟩ := IntsIn.cells h
  obtain ⟨a2, c2', hv2, ⟨hb2, htc⟩, k2⟩ := IntsIn.cells ht
  cases hv1
  cases hv2
  have EQ : Hid (∀ n, Calls Try.prog 17 #[.slice la xs.length lc, .slice ta xs.length tc] (W.drewN n) fun e w'' => e = .returned (.bool (decide (xs = ts.take xs.length))) ∧ ∃ m, w'' = W.drewN m) := fun n => by
    have k1' : IntCells (W.drewN n) la xs xs.length := k1.later (below_drewN BW.out n)
    have k2' : IntCells (W.drewN n) ta (ts.take xs.length) xs.length := fun j hj => by
      obtain ⟨b, o, hao, hc⟩ := k2.later (below_drewN BW.out n) j (by omega)
      refine ⟨b, o, hao, hc.trans ?_⟩
      simp [List.getD, List.getElem?_take, hj]
    refine (slicesEqual_cells la ta lc tc xs.length xs.length xs (ts.take xs.length) (W.drewN n) rfl (by rw [List.length_take]; omega) (by omega) k1' k2').mono ?_
    rintro e w' ⟨he, q, hw'⟩
    exact ⟨he, _, hw'.trans (drew_drew W n q)⟩
  have EB : decide (xs = ts.take xs.length) = true := decide_eq_true hq
  rw [EB] at EQ
  have hli : (xs.length : Int) ≤ ts.length := by omega
  have hlc : (xs.length : Int) ≤ tc := by omega
  have hln : xs.length ≤ tc := by omega
  clear zc h ht h2 h4 hq k1 k2 EB
  go_enter Try.func74, Try.ntmps74
  go_wp2_with fail
  clear hW
  go_quiet ((go_at_call 17; exact EQ.out _))
  have q0 : (W.drewN nq).cell? ⟨w.heap.size + 1, 0, none⟩ = _ := y0
  have q1 : (W.drewN nq).cell? ⟨w.heap.size + 1, 1, none⟩ = _ := y1
  have q2 : (W.drewN nq).cell? ⟨w.heap.size + 1, 2, none⟩ = _ := y2
  have q3 : (W.drewN nq).cell? ⟨w.heap.size + 1, 3, none⟩ = _ := y3
  have q4 : (W.drewN nq).cell? ⟨w.heap.size + 1, 4, none⟩ = _ := y4
  have q5 : (W.drewN nq).cell? ⟨w.heap.size + 1, 5, none⟩ = _ := y5
  have q6 : (W.drewN nq).cell? ⟨w.heap.size + 1, 6, none⟩ = _ := y6
  have q7 : (W.drewN nq).cell? ⟨w.heap.size + 1, 7, none⟩ = _ := y7
  have q8 : (W.drewN nq).cell? ⟨w.heap.size + 1, 8, none⟩ = _ := y8
  go_wp2_with fail
  rw [Tx.setCell_self q0, Tx.setCell_self q1, Tx.setCell_self q2, Tx.setCell_self q3, Tx.setCell_self q4, Tx.setCell_self q5, Tx.setCell_self q6, Tx.setCell_self q7, Tx.setCell_self q8]
  exact bodyPost_ret (v := .tuple #[an0, .bool false]) (by simp [results, Try.results74, go_sem, y0, y1, y2, y3, y4, y5, y6, y7, y8]) rfl ⟨rfl, below_drewN BW.out nq⟩
set_option maxHeartbeats 4000000 in
set_option maxRecDepth 100000 in
theorem fork_yes (kb ri rj ti : Nat) {S S' : Nat → Prop} (la ta : Option Addr) (lc tc : Nat) (xs ts : List Int) (w : World) (h : IntsIn S w (.slice la xs.length lc) xs) (ht : IntsIn S' w (.slice ta ts.length tc) ts) (hle : xs.length ≤ ts.length) (h2 : w.cell? ⟨kb, 2, none⟩ = some (.int .i64 ti)) (h4 : w.cell? ⟨kb, 4, none⟩ = some (.slice ta ts.length tc)) (hq : ¬ xs = ts.take xs.length) : Calls Try.prog 74 #[.pointer (some ⟨kb, 0, none⟩), .agg #[.int .i64 ri, .int .i64 rj, .slice la xs.length lc]] w fun e w' => e = .returned (.tuple #[anV 4 ti 0, .bool true]) ∧ Below w.heap.size w w' := by
  obtain ⟨W, hW⟩ : ∃ W, (w.alloc (.cells #[.int .i64 ri, .int .i64 rj, .slice la xs.length lc] 77)).alloc (.cells #[.int .i64 0, .int .i64 0, .int .i64 0, .int .i64 0, .string ⟨#[]⟩, .int .i64 0, .slice none 0 0, .bool false, .int .i64 0] 85) = W := ⟨_, rfl⟩
  have BW : Hid (Below w.heap.size w W) := by rw [← hW]; exact (below_box w _).alloc (by rw [alloc_size]; omega) _
  have e1 : (w.alloc (.cells #[.int .i64 ri, .int .i64 rj, .slice la xs.length lc] 77)).heap.size = w.heap.size + 1 := by rw [alloc_size]
  have eW : W.heap.size = w.heap.size + 2 := by rw [← hW, alloc_size, e1]
  have x2 : W.cell? ⟨w.heap.size, 2, none⟩ = some (.slice la xs.length lc) := by
    rw [← hW]
    exact Lib.cell?_alloc_some _ (new_cells w _ 77 2)
  have zc : ∀ i, W.cell? ⟨w.heap.size + 1, i, none⟩ = (#[.int .i64 0, .int .i64 0, .int .i64 0, .int .i64 0, .string ⟨#[]⟩, .int .i64 0, .slice none 0 0, .bool false, .int .i64 0] : Array Value)[i]? := fun i => by
    rw [← hW, ← e1]
    exact new_cells _ _ 85 i
  have zf : ∀ i, W.frozen? ⟨w.heap.size + 1, i, none⟩ = false := fun i => by
    rw [← hW, ← e1]
    exact Lib.frozen_of_heap (heap_alloc_new _ _) i
  have c2 := (BW.out.cell (p := ⟨kb, 2, none⟩) (World.block_lt_of_cell? _ _ h2)).trans h2
  have c4 := (BW.out.cell (p := ⟨kb, 4, none⟩) (World.block_lt_of_cell? _ _ h4)).trans h4
  have y0 : W.cell? ⟨w.heap.size + 1, 0, none⟩ = some (.int .i64 0) := zc 0
  have y1 : W.cell? ⟨w.heap.size + 1, 1, none⟩ = some (.int .i64 0) := zc 1
  have y2 : W.cell? ⟨w.heap.size + 1, 2, none⟩ = some (.int .i64 0) := zc 2
  have y3 : W.cell? ⟨w.heap.size + 1, 3, none⟩ = some (.int .i64 0) := zc 3
  have y4 : W.cell? ⟨w.heap.size + 1, 4, none⟩ = some (.string ⟨#[]⟩) := zc 4
  have y5 : W.cell? ⟨w.heap.size + 1, 5, none⟩ = some (.int .i64 0) := zc 5
  have y6 : W.cell? ⟨w.heap.size + 1, 6, none⟩ = some (.slice none 0 0) := zc 6
  have y7 : W.cell? ⟨w.heap.size + 1, 7, none⟩ = some (.bool false) := zc 7
  have y8 : W.cell? ⟨w.heap.size + 1, 8, none⟩ = some (.int .i64 0) := zc 8
  obtain ⟨a1, c1, hv1, ⟨hb1, _⟩, k1⟩ := IntsIn.cells h
  obtain ⟨a2, c2', hv2, ⟨hb2, htc⟩, k2⟩ := IntsIn.cells ht
  cases hv1
  cases hv2
  have EQ : Hid (∀ n, Calls Try.prog 17 #[.slice la xs.length lc, .slice ta xs.length tc] (W.drewN n) fun e w'' => e = .returned (.bool (decide (xs = ts.take xs.length))) ∧ ∃ m, w'' = W.drewN m) := fun n => by
    have k1' : IntCells (W.drewN n) la xs xs.length := k1.later (below_drewN BW.out n)
    have k2' : IntCells (W.drewN n) ta (ts.take xs.length) xs.length := fun j hj => by
      obtain ⟨b, o, hao, hc⟩ := k2.later (below_drewN BW.out n) j (by omega)
      refine ⟨b, o, hao, hc.trans ?_⟩
      simp [List.getD, List.getElem?_take, hj]
    refine (slicesEqual_cells la ta lc tc xs.length xs.length xs (ts.take xs.length) (W.drewN n) rfl (by rw [List.length_take]; omega) (by omega) k1' k2').mono ?_
    rintro e w' ⟨he, q, hw'⟩
    exact ⟨he, _, hw'.trans (drew_drew W n q)⟩
  have EB : decide (xs = ts.take xs.length) = false := decide_eq_false hq
  rw [EB] at EQ
  have hli : (xs.length : Int) ≤ ts.length := by omega
  have hlc : (xs.length : Int) ≤ tc := by omega
  have hln : xs.length ≤ tc := by omega
  clear zc h ht h2 h4 hq k1 k2 EB
  go_enter Try.func74, Try.ntmps74
  go_wp2_with fail
  clear hW
  go_quiet ((go_at_call 17; exact EQ.out _))
  have hge : w.heap.size ≤ w.heap.size + 1 := by omega
  go_wp2_with fail
  refine bodyPost_ret (v := .tuple #[anV 4 ti 0, .bool true]) (by simp [results, Try.results74, go_sem, y0, y1, y2, y3, y4, y5, y6, y7, y8]) rfl ⟨rfl, ?_⟩
  exact ((((((((((below_drewN BW.out nq).setCell hge _).setCell hge _).setCell hge _).setCell hge _).setCell hge _).setCell hge _).setCell hge _).setCell hge _).setCell hge _)
end Go.Proofs.Ytnfbcmnlloipiaa
namespace Go.Proofs.Ytnfbcmnlloipiaa
set_option linter.unusedVariables false
set_option linter.unusedSimpArgs false
open Go.RowKit Go.Lib Go.Maps

/-- An anomaly of a list: kind, transaction, operation, other, key, value. -/
abbrev MAn := Int × Int × Int × Int × ByteArray × Int
def anC (a : MAn) : List Value := [.int .i64 a.1, .int .i64 a.2.1, .int .i64 a.2.2.1, .int .i64 a.2.2.2.1, .string a.2.2.2.2.1, .int .i64 a.2.2.2.2.2, .slice none 0 0, .bool false, .int .i64 0]
def ansC (l : List MAn) : List Value := l.flatMap anC
theorem ansC_snoc (l : List MAn) (a : MAn) : ansC (l ++ [a]) = ansC l ++ anC a := by simp [ansC]
theorem ansC_at : ∀ (l : List MAn) (j i : Nat), j < l.length → i < 9 → (ansC l)[j * 9 + i]? = (anC (l.getD j default))[i]?
  | [], j, i, h, _ => by simp at h
  | a :: l, 0, i, _, hi => by
    show (anC a ++ ansC l)[0 * 9 + i]? = _
    rw [Nat.zero_mul, Nat.zero_add, List.getElem?_append_left (by simp [anC]; omega)]
    rfl
  | a :: l, j + 1, i, h, hi => by
    show (anC a ++ ansC l)[(j + 1) * 9 + i]? = _
    rw [List.getElem?_append_right (by simp [anC]; omega)]
    rw [show (j + 1) * 9 + i - (anC a).length = j * 9 + i from by simp [anC]; omega]
    exact ansC_at l j i (by simpa using h) hi
set_option maxRecDepth 100000 in
theorem harm1_is (a : MAn) (w : World) : Calls Try.prog 84 #[.agg #[.int .i64 a.1, .int .i64 a.2.1, .int .i64 a.2.2.1, .int .i64 a.2.2.2.1, .string a.2.2.2.2.1, .int .i64 a.2.2.2.2.2, .slice none 0 0, .bool false, .int .i64 0]] w fun e w' => e = .returned (.bool (a.1 != 6)) ∧ Below w.heap.size w w' := by
  obtain ⟨a1, a2, a3, a4, a5, a6⟩ := a
  go_enter Try.func84, Try.ntmps84
  go_wp2_with fail
  go_ret
  exact ⟨rfl, below_box w _⟩
/-- Is there one that is no middle? -/
def harmB (l : List MAn) : Bool := l.all fun a => a.1 == 6
set_option maxHeartbeats 4000000 in
set_option maxRecDepth 100000 in
theorem idxA_is (B : Nat) (v : Value) (l : List MAn) (w : World) (h : w.ownsRow B 85 9 v l.length (ansC l)) (hl : l.length ≤ 1000000) : Calls Try.prog 99 #[v, .func (.func 84) #[] #[]] w fun e w' => (∃ r, e = .returned (.int .i64 r) ∧ (r < 0 ↔ harmB l = true)) ∧ Below w.heap.size w w' := by
  obtain ⟨va, vc, hv⟩ := own_slice h
  subst hv
  have H := hid h
  clear h
  have hli : (l.length : Int) ≤ 1000000 := by omega
  go_enter Try.func99, Try.ntmps99
  go_wp2_with fail
  go_loopg [5, 8] l.length (fun g _ i wr => ∃ k : Nat, k ≤ l.length ∧ l.length - k ≤ g ∧ i = .int .i64 k ∧ Aside (Below w.heap.size w wr) ∧ Aside (∀ j, j < k → (l.getD j default).1 = 6))
  case atStart => exact ⟨0, by omega, by omega, rfl, Below.refl _ _, (show Aside _ from fun j hj => by omega)⟩
  case round =>
    obtain ⟨k, hk, hg, rfl, BW, AL⟩ := hrel
    by_cases hlt : k < l.length
    · have hlti : (k : Int) < l.length := by omega
      have O := own_same H.out (fun g hg => BW.out.block g (own_block H.out hg).2.1)
      obtain ⟨gb, rfl⟩ : ∃ gb, va = some ⟨gb, 0, none⟩ := by
        rcases H.out.2 with ⟨_, hn⟩ | ⟨g, cap, cur, hv, _⟩
        · omega
        · injection hv with hv
          exact ⟨g, hv⟩
      have ce : ∀ i u, i < 9 → (anC (l.getD k default))[i]? = some u → wr.cell? ⟨gb, k * 9 + i, none⟩ = some u := fun i u hi hu => by
        have q := O.cellAt (k * 9 + i) (by omega)
        exact q.trans ((ansC_at l k i hlt hi).trans hu)
      obtain ⟨A, hA⟩ : ∃ A, l.getD k default = A := ⟨_, rfl⟩
      rw [hA] at ce
      have HA := hid hA
      clear hA
      obtain ⟨a1, a2, a3, a4, a5, a6⟩ := A
      have x0 := ce 0 _ (by omega) rfl
      have x1 := ce 1 _ (by omega) rfl
      have x2 := ce 2 _ (by omega) rfl
      have x3 := ce 3 _ (by omega) rfl
      have x4 := ce 4 _ (by omega) rfl
      have x5 := ce 5 _ (by omega) rfl
      have x6 := ce 6 _ (by omega) rfl
      have x7 := ce 7 _ (by omega) rfl
      have x8 := ce 8 _ (by omega) rfl
      simp only [Nat.add_zero] at x0
      have CK := hid (harm1_is (a1, a2, a3, a4, a5, a6) wr)
      clear ce O
      by_cases e6 : a1 = 6
      · subst e6
        go_wp2_with (refine CK.out.mono ?_; rintro e w1 ⟨rfl, b1⟩; have B1 := hid b1; clear b1)
        go_roundg (l.length - (k + 1))
        case measure => omega
        case rel =>
          refine ⟨k + 1, by omega, by omega, by go_num, BW.out.trans (B1.out.mono BW.out.size), (show Aside _ from fun j hj => ?_)⟩
          by_cases e : j = k
          · subst e; rw [HA.out]
          · exact AL.out j (by omega)
      · have e6b : (a1 != 6) = true := by simpa using e6
        have HN : Hid (harmB l = false) := by
          show _ = _
          cases hh : harmB l with
          | false => rfl
          | true =>
            have q := List.all_eq_true.1 hh (l.getD k default) (by simp [List.getD, List.getElem?_eq_getElem hlt])
            rw [HA.out] at q
            exact absurd (by simpa using q) e6
        clear e6
        go_wp2_with (refine CK.out.mono ?_; rintro e w1 ⟨rfl, b1⟩; have B1 := hid b1; clear b1)
        go_ret
        exact ⟨⟨_, rfl, by rw [HN.out]; exact ⟨fun q => by omega, fun q => by cases q⟩⟩, BW.out.trans (B1.out.mono BW.out.size)⟩
    · have hke : k = l.length := by omega
      have hlti : ¬ (k : Int) < l.length := by omega
      have HN : Hid (harmB l = true) := by
        show _ = _
        refine List.all_eq_true.2 (fun a ha => ?_)
        obtain ⟨j, hj, rfl⟩ := List.mem_iff_getElem.1 ha
        have q := AL.out j (by omega)
        simpa [List.getD, List.getElem?_eq_getElem hj] using q
      go_wp2_with fail
      go_ret
      exact ⟨⟨_, rfl, by rw [HN.out]; simp⟩, BW.out⟩
theorem cont_is (B : Nat) (v : Value) (l : List MAn) (w : World) (h : w.ownsRow B 85 9 v l.length (ansC l)) (hl : l.length ≤ 1000000) : Calls Try.prog 83 #[v, .func (.func 84) #[] #[]] w fun e w' => e = .returned (.bool (!harmB l)) ∧ Below w.heap.size w w' := by
  have IX := hid (idxA_is B v l w h hl)
  clear h
  go_enter Try.func83, Try.ntmps83
  go_wp2_with fail
  go_at_call 99
  refine IX.out.mono ?_
  rintro e w1 ⟨⟨r, rfl, hr⟩, b1⟩
  have B1 := hid b1
  clear b1 IX
  by_cases h0 : r < 0
  · have HE : Hid (harmB l = true) := hr.1 h0
    have h0n : ¬ (0 ≤ r) := by omega
    clear hr
    go_wp2_with fail
    go_ret
    exact ⟨by rw [HE.out]; simp [h0n], B1.out⟩
  · have HE : Hid (harmB l = false) := by
      show _ = _
      cases hh : harmB l with
      | false => rfl
      | true => exact absurd (hr.2 hh) h0
    have h0n : 0 ≤ r := by omega
    clear hr
    go_wp2_with fail
    go_ret
    exact ⟨by rw [HE.out]; simp [h0n], B1.out⟩
theorem harmless_is (B : Nat) (v : Value) (l : List MAn) (w : World) (h : w.ownsRow B 85 9 v l.length (ansC l)) (hl : l.length ≤ 1000000) : Calls Try.prog 62 #[v] w fun e w' => e = .returned (.bool (harmB l)) ∧ Below w.heap.size w w' := by
  have IX := hid (cont_is B v l w h hl)
  clear h
  go_enter Try.func62, Try.ntmps62
  go_wp2_with (go_at_call 83; refine IX.out.mono ?_; rintro e w1 ⟨rfl, b1⟩; have B1 := hid b1; clear b1 IX)
  go_ret
  exact ⟨by simp, B1.out⟩
end Go.Proofs.Ytnfbcmnlloipiaa
namespace Go.Proofs.Ytnfbcmnlloipiaa
set_option linter.unusedVariables false
set_option linter.unusedSimpArgs false
open Go.RowKit Go.Lib Go.Maps

/-- A map from ints to ints. -/
def Ct (w : World) (sb n : Nat) (f : Int → Option Int) : Prop := ∃ F, MapV w Try.prog 3 sb n F ∧ ∀ x, F (.int .i64 x) = (f x).map (Value.int .i64)
theorem Ct.made (w : World) : Ct (w.alloc (.map #[] 0)) w.heap.size 0 (fun _ => none) := ⟨_, MapV.made w Try.prog 3, fun _ => rfl⟩
theorem Ct.lt {w : World} {sb n : Nat} {f : Int → Option Int} (h : Ct w sb n f) : sb < w.heap.size := by
  obtain ⟨F, h1, _⟩ := h
  exact h1.lt
theorem Ct.same {w w' : World} {sb n : Nat} {f : Int → Option Int} (h : Ct w sb n f) (hb : w'.heap[sb]? = w.heap[sb]?) : Ct w' sb n f := by
  obtain ⟨F, h1, h2⟩ := h
  exact ⟨F, h1.same hb, h2⟩
theorem Ct.look {w : World} {sb n : Nat} {f : Int → Option Int} (h : Ct w sb n f) (x : Int) (hx : (Lit.int .i64 x).wf = true) : (Instr.lookup 137 (.map (some sb)) (.int .i64 x) false).run Try.prog w = .ok (.int .i64 ((f x).getD 0)) w := by
  obtain ⟨F, h1, h2⟩ := h
  rw [h1.look keys3 Try.underlying137 (zeroI w) (key3 x hx), h2 x]
  cases f x <;> rfl
theorem Ct.put {w : World} {sb n : Nat} {f : Int → Option Int} (h : Ct w sb n f) (hn : n < maxLen) (x : Int) (hx : (Lit.int .i64 x).wf = true) (y : Int) : ∃ w', (Instr.mapUpdate 137 (.map (some sb)) (.int .i64 x) (.int .i64 y)).run Try.prog w = .ok () w' ∧ Ct w' sb (n + 1) (fun z => if z = x then some y else f z) ∧ w.grownBy w' (some sb) := by
  obtain ⟨F, h1, h2⟩ := h
  obtain ⟨w', g, r1, hp, r2, r3⟩ := h1.put keys3 Try.underlying137 hn (.int .i64 y) (key3 x hx)
  refine ⟨w', r1, ⟨g, r2, fun z => ?_⟩, r3⟩
  by_cases e : z = x
  · subst e
    show g _ = Option.map _ (if z = z then some y else f z)
    rw [hp.1, if_pos rfl]
    rfl
  · show g _ = Option.map _ (if z = x then some y else f z)
    rw [hp.2 (.int .i64 z) (fun c => e (by injection c)), h2 z, if_neg e]
/-- How often x stands among the first k. -/
def cntK (xs : List Int) (k : Nat) (x : Int) : Nat := (xs.take k).count x
theorem cntK_next (xs : List Int) (k : Nat) (hk : k < xs.length) (x : Int) : cntK xs (k + 1) x = cntK xs k x + (if x = xs.getD k default then 1 else 0) := by
  unfold cntK
  rw [List.take_add_one, List.count_append]
  have : xs.getD k default = xs[k] := by simp [List.getD, List.getElem?_eq_getElem hk]
  rw [this, List.getElem?_eq_getElem hk]
  by_cases e : x = xs[k]
  · simp [e]
  · simp [e, List.count_singleton]
    exact fun c => absurd c.symm e
theorem cntK_le (xs : List Int) (k : Nat) (x : Int) : cntK xs k x ≤ k := Nat.le_trans List.count_le_length (by simp; omega)
/-- Did the value at k stand before? -/
def twB (xs : List Int) (k : Nat) : Bool := decide (0 < cntK xs k (xs.getD k default))
/-- What twice tells. -/
def FoundK (p : Nat → Bool) (xs : List Int) (kd : Int) (e : Ending) : Prop := ((∀ j, j < xs.length → p j = false) ∧ e = .returned (.tuple #[an0, .bool false])) ∨ ∃ k, k < xs.length ∧ p k = true ∧ (∀ j, j < k → p j = false) ∧ e = .returned (.tuple #[anV kd 0 (xs.getD k default), .bool true])
set_option maxHeartbeats 4000000 in
set_option maxRecDepth 100000 in
theorem twice_is (kb ri rj : Nat) {S : Nat → Prop} (la : Option Addr) (lc : Nat) (xs : List Int) (w : World) (h : IntsIn S w (.slice la xs.length lc) xs) (hw : ∀ x ∈ xs, (Lit.int .i64 x).wf = true) : Calls Try.prog 70 #[.pointer (some ⟨kb, 0, none⟩), .agg #[.int .i64 ri, .int .i64 rj, .slice la xs.length lc]] w fun e w' => FoundK (twB xs) xs 3 e ∧ Below w.heap.size w w' := by
  obtain ⟨W, hW⟩ : ∃ W, ((w.alloc (.cells #[.int .i64 ri, .int .i64 rj, .slice la xs.length lc] 77)).alloc (.cells #[.int .i64 0, .int .i64 0, .int .i64 0, .int .i64 0, .string ⟨#[]⟩, .int .i64 0, .slice none 0 0, .bool false, .int .i64 0] 85)).alloc (.map #[] 0) = W := ⟨_, rfl⟩
  have BW : Hid (Below w.heap.size w W) := by rw [← hW]; exact ((below_box w _).alloc (by rw [alloc_size]; omega) _).alloc (by rw [alloc_size, alloc_size]; omega) _
  have e1 : (w.alloc (.cells #[.int .i64 ri, .int .i64 rj, .slice la xs.length lc] 77)).heap.size = w.heap.size + 1 := by rw [alloc_size]
  have e2 : ((w.alloc (.cells #[.int .i64 ri, .int .i64 rj, .slice la xs.length lc] 77)).alloc (.cells #[.int .i64 0, .int .i64 0, .int .i64 0, .int .i64 0, .string ⟨#[]⟩, .int .i64 0, .slice none 0 0, .bool false, .int .i64 0] 85)).heap.size = w.heap.size + 1 + 1 := by rw [alloc_size, e1]
  have eW : W.heap.size = w.heap.size + 3 := by rw [← hW, alloc_size, e2]
  have x2 : W.cell? ⟨w.heap.size, 2, none⟩ = some (.slice la xs.length lc) := by rw [← hW]; exact Lib.cell?_alloc_some _ (Lib.cell?_alloc_some _ (new_cells w _ 77 2))
  have ZC : Hid (∀ i u, (#[.int .i64 0, .int .i64 0, .int .i64 0, .int .i64 0, .string ⟨#[]⟩, .int .i64 0, .slice none 0 0, .bool false, .int .i64 0] : Array Value)[i]? = some u → W.cell? ⟨w.heap.size + 1, i, none⟩ = some u) := fun i u hu => by
    rw [← hW, ← e1]
    exact Lib.cell?_alloc_some _ ((new_cells _ _ 85 i).trans hu)
  have ZF : Hid (∀ i, W.frozen? ⟨w.heap.size + 1, i, none⟩ = false) := fun i => by
    have q : W.heap[w.heap.size + 1]? = some (.cells #[.int .i64 0, .int .i64 0, .int .i64 0, .int .i64 0, .string ⟨#[]⟩, .int .i64 0, .slice none 0 0, .bool false, .int .i64 0] 85) := by
      rw [← hW, alloc_at, if_neg (by rw [e2]; omega), ← e1]
      exact heap_alloc_new _ _
    exact Lib.frozen_of_heap q i
  have C0 : Hid (Ct W (w.heap.size + 1 + 1) 0 (fun _ => none)) := by
    have q := Ct.made ((w.alloc (.cells #[.int .i64 ri, .int .i64 rj, .slice la xs.length lc] 77)).alloc (.cells #[.int .i64 0, .int .i64 0, .int .i64 0, .int .i64 0, .string ⟨#[]⟩, .int .i64 0, .slice none 0 0, .bool false, .int .i64 0] 85))
    rw [e2, hW] at q
    exact q
  obtain ⟨ao, c, hv, ⟨hbytes, _⟩, hcells⟩ := id h
  cases hv
  have HW := hid hw
  have HC := hid hcells
  have hli : (xs.length : Int) ≤ 17592186044416 := by omega
  clear h hw hcells
  have hmm := @run_makeMap Try.prog
  go_enter Try.func70, Try.ntmps70
  go_wp2_with fail
  clear hmm
  try simp only [hW]
  clear hW e1 e2
  go_loopg [8, 13] xs.length (fun g _ i wr => ∃ k : Nat, k ≤ xs.length ∧ xs.length - k ≤ g ∧ i = .int .i64 k ∧ Aside (Below w.heap.size w wr) ∧ Aside (∀ b, b < W.heap.size → b ≠ w.heap.size + 1 + 1 → wr.heap[b]? = W.heap[b]?) ∧ Aside (∃ f, Ct wr (w.heap.size + 1 + 1) k f ∧ ∀ x, (f x).getD 0 = (cntK xs k x : Int)) ∧ Aside (∀ j, j < k → twB xs j = false))
  case atStart => exact ⟨0, by omega, by omega, rfl, BW.out, (show Aside _ from fun _ _ _ => rfl), ⟨_, C0.out, fun x => by simp [cntK]⟩, (show Aside _ from fun j hj => by omega)⟩
  case round =>
    obtain ⟨k, hk, hg, rfl, BR, KP, CT, AL⟩ := hrel
    have BL : ∀ i, wr.cell? ⟨w.heap.size + 1, i, none⟩ = W.cell? ⟨w.heap.size + 1, i, none⟩ := fun i => World.cell?_of_block (a := ⟨w.heap.size + 1, i, none⟩) (KP.out _ (by show w.heap.size + 1 < W.heap.size; omega) (by show w.heap.size + 1 ≠ _; omega))
    have y0 : wr.cell? ⟨w.heap.size + 1, 0, none⟩ = some (.int .i64 0) := (BL 0).trans (ZC.out 0 _ rfl)
    have y1 : wr.cell? ⟨w.heap.size + 1, 1, none⟩ = some (.int .i64 0) := (BL 1).trans (ZC.out 1 _ rfl)
    have y2 : wr.cell? ⟨w.heap.size + 1, 2, none⟩ = some (.int .i64 0) := (BL 2).trans (ZC.out 2 _ rfl)
    have y3 : wr.cell? ⟨w.heap.size + 1, 3, none⟩ = some (.int .i64 0) := (BL 3).trans (ZC.out 3 _ rfl)
    have y4 : wr.cell? ⟨w.heap.size + 1, 4, none⟩ = some (.string ⟨#[]⟩) := (BL 4).trans (ZC.out 4 _ rfl)
    have y5 : wr.cell? ⟨w.heap.size + 1, 5, none⟩ = some (.int .i64 0) := (BL 5).trans (ZC.out 5 _ rfl)
    have y6 : wr.cell? ⟨w.heap.size + 1, 6, none⟩ = some (.slice none 0 0) := (BL 6).trans (ZC.out 6 _ rfl)
    have y7 : wr.cell? ⟨w.heap.size + 1, 7, none⟩ = some (.bool false) := (BL 7).trans (ZC.out 7 _ rfl)
    have y8 : wr.cell? ⟨w.heap.size + 1, 8, none⟩ = some (.int .i64 0) := (BL 8).trans (ZC.out 8 _ rfl)
    have fz : ∀ i, wr.frozen? ⟨w.heap.size + 1, i, none⟩ = false := fun i => (Tx.frozen_of_block (KP.out _ (by omega) (by omega)) i).trans (ZF.out i)
    clear BL
    by_cases hlt : k < xs.length
    · have hlti : (k : Int) < xs.length := by omega
      obtain ⟨b, off, rfl, _, hc⟩ := HC.out (by omega)
      have v0 := hc k hlt
      have v1 := (BR.out.cell (p := ⟨b, off + k, none⟩) (World.block_lt_of_cell? _ _ v0)).trans v0
      have hx : (Lit.int .i64 (xs.getD k default)).wf = true := HW.out _ (by simp [List.getD, List.getElem?_eq_getElem hlt])
      obtain ⟨f, ct, hf⟩ := CT.out
      clear v0 hc
      have HN : Hid (∀ x, cntK xs (k + 1) x = cntK xs k x + (if x = xs.getD k default then 1 else 0)) := cntK_next xs k hlt
      have HT : Hid (twB xs k = decide (0 < cntK xs k (xs.getD k default))) := rfl
      have LK := ct.look _ hx
      have hle := cntK_le xs k (xs.getD k default)
      rw [hf] at LK
      obtain ⟨X, hX⟩ : ∃ X, xs.getD k default = X := ⟨_, rfl⟩
      rw [hX] at LK v1 hx hle HN HT
      have HX := hid hX
      obtain ⟨C, hC⟩ : ∃ C, cntK xs k X = C := ⟨_, rfl⟩
      rw [hC] at LK HT hle
      have HC2 := hid hC
      have HF := hid hf
      clear hX hC CT hf
      by_cases h0 : 0 < C
      · have h0i : (0 : Int) < (C : Int) := by omega
        clear ct HN HF
        go_wp2_with fail
        have hge : w.heap.size ≤ w.heap.size + 1 := by omega
        refine bodyPost_ret (v := .tuple #[anV 3 0 X, .bool true]) (by simp [results, Try.results70, go_sem, y0, y1, y2, y3, y4, y5, y6, y7, y8]) rfl ⟨.inr ⟨k, hlt, by rw [HT.out]; simp [h0], AL.out, by rw [HX.out]⟩, ?_⟩
        exact (((((((((BR.out.setCell hge _).setCell hge _).setCell hge _).setCell hge _).setCell hge _).setCell hge _).setCell hge _).setCell hge _).setCell hge _)
      · have hC0 : C = 0 := by omega
        subst hC0
        obtain ⟨w2, pu, ct2, gr⟩ := ct.put (by unfold maxLen; omega) X hx 1
        have hms := ct.lt
        have B2 : Hid (Below w.heap.size w w2) := ⟨gr.os.trans BR.out.os, gr.tape.trans BR.out.tape, gr.output.trans BR.out.output, Nat.le_trans BR.out.size gr.size, fun b hb => (gr.block b (by omega) (fun e => by injection e; omega)).trans (BR.out.block b hb)⟩
        have K2 : Hid (∀ b, b < W.heap.size → b ≠ w.heap.size + 1 + 1 → w2.heap[b]? = W.heap[b]?) := fun b hb hn => (gr.block b (by omega) (fun e => hn (by injection e))).trans (KP.out b hb hn)
        have CT2 := hid ct2
        clear ct ct2 gr hms
        go_wp2_with fail
        go_roundg (xs.length - (k + 1))
        case measure => omega
        case rel =>
          refine ⟨k + 1, by omega, by omega, by go_num, B2.out, K2.out, ⟨_, CT2.out, fun x => ?_⟩, (show Aside _ from fun j hj => ?_)⟩
          · rw [HN.out x]
            by_cases e : x = X
            · subst e
              rw [HC2.out]
              simp
            · simp only [if_neg e]
              rw [HF.out x]
              simp
          · by_cases e : j = k
            · subst e
              rw [HT.out]
              simp
            · exact AL.out j (by omega)
    · have hke : k = xs.length := by omega
      have hlti : ¬ (k : Int) < xs.length := by omega
      go_wp2_with fail
      rw [Tx.setCell_self y0, Tx.setCell_self y1, Tx.setCell_self y2, Tx.setCell_self y3, Tx.setCell_self y4, Tx.setCell_self y5, Tx.setCell_self y6, Tx.setCell_self y7, Tx.setCell_self y8]
      exact bodyPost_ret (v := .tuple #[an0, .bool false]) (by simp [results, Try.results70, go_sem, y0, y1, y2, y3, y4, y5, y6, y7, y8]) rfl ⟨.inl ⟨fun j hj => AL.out j (by omega), rfl⟩, BR.out⟩
end Go.Proofs.Ytnfbcmnlloipiaa
