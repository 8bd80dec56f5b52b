/-
  middle: the read ends inside of what another transaction appended.
-/
import Derived.Test.YtnfbcmnlloipiaaLg4
namespace Go.Proofs.Ytnfbcmnlloipiaa
set_option linter.unusedVariables false
set_option linter.unusedSimpArgs false
open Go.RowKit Go.Lib Go.Maps

theorem last_is {S : Nat → Prop} (v : Value) (xs : List Int) (w : World) (h : IntsIn S w v xs) (h0 : 0 < xs.length) : Calls Try.prog 78 #[v] w fun e w' => e = .returned (.tuple #[.int .i64 (xs.getD (xs.length - 1) default), .bool true]) ∧ w = w' := by
  obtain ⟨ao, c, rfl, ⟨hb, _⟩, hc⟩ := h
  obtain ⟨b, off, rfl, _, hcc⟩ := hc h0
  have v0 := hcc (xs.length - 1) (by omega)
  obtain ⟨m, hm⟩ : ∃ m, xs.length = m + 1 := ⟨xs.length - 1, by omega⟩
  obtain ⟨X, hX⟩ : ∃ X, xs.getD (xs.length - 1) default = X := ⟨_, rfl⟩
  rw [hX] at v0
  rw [hX]
  clear hX hc hcc
  rw [hm] at v0 hb ⊢
  rw [show m + 1 - 1 = m from rfl] at v0
  have n0 : ¬ (((m + 1 : Nat) : Int) = 0) := by omega
  have nb : ((((m + 1 : Nat) : Int)) == 0) = false := by simpa using n0
  clear hm
  go_enter Try.func78, Try.ntmps78
  go_wp2_with fail
  go_ret2
  exact ⟨rfl, rfl⟩
set_option maxHeartbeats 4000000 in
set_option maxRecDepth 100000 in
theorem middle_none (kb sb n ri rj : Nat) (f : Int → Option MSrc) {S : Nat → Prop} (la : Option Addr) (lc : Nat) (xs : List Int) (w : World) (h : IntsIn S w (.slice la xs.length lc) xs) (hw : ∀ x ∈ xs, (Lit.int .i64 x).wf = true) (h5 : w.cell? ⟨kb, 5, none⟩ = some (.map (some sb))) (hs : Sc w sb n f) (h0 : 0 < xs.length) (hfx : f (xs.getD (xs.length - 1) default) = none) : Calls Try.prog 73 #[.pointer (some ⟨kb, 0, none⟩), .agg #[.int .i64 ri, .int .i64 rj, .slice la xs.length lc]] w fun e w' => e = .returned (.tuple #[an0, .bool false]) ∧ Below w.heap.size w w' := by
  obtain ⟨W, hW⟩ : ∃ W, (w.alloc (.cells #[.int .i64 ri, .int .i64 rj, .slice la xs.length lc] 77)).alloc (.cells #[.int .i64 0, .int .i64 0, .int .i64 0, .int .i64 0, .string ⟨#[]⟩, .int .i64 0, .slice none 0 0, .bool false, .int .i64 0] 85) = W := ⟨_, rfl⟩
  have BW : Hid (Below w.heap.size w W) := by rw [← hW]; exact (below_box w _).alloc (by rw [alloc_size]; omega) _
  have e1 : (w.alloc (.cells #[.int .i64 ri, .int .i64 rj, .slice la xs.length lc] 77)).heap.size = w.heap.size + 1 := by rw [alloc_size]
  have eW : W.heap.size = w.heap.size + 2 := by rw [← hW, alloc_size, e1]
  have rr : ∀ i u, (#[.int .i64 ri, .int .i64 rj, .slice la xs.length lc] : Array Value)[i]? = some u → W.cell? ⟨w.heap.size, i, none⟩ = some u := fun i u hu => by
    rw [← hW]
    exact Lib.cell?_alloc_some _ ((new_cells w _ 77 i).trans hu)
  have x0 := rr 0 _ rfl
  have x2 := rr 2 _ rfl
  have zc : ∀ i, W.cell? ⟨w.heap.size + 1, i, none⟩ = (#[.int .i64 0, .int .i64 0, .int .i64 0, .int .i64 0, .string ⟨#[]⟩, .int .i64 0, .slice none 0 0, .bool false, .int .i64 0] : Array Value)[i]? := fun i => by
    rw [← hW, ← e1]
    exact new_cells _ _ 85 i
  have zf : ∀ i, W.frozen? ⟨w.heap.size + 1, i, none⟩ = false := fun i => by
    rw [← hW, ← e1]
    exact Lib.frozen_of_heap (heap_alloc_new _ _) i
  obtain ⟨F, hF, _⟩ := id hs
  have c5 := (BW.out.cell (p := ⟨kb, 5, none⟩) (World.block_lt_of_cell? _ _ h5)).trans h5
  have hx : (Lit.int .i64 (xs.getD (xs.length - 1) default)).wf = true := hw _ (by simp [List.getD, List.getElem?_eq_getElem (show xs.length - 1 < xs.length by omega)])
  have LK := (hs.same (BW.out.block sb hF.lt)).look_ok _ hx
  have IN : IntsIn S W (.slice la xs.length lc) xs := h.keep (keeps_below BW.out) (fun _ _ x => x)
  have LA := hid (last_is _ xs W IN h0)
  have a0 : ∀ o, (W.alloc o).cell? ⟨w.heap.size, 0, none⟩ = some (.int .i64 ri) := fun o => Lib.cell?_alloc_some _ x0
  have ac : ∀ o i u, (#[.int .i64 0, .int .i64 0, .int .i64 0, .int .i64 0, .string ⟨#[]⟩, .int .i64 0, .slice none 0 0, .bool false, .int .i64 0] : Array Value)[i]? = some u → (W.alloc o).cell? ⟨w.heap.size + 1, i, none⟩ = some u := fun o i u hu => Lib.cell?_alloc_some _ ((zc i).trans hu)
  have af : ∀ o i, (W.alloc o).frozen? ⟨w.heap.size + 1, i, none⟩ = false := fun o i => ((below_box W o).frozen (p := ⟨w.heap.size + 1, i, none⟩) (by show w.heap.size + 1 < W.heap.size; omega)).trans (zf i)
  have y0 : W.cell? ⟨w.heap.size + 1, 0, none⟩ = some (.int .i64 0) := zc 0
  have y1 : W.cell? ⟨w.heap.size + 1, 1, none⟩ = some (.int .i64 0) := zc 1
  have y2 : W.cell? ⟨w.heap.size + 1, 2, none⟩ = some (.int .i64 0) := zc 2
  have y3 : W.cell? ⟨w.heap.size + 1, 3, none⟩ = some (.int .i64 0) := zc 3
  have y4 : W.cell? ⟨w.heap.size + 1, 4, none⟩ = some (.string ⟨#[]⟩) := zc 4
  have y5 : W.cell? ⟨w.heap.size + 1, 5, none⟩ = some (.int .i64 0) := zc 5
  have y6 : W.cell? ⟨w.heap.size + 1, 6, none⟩ = some (.slice none 0 0) := zc 6
  have y7 : W.cell? ⟨w.heap.size + 1, 7, none⟩ = some (.bool false) := zc 7
  have y8 : W.cell? ⟨w.heap.size + 1, 8, none⟩ = some (.int .i64 0) := zc 8
  have hne : ¬ (w.heap.size = W.heap.size) := by omega
  have hne1 : ¬ (w.heap.size + 1 = W.heap.size) := by omega
  clear ac zc af a0 rr hF hs IN h5 h hw
  obtain ⟨X, hX⟩ : ∃ X, xs.getD (xs.length - 1) default = X := ⟨_, rfl⟩
  rw [hX] at LK LA hx hfx
  clear hX
  rw [hfx] at LK
  simp only [Option.getD, Option.isSome, srcV] at LK
  clear hfx
  go_enter Try.func73, Try.ntmps73
  go_wp2_with fail
  go_at_call 78
  refine LA.out.mono ?_
  rintro e w1 ⟨rfl, rfl⟩
  go_wp2_with fail
  rw [Tx.setCell_self y0, Tx.setCell_self y1, Tx.setCell_self y2, Tx.setCell_self y3, Tx.setCell_self y4, Tx.setCell_self y5, Tx.setCell_self y6, Tx.setCell_self y7, Tx.setCell_self y8]
  exact bodyPost_ret (v := .tuple #[an0, .bool false]) (by simp [results, Try.results73, go_sem, eW, y0, y1, y2, y3, y4, y5, y6, y7, y8]) rfl ⟨rfl, BW.out.trans ((below_box W _).mono BW.out.size)⟩
set_option maxHeartbeats 4000000 in
set_option maxRecDepth 100000 in
theorem middle_final (kb sb n ri rj : Nat) (f : Int → Option MSrc) {S : Nat → Prop} (la : Option Addr) (lc : Nat) (xs : List Int) (w : World) (h : IntsIn S w (.slice la xs.length lc) xs) (hw : ∀ x ∈ xs, (Lit.int .i64 x).wf = true) (h5 : w.cell? ⟨kb, 5, none⟩ = some (.map (some sb))) (hs : Sc w sb n f) (h0 : 0 < xs.length) (s1 s2 : Nat) (s3 : Bool) (hfx : f (xs.getD (xs.length - 1) default) = some (s1, s2, s3, true)) : Calls Try.prog 73 #[.pointer (some ⟨kb, 0, none⟩), .agg #[.int .i64 ri, .int .i64 rj, .slice la xs.length lc]] w fun e w' => e = .returned (.tuple #[an0, .bool false]) ∧ Below w.heap.size w w' := by
  obtain ⟨W, hW⟩ : ∃ W, (w.alloc (.cells #[.int .i64 ri, .int .i64 rj, .slice la xs.length lc] 77)).alloc (.cells #[.int .i64 0, .int .i64 0, .int .i64 0, .int .i64 0, .string ⟨#[]⟩, .int .i64 0, .slice none 0 0, .bool false, .int .i64 0] 85) = W := ⟨_, rfl⟩
  have BW : Hid (Below w.heap.size w W) := by rw [← hW]; exact (below_box w _).alloc (by rw [alloc_size]; omega) _
  have e1 : (w.alloc (.cells #[.int .i64 ri, .int .i64 rj, .slice la xs.length lc] 77)).heap.size = w.heap.size + 1 := by rw [alloc_size]
  have eW : W.heap.size = w.heap.size + 2 := by rw [← hW, alloc_size, e1]
  have rr : ∀ i u, (#[.int .i64 ri, .int .i64 rj, .slice la xs.length lc] : Array Value)[i]? = some u → W.cell? ⟨w.heap.size, i, none⟩ = some u := fun i u hu => by
    rw [← hW]
    exact Lib.cell?_alloc_some _ ((new_cells w _ 77 i).trans hu)
  have x0 := rr 0 _ rfl
  have x2 := rr 2 _ rfl
  have zc : ∀ i, W.cell? ⟨w.heap.size + 1, i, none⟩ = (#[.int .i64 0, .int .i64 0, .int .i64 0, .int .i64 0, .string ⟨#[]⟩, .int .i64 0, .slice none 0 0, .bool false, .int .i64 0] : Array Value)[i]? := fun i => by
    rw [← hW, ← e1]
    exact new_cells _ _ 85 i
  have zf : ∀ i, W.frozen? ⟨w.heap.size + 1, i, none⟩ = false := fun i => by
    rw [← hW, ← e1]
    exact Lib.frozen_of_heap (heap_alloc_new _ _) i
  obtain ⟨F, hF, _⟩ := id hs
  have c5 := (BW.out.cell (p := ⟨kb, 5, none⟩) (World.block_lt_of_cell? _ _ h5)).trans h5
  have hx : (Lit.int .i64 (xs.getD (xs.length - 1) default)).wf = true := hw _ (by simp [List.getD, List.getElem?_eq_getElem (show xs.length - 1 < xs.length by omega)])
  have LK := (hs.same (BW.out.block sb hF.lt)).look_ok _ hx
  have IN : IntsIn S W (.slice la xs.length lc) xs := h.keep (keeps_below BW.out) (fun _ _ x => x)
  have LA := hid (last_is _ xs W IN h0)
  have a0 : ∀ o, (W.alloc o).cell? ⟨w.heap.size, 0, none⟩ = some (.int .i64 ri) := fun o => Lib.cell?_alloc_some _ x0
  have ac : ∀ o i u, (#[.int .i64 0, .int .i64 0, .int .i64 0, .int .i64 0, .string ⟨#[]⟩, .int .i64 0, .slice none 0 0, .bool false, .int .i64 0] : Array Value)[i]? = some u → (W.alloc o).cell? ⟨w.heap.size + 1, i, none⟩ = some u := fun o i u hu => Lib.cell?_alloc_some _ ((zc i).trans hu)
  have af : ∀ o i, (W.alloc o).frozen? ⟨w.heap.size + 1, i, none⟩ = false := fun o i => ((below_box W o).frozen (p := ⟨w.heap.size + 1, i, none⟩) (by show w.heap.size + 1 < W.heap.size; omega)).trans (zf i)
  have y0 : W.cell? ⟨w.heap.size + 1, 0, none⟩ = some (.int .i64 0) := zc 0
  have y1 : W.cell? ⟨w.heap.size + 1, 1, none⟩ = some (.int .i64 0) := zc 1
  have y2 : W.cell? ⟨w.heap.size + 1, 2, none⟩ = some (.int .i64 0) := zc 2
  have y3 : W.cell? ⟨w.heap.size + 1, 3, none⟩ = some (.int .i64 0) := zc 3
  have y4 : W.cell? ⟨w.heap.size + 1, 4, none⟩ = some (.string ⟨#[]⟩) := zc 4
  have y5 : W.cell? ⟨w.heap.size + 1, 5, none⟩ = some (.int .i64 0) := zc 5
  have y6 : W.cell? ⟨w.heap.size + 1, 6, none⟩ = some (.slice none 0 0) := zc 6
  have y7 : W.cell? ⟨w.heap.size + 1, 7, none⟩ = some (.bool false) := zc 7
  have y8 : W.cell? ⟨w.heap.size + 1, 8, none⟩ = some (.int .i64 0) := zc 8
  have hne : ¬ (w.heap.size = W.heap.size) := by omega
  have hne1 : ¬ (w.heap.size + 1 = W.heap.size) := by omega
  clear ac zc af a0 rr hF hs IN h5 h hw
  obtain ⟨X, hX⟩ : ∃ X, xs.getD (xs.length - 1) default = X := ⟨_, rfl⟩
  rw [hX] at LK LA hx hfx
  clear hX
  rw [hfx] at LK
  simp only [Option.getD, Option.isSome, srcV] at LK
  clear hfx
  go_enter Try.func73, Try.ntmps73
  go_wp2_with fail
  go_at_call 78
  refine LA.out.mono ?_
  rintro e w1 ⟨rfl, rfl⟩
  go_wp2_with fail
  rw [Tx.setCell_self y0, Tx.setCell_self y1, Tx.setCell_self y2, Tx.setCell_self y3, Tx.setCell_self y4, Tx.setCell_self y5, Tx.setCell_self y6, Tx.setCell_self y7, Tx.setCell_self y8]
  exact bodyPost_ret (v := .tuple #[an0, .bool false]) (by simp [results, Try.results73, go_sem, eW, y0, y1, y2, y3, y4, y5, y6, y7, y8]) rfl ⟨rfl, BW.out.trans ((below_box W _).mono BW.out.size)⟩
set_option maxHeartbeats 4000000 in
set_option maxRecDepth 100000 in
theorem middle_same (kb sb n ri rj : Nat) (f : Int → Option MSrc) {S : Nat → Prop} (la : Option Addr) (lc : Nat) (xs : List Int) (w : World) (h : IntsIn S w (.slice la xs.length lc) xs) (hw : ∀ x ∈ xs, (Lit.int .i64 x).wf = true) (h5 : w.cell? ⟨kb, 5, none⟩ = some (.map (some sb))) (hs : Sc w sb n f) (h0 : 0 < xs.length) (s2 : Nat) (s3 : Bool) (hfx : f (xs.getD (xs.length - 1) default) = some (ri, s2, s3, false)) : Calls Try.prog 73 #[.pointer (some ⟨kb, 0, none⟩), .agg #[.int .i64 ri, .int .i64 rj, .slice la xs.length lc]] w fun e w' => e = .returned (.tuple #[an0, .bool false]) ∧ Below w.heap.size w w' := by
  obtain ⟨W, hW⟩ : ∃ W, (w.alloc (.cells #[.int .i64 ri, .int .i64 rj, .slice la xs.length lc] 77)).alloc (.cells #[.int .i64 0, .int .i64 0, .int .i64 0, .int .i64 0, .string ⟨#[]⟩, .int .i64 0, .slice none 0 0, .bool false, .int .i64 0] 85) = W := ⟨_, rfl⟩
  have BW : Hid (Below w.heap.size w W) := by rw [← hW]; exact (below_box w _).alloc (by rw [alloc_size]; omega) _
  have e1 : (w.alloc (.cells #[.int .i64 ri, .int .i64 rj, .slice la xs.length lc] 77)).heap.size = w.heap.size + 1 := by rw [alloc_size]
  have eW : W.heap.size = w.heap.size + 2 := by rw [← hW, alloc_size, e1]
  have rr : ∀ i u, (#[.int .i64 ri, .int .i64 rj, .slice la xs.length lc] : Array Value)[i]? = some u → W.cell? ⟨w.heap.size, i, none⟩ = some u := fun i u hu => by
    rw [← hW]
    exact Lib.cell?_alloc_some _ ((new_cells w _ 77 i).trans hu)
  have x0 := rr 0 _ rfl
  have x2 := rr 2 _ rfl
  have zc : ∀ i, W.cell? ⟨w.heap.size + 1, i, none⟩ = (#[.int .i64 0, .int .i64 0, .int .i64 0, .int .i64 0, .string ⟨#[]⟩, .int .i64 0, .slice none 0 0, .bool false, .int .i64 0] : Array Value)[i]? := fun i => by
    rw [← hW, ← e1]
    exact new_cells _ _ 85 i
  have zf : ∀ i, W.frozen? ⟨w.heap.size + 1, i, none⟩ = false := fun i => by
    rw [← hW, ← e1]
    exact Lib.frozen_of_heap (heap_alloc_new _ _) i
  obtain ⟨F, hF, _⟩ := id hs
  have c5 := (BW.out.cell (p := ⟨kb, 5, none⟩) (World.block_lt_of_cell? _ _ h5)).trans h5
  have hx : (Lit.int .i64 (xs.getD (xs.length - 1) default)).wf = true := hw _ (by simp [List.getD, List.getElem?_eq_getElem (show xs.length - 1 < xs.length by omega)])
  have LK := (hs.same (BW.out.block sb hF.lt)).look_ok _ hx
  have IN : IntsIn S W (.slice la xs.length lc) xs := h.keep (keeps_below BW.out) (fun _ _ x => x)
  have LA := hid (last_is _ xs W IN h0)
  have a0 : ∀ o, (W.alloc o).cell? ⟨w.heap.size, 0, none⟩ = some (.int .i64 ri) := fun o => Lib.cell?_alloc_some _ x0
  have ac : ∀ o i u, (#[.int .i64 0, .int .i64 0, .int .i64 0, .int .i64 0, .string ⟨#[]⟩, .int .i64 0, .slice none 0 0, .bool false, .int .i64 0] : Array Value)[i]? = some u → (W.alloc o).cell? ⟨w.heap.size + 1, i, none⟩ = some u := fun o i u hu => Lib.cell?_alloc_some _ ((zc i).trans hu)
  have af : ∀ o i, (W.alloc o).frozen? ⟨w.heap.size + 1, i, none⟩ = false := fun o i => ((below_box W o).frozen (p := ⟨w.heap.size + 1, i, none⟩) (by show w.heap.size + 1 < W.heap.size; omega)).trans (zf i)
  have y0 : W.cell? ⟨w.heap.size + 1, 0, none⟩ = some (.int .i64 0) := zc 0
  have y1 : W.cell? ⟨w.heap.size + 1, 1, none⟩ = some (.int .i64 0) := zc 1
  have y2 : W.cell? ⟨w.heap.size + 1, 2, none⟩ = some (.int .i64 0) := zc 2
  have y3 : W.cell? ⟨w.heap.size + 1, 3, none⟩ = some (.int .i64 0) := zc 3
  have y4 : W.cell? ⟨w.heap.size + 1, 4, none⟩ = some (.string ⟨#[]⟩) := zc 4
  have y5 : W.cell? ⟨w.heap.size + 1, 5, none⟩ = some (.int .i64 0) := zc 5
  have y6 : W.cell? ⟨w.heap.size + 1, 6, none⟩ = some (.slice none 0 0) := zc 6
  have y7 : W.cell? ⟨w.heap.size + 1, 7, none⟩ = some (.bool false) := zc 7
  have y8 : W.cell? ⟨w.heap.size + 1, 8, none⟩ = some (.int .i64 0) := zc 8
  have hne : ¬ (w.heap.size = W.heap.size) := by omega
  have hne1 : ¬ (w.heap.size + 1 = W.heap.size) := by omega
  clear ac zc af a0 rr hF hs IN h5 h hw
  obtain ⟨X, hX⟩ : ∃ X, xs.getD (xs.length - 1) default = X := ⟨_, rfl⟩
  rw [hX] at LK LA hx hfx
  clear hX
  rw [hfx] at LK
  simp only [Option.getD, Option.isSome, srcV] at LK
  clear hfx
  go_enter Try.func73, Try.ntmps73
  go_wp2_with fail
  go_at_call 78
  refine LA.out.mono ?_
  rintro e w1 ⟨rfl, rfl⟩
  go_wp2_with fail
  rw [Tx.setCell_self y0, Tx.setCell_self y1, Tx.setCell_self y2, Tx.setCell_self y3, Tx.setCell_self y4, Tx.setCell_self y5, Tx.setCell_self y6, Tx.setCell_self y7, Tx.setCell_self y8]
  exact bodyPost_ret (v := .tuple #[an0, .bool false]) (by simp [results, Try.results73, go_sem, eW, y0, y1, y2, y3, y4, y5, y6, y7, y8]) rfl ⟨rfl, BW.out.trans ((below_box W _).mono BW.out.size)⟩
set_option maxHeartbeats 4000000 in
set_option maxRecDepth 100000 in
theorem middle_loud (kb sb n ri rj : Nat) (f : Int → Option MSrc) {S : Nat → Prop} (la : Option Addr) (lc : Nat) (xs : List Int) (w : World) (h : IntsIn S w (.slice la xs.length lc) xs) (hw : ∀ x ∈ xs, (Lit.int .i64 x).wf = true) (h5 : w.cell? ⟨kb, 5, none⟩ = some (.map (some sb))) (hs : Sc w sb n f) (h0 : 0 < xs.length) (s1 s2 : Nat) (s3 : Bool) (hfx : f (xs.getD (xs.length - 1) default) = some (s1, s2, s3, false)) (hny : s1 ≠ ri) : Calls Try.prog 73 #[.pointer (some ⟨kb, 0, none⟩), .agg #[.int .i64 ri, .int .i64 rj, .slice la xs.length lc]] w fun e w' => e = .returned (.tuple #[anV 6 s1 (xs.getD (xs.length - 1) default), .bool true]) ∧ Below w.heap.size w w' := by
  obtain ⟨W, hW⟩ : ∃ W, (w.alloc (.cells #[.int .i64 ri, .int .i64 rj, .slice la xs.length lc] 77)).alloc (.cells #[.int .i64 0, .int .i64 0, .int .i64 0, .int .i64 0, .string ⟨#[]⟩, .int .i64 0, .slice none 0 0, .bool false, .int .i64 0] 85) = W := ⟨_, rfl⟩
  have BW : Hid (Below w.heap.size w W) := by rw [← hW]; exact (below_box w _).alloc (by rw [alloc_size]; omega) _
  have e1 : (w.alloc (.cells #[.int .i64 ri, .int .i64 rj, .slice la xs.length lc] 77)).heap.size = w.heap.size + 1 := by rw [alloc_size]
  have eW : W.heap.size = w.heap.size + 2 := by rw [← hW, alloc_size, e1]
  have rr : ∀ i u, (#[.int .i64 ri, .int .i64 rj, .slice la xs.length lc] : Array Value)[i]? = some u → W.cell? ⟨w.heap.size, i, none⟩ = some u := fun i u hu => by
    rw [← hW]
    exact Lib.cell?_alloc_some _ ((new_cells w _ 77 i).trans hu)
  have x0 := rr 0 _ rfl
  have x2 := rr 2 _ rfl
  have zc : ∀ i, W.cell? ⟨w.heap.size + 1, i, none⟩ = (#[.int .i64 0, .int .i64 0, .int .i64 0, .int .i64 0, .string ⟨#[]⟩, .int .i64 0, .slice none 0 0, .bool false, .int .i64 0] : Array Value)[i]? := fun i => by
    rw [← hW, ← e1]
    exact new_cells _ _ 85 i
  have zf : ∀ i, W.frozen? ⟨w.heap.size + 1, i, none⟩ = false := fun i => by
    rw [← hW, ← e1]
    exact Lib.frozen_of_heap (heap_alloc_new _ _) i
  obtain ⟨F, hF, _⟩ := id hs
  have c5 := (BW.out.cell (p := ⟨kb, 5, none⟩) (World.block_lt_of_cell? _ _ h5)).trans h5
  have hx : (Lit.int .i64 (xs.getD (xs.length - 1) default)).wf = true := hw _ (by simp [List.getD, List.getElem?_eq_getElem (show xs.length - 1 < xs.length by omega)])
  have LK := (hs.same (BW.out.block sb hF.lt)).look_ok _ hx
  have IN : IntsIn S W (.slice la xs.length lc) xs := h.keep (keeps_below BW.out) (fun _ _ x => x)
  have LA := hid (last_is _ xs W IN h0)
  have a0 : ∀ o, (W.alloc o).cell? ⟨w.heap.size, 0, none⟩ = some (.int .i64 ri) := fun o => Lib.cell?_alloc_some _ x0
  have ac : ∀ o i u, (#[.int .i64 0, .int .i64 0, .int .i64 0, .int .i64 0, .string ⟨#[]⟩, .int .i64 0, .slice none 0 0, .bool false, .int .i64 0] : Array Value)[i]? = some u → (W.alloc o).cell? ⟨w.heap.size + 1, i, none⟩ = some u := fun o i u hu => Lib.cell?_alloc_some _ ((zc i).trans hu)
  have af : ∀ o i, (W.alloc o).frozen? ⟨w.heap.size + 1, i, none⟩ = false := fun o i => ((below_box W o).frozen (p := ⟨w.heap.size + 1, i, none⟩) (by show w.heap.size + 1 < W.heap.size; omega)).trans (zf i)
  have y0 : W.cell? ⟨w.heap.size + 1, 0, none⟩ = some (.int .i64 0) := zc 0
  have y1 : W.cell? ⟨w.heap.size + 1, 1, none⟩ = some (.int .i64 0) := zc 1
  have y2 : W.cell? ⟨w.heap.size + 1, 2, none⟩ = some (.int .i64 0) := zc 2
  have y3 : W.cell? ⟨w.heap.size + 1, 3, none⟩ = some (.int .i64 0) := zc 3
  have y4 : W.cell? ⟨w.heap.size + 1, 4, none⟩ = some (.string ⟨#[]⟩) := zc 4
  have y5 : W.cell? ⟨w.heap.size + 1, 5, none⟩ = some (.int .i64 0) := zc 5
  have y6 : W.cell? ⟨w.heap.size + 1, 6, none⟩ = some (.slice none 0 0) := zc 6
  have y7 : W.cell? ⟨w.heap.size + 1, 7, none⟩ = some (.bool false) := zc 7
  have y8 : W.cell? ⟨w.heap.size + 1, 8, none⟩ = some (.int .i64 0) := zc 8
  have hne : ¬ (w.heap.size = W.heap.size) := by omega
  have hne1 : ¬ (w.heap.size + 1 = W.heap.size) := by omega
  clear ac zc af a0 rr hF hs IN h5 h hw
  obtain ⟨X, hX⟩ : ∃ X, xs.getD (xs.length - 1) default = X := ⟨_, rfl⟩
  rw [hX] at LK LA hx hfx
  rw [hX]
  clear hX
  rw [hfx] at LK
  simp only [Option.getD, Option.isSome, srcV] at LK
  clear hfx
  have nyb : ((s1 : Int) == (ri : Int)) = false := by simp; omega
  clear hny
  go_enter Try.func73, Try.ntmps73
  go_wp2_with fail
  go_at_call 78
  refine LA.out.mono ?_
  rintro e w1 ⟨rfl, rfl⟩
  go_wp2_with fail
  have hge : w.heap.size ≤ w.heap.size + 1 := by omega
  refine bodyPost_ret (v := .tuple #[anV 6 s1 X, .bool true]) (by simp [results, Try.results73, go_sem, eW, y0, y1, y2, y3, y4, y5, y6, y7, y8]) rfl ⟨rfl, ?_⟩
  refine Below.alloc ?_ ?_ _
  · exact (((((((((BW.out.setCell hge _).setCell hge _).setCell hge _).setCell hge _).setCell hge _).setCell hge _).setCell hge _).setCell hge _).setCell hge _)
  · simp only [World.setCell, Array.size_modify]; omega
end Go.Proofs.Ytnfbcmnlloipiaa
