/-
  aborted: a value of a transaction that failed.
-/
import Derived.Test.YtnfbcmnlloipiaaLg9
namespace Go.Proofs.Ytnfbcmnlloipiaa
set_option linter.unusedVariables false
set_option linter.unusedSimpArgs false
open Go.RowKit Go.Lib Go.Maps

set_option maxHeartbeats 4000000 in
set_option maxRecDepth 100000 in
theorem aborted_is (kb sb n ri rj : Nat) (f : Int → Option MSrc) {S : Nat → Prop} (la : Option Addr) (lc : Nat) (xs : List Int) (w : World) (h : IntsIn S w (.slice la xs.length lc) xs) (hw : ∀ x ∈ xs, (Lit.int .i64 x).wf = true) (h5 : w.cell? ⟨kb, 5, none⟩ = some (.map (some sb))) (hs : Sc w sb n f) : Calls Try.prog 72 #[.pointer (some ⟨kb, 0, none⟩), .agg #[.int .i64 ri, .int .i64 rj, .slice la xs.length lc]] w fun e w' => Found (abrB f) xs 5 (fun x => (((f x).getD noSrc).1 : Int)) e ∧ Below w.heap.size w w' := by
  obtain ⟨W, hW⟩ : ∃ W, ((w.alloc (.cells #[.pointer (some ⟨kb, 0, none⟩)] 125)).alloc (.cells #[.int .i64 ri, .int .i64 rj, .slice la xs.length lc] 77)).alloc (.cells #[.int .i64 0, .int .i64 0, .int .i64 0, .int .i64 0, .string ⟨#[]⟩, .int .i64 0, .slice none 0 0, .bool false, .int .i64 0] 85) = W := ⟨_, rfl⟩
  have BW : Hid (Below w.heap.size w W) := by rw [← hW]; exact ((below_box w _).alloc (by rw [alloc_size]; omega) _).alloc (by rw [alloc_size, alloc_size]; omega) _
  have e1 : (w.alloc (.cells #[.pointer (some ⟨kb, 0, none⟩)] 125)).heap.size = w.heap.size + 1 := by rw [alloc_size]
  have e2 : ((w.alloc (.cells #[.pointer (some ⟨kb, 0, none⟩)] 125)).alloc (.cells #[.int .i64 ri, .int .i64 rj, .slice la xs.length lc] 77)).heap.size = w.heap.size + 1 + 1 := by rw [alloc_size, e1]
  have eW : W.heap.size = w.heap.size + 3 := by rw [← hW, alloc_size, e2]
  have d0 : W.cell? ⟨w.heap.size, 0, none⟩ = some (.pointer (some ⟨kb, 0, none⟩)) := by rw [← hW]; exact Lib.cell?_alloc_some _ (Lib.cell?_alloc_some _ (new_cells w _ 125 0))
  have rr : ∀ i u, (#[.int .i64 ri, .int .i64 rj, .slice la xs.length lc] : Array Value)[i]? = some u → W.cell? ⟨w.heap.size + 1, i, none⟩ = some u := fun i u hu => by
    rw [← hW]
    have q := new_cells (w.alloc (.cells #[.pointer (some ⟨kb, 0, none⟩)] 125)) #[.int .i64 ri, .int .i64 rj, .slice la xs.length lc] 77 i
    rw [e1] at q
    exact Lib.cell?_alloc_some _ (q.trans hu)
  have x0 := rr 0 _ rfl
  have x1 := rr 1 _ rfl
  have x2 := rr 2 _ rfl
  have zc : ∀ i, W.cell? ⟨w.heap.size + 1 + 1, i, none⟩ = (#[.int .i64 0, .int .i64 0, .int .i64 0, .int .i64 0, .string ⟨#[]⟩, .int .i64 0, .slice none 0 0, .bool false, .int .i64 0] : Array Value)[i]? := fun i => by
    rw [← hW, ← e2]
    exact new_cells _ _ 85 i
  have zf : ∀ i, W.frozen? ⟨w.heap.size + 1 + 1, i, none⟩ = false := fun i => by
    rw [← hW, ← e2]
    exact Lib.frozen_of_heap (heap_alloc_new _ _) i
  obtain ⟨F, hF, _⟩ := id hs
  have SE : Hid (Sees W w.heap.size kb (w.heap.size + 1) sb n ri rj f) := ⟨d0, (BW.out.cell (p := ⟨kb, 5, none⟩) (World.block_lt_of_cell? _ _ h5)).trans h5, hs.same (BW.out.block sb hF.lt), x0, x1⟩
  have IN : Hid (IntsIn S W (.slice la xs.length lc) xs) := h.keep (keeps_below BW.out) (fun _ _ x => x)
  have IX := hid (idx_44 w.heap.size kb (w.heap.size + 1) sb n ri rj f _ xs W IN.out hw SE.out)
  have ZC := hid zc
  have ZF := hid zf
  have HW := hid hw
  clear hF hs h h5 hw rr zc zf e1 e2 d0 x0 x1
  go_enter Try.func72, Try.ntmps72
  go_wp2_with fail
  go_at_call 85
  refine IX.out.mono ?_
  rintro e w1 ⟨r, rfl, hi, b1⟩
  have n1 : ∀ i, w1.cell? ⟨w.heap.size + 1 + 1, i, none⟩ = W.cell? ⟨w.heap.size + 1 + 1, i, none⟩ := fun i => b1.cell (p := ⟨w.heap.size + 1 + 1, i, none⟩) (by show w.heap.size + 1 + 1 < W.heap.size; omega)
  have y0 := (n1 0).trans (ZC.out 0)
  have y1 := (n1 1).trans (ZC.out 1)
  have y2 := (n1 2).trans (ZC.out 2)
  have y3 := (n1 3).trans (ZC.out 3)
  have y4 := (n1 4).trans (ZC.out 4)
  have y5 := (n1 5).trans (ZC.out 5)
  have y6 := (n1 6).trans (ZC.out 6)
  have y7 := (n1 7).trans (ZC.out 7)
  have y8 := (n1 8).trans (ZC.out 8)
  simp only [List.getElem?_toArray, List.getElem?_cons_zero, List.getElem?_cons_succ] at y0 y1 y2 y3 y4 y5 y6 y7 y8
  have fz : ∀ i, w1.frozen? ⟨w.heap.size + 1 + 1, i, none⟩ = false := fun i => (b1.frozen (p := ⟨w.heap.size + 1 + 1, i, none⟩) (by show w.heap.size + 1 + 1 < W.heap.size; omega)).trans (ZF.out i)
  have z2 := (b1.cell (p := ⟨w.heap.size + 1, 2, none⟩) (by show w.heap.size + 1 < W.heap.size; omega)).trans x2
  have B1 : Hid (Below w.heap.size w w1) := BW.out.trans (b1.mono BW.out.size)
  have I1 : Hid (IntsIn S w1 (.slice la xs.length lc) xs) := IN.out.keep (keeps_below b1) (fun _ _ x => x)
  have S1 : Hid (Sees w1 w.heap.size kb (w.heap.size + 1) sb n ri rj f) := SE.out.later b1
  clear b1 n1 ZC ZF IX SE IN x2 hW BW eW
  rcases hi with ⟨rfl, hall⟩ | ⟨k, hk, rfl, hp, hbe⟩
  · have HA := hid hall
    clear hall
    go_wp2_with fail
    rw [Tx.setCell_self y0, Tx.setCell_self y1, Tx.setCell_self y2, Tx.setCell_self y3, Tx.setCell_self y4, Tx.setCell_self y5, Tx.setCell_self y6, Tx.setCell_self y7, Tx.setCell_self y8]
    exact bodyPost_ret (v := .tuple #[an0, .bool false]) (by simp [results, Try.results72, go_sem, y0, y1, y2, y3, y4, y5, y6, y7, y8]) rfl ⟨.inl ⟨HA.out, rfl⟩, B1.out⟩
  · obtain ⟨ao, c, hv, _, hc⟩ := id I1.out
    cases hv
    obtain ⟨b, off, rfl, _, hcc⟩ := hc (by omega)
    have v0 := hcc k hk
    have HP := hid hp
    have HQ := hid hbe
    have hk0 : ¬ ((k : Int) < 0) := by omega
    have hki : (k : Int) < xs.length := by omega
    clear hc hcc hp hbe
    obtain ⟨X, hX⟩ : ∃ X, xs.getD k default = X := ⟨_, rfl⟩
    rw [hX] at v0
    have HX := hid hX
    clear hX
    have hx : (Lit.int .i64 X).wf = true := HW.out _ (by rw [← HX.out]; simp [List.getD, List.getElem?_eq_getElem hk])
    have LK := (S1.out.hs.same (w' := w1.drew) rfl).look X hx
    have u0 := S1.out.hc
    have u5 := S1.out.h5
    obtain ⟨Y, hY⟩ : ∃ Y, (f X).getD noSrc = Y := ⟨_, rfl⟩
    have HY := hid hY
    rw [hY] at LK
    clear hY S1 HW
    obtain ⟨s1, s2, s3, s4⟩ := Y
    simp only [srcV] at LK
    have FL : ∀ W, (Instr.field 123 (.agg #[.int .i64 s1, .int .i64 s2, .bool s3, .bool s4]) 0).run Try.prog W = .ok (.int .i64 s1) W := fun W => by kernel_rfl
    go_wp2_with fail
    go_region
    go_wp2_with fail
    obtain ⟨Wz, hWz⟩ : ∃ Wz, ((((((((w1.setCell ⟨w.heap.size + 1 + 1, 0, none⟩ (.int .i64 5)).setCell ⟨w.heap.size + 1 + 1, 1, none⟩ (.int .i64 0)).setCell ⟨w.heap.size + 1 + 1, 2, none⟩ (.int .i64 0)).setCell ⟨w.heap.size + 1 + 1, 3, none⟩ (.int .i64 s1)).setCell ⟨w.heap.size + 1 + 1, 4, none⟩ (.string ⟨#[]⟩)).setCell ⟨w.heap.size + 1 + 1, 5, none⟩ (.int .i64 X)).setCell ⟨w.heap.size + 1 + 1, 6, none⟩ (.slice none 0 0)).setCell ⟨w.heap.size + 1 + 1, 7, none⟩ (.bool false)).setCell ⟨w.heap.size + 1 + 1, 8, none⟩ (.int .i64 0) = Wz := ⟨_, rfl⟩
    have za : (Wz.drew).cell? ⟨w.heap.size + 1 + 1, 0, none⟩ = some (.int .i64 5) := by show Wz.cell? _ = _; rw [← hWz]; simp [go_sem, y0, y1, y2, y3, y4, y5, y6, y7, y8]
    have zb : (Wz.drew).cell? ⟨w.heap.size + 1 + 1, 1, none⟩ = some (.int .i64 0) := by show Wz.cell? _ = _; rw [← hWz]; simp [go_sem, y0, y1, y2, y3, y4, y5, y6, y7, y8]
    have zc : (Wz.drew).cell? ⟨w.heap.size + 1 + 1, 2, none⟩ = some (.int .i64 0) := by show Wz.cell? _ = _; rw [← hWz]; simp [go_sem, y0, y1, y2, y3, y4, y5, y6, y7, y8]
    have zd : (Wz.drew).cell? ⟨w.heap.size + 1 + 1, 3, none⟩ = some (.int .i64 s1) := by show Wz.cell? _ = _; rw [← hWz]; simp [go_sem, y0, y1, y2, y3, y4, y5, y6, y7, y8]
    have ze : (Wz.drew).cell? ⟨w.heap.size + 1 + 1, 4, none⟩ = some (.string ⟨#[]⟩) := by show Wz.cell? _ = _; rw [← hWz]; simp [go_sem, y0, y1, y2, y3, y4, y5, y6, y7, y8]
    have zf : (Wz.drew).cell? ⟨w.heap.size + 1 + 1, 5, none⟩ = some (.int .i64 X) := by show Wz.cell? _ = _; rw [← hWz]; simp [go_sem, y0, y1, y2, y3, y4, y5, y6, y7, y8]
    have zg : (Wz.drew).cell? ⟨w.heap.size + 1 + 1, 6, none⟩ = some (.slice none 0 0) := by show Wz.cell? _ = _; rw [← hWz]; simp [go_sem, y0, y1, y2, y3, y4, y5, y6, y7, y8]
    have zh : (Wz.drew).cell? ⟨w.heap.size + 1 + 1, 7, none⟩ = some (.bool false) := by show Wz.cell? _ = _; rw [← hWz]; simp [go_sem, y0, y1, y2, y3, y4, y5, y6, y7, y8]
    have zi : (Wz.drew).cell? ⟨w.heap.size + 1 + 1, 8, none⟩ = some (.int .i64 0) := by show Wz.cell? _ = _; rw [← hWz]; simp [go_sem, y0, y1, y2, y3, y4, y5, y6, y7, y8]
    have hge : w.heap.size ≤ w.heap.size + 1 + 1 := by omega
    have BZ : Below w.heap.size w Wz := by rw [← hWz]; exact (((((((((B1.out.setCell hge _).setCell hge _).setCell hge _).setCell hge _).setCell hge _).setCell hge _).setCell hge _).setCell hge _).setCell hge _)
    simp only [hWz]
    clear hWz y0 y1 y2 y3 y4 y5 y6 y7 y8 fz
    exact bodyPost_ret (v := .tuple #[anV 5 s1 X, .bool true]) (by simp [results, Try.results72, go_sem, za, zb, zc, zd, ze, zf, zg, zh, zi]) rfl ⟨.inr ⟨k, hk, HP.out, HQ.out, by rw [HX.out]; show _ = Ending.returned (.tuple #[anV 5 (((f X).getD noSrc).1 : Int) X, .bool true]); rw [HY.out]⟩, ⟨BZ.os, BZ.tape, BZ.output, BZ.size, BZ.block⟩⟩
end Go.Proofs.Ytnfbcmnlloipiaa
