/-
  A look notes an empty read.
-/
import Derived.Test.YtnfbcmnlloipiaaLs2
namespace Go.Proofs.Ytnfbcmnlloipiaa
set_option linter.unusedVariables false
set_option linter.unusedSimpArgs false
open Go.RowKit Go.Lib Go.Maps

theorem Try.infoRead : (Try.prog.info? 77).map (fun i => (i.zero, i.size, i.bytes)) = some (some (.agg #[.int .i64 0, .int .i64 0, .slice none 0 0]), 3, 40) := by kernel_rfl
set_option maxHeartbeats 4000000 in
set_option maxRecDepth 100000 in
theorem note_0 (kb sb : Nat) (s : ByteArray) (la : Option Addr) (lc : Nat) (w : World) (h : Lk w kb s (.slice none 0 0) sb) (hf : ∀ i, w.frozen? ⟨kb, i, none⟩ = false) : Calls Try.prog 69 #[.pointer (some ⟨kb, 0, none⟩), rd0 la lc] w fun e w' => e = .returned (.tuple #[]) ∧ (∃ g cap, w'.cell? ⟨kb, 1, none⟩ = some (.slice (some ⟨g, 0, none⟩) 1 cap) ∧ w.heap.size ≤ g ∧ w'.cell? ⟨g, 0, none⟩ = some (.int .i64 0) ∧ w'.cell? ⟨g, 1, none⟩ = some (.int .i64 0) ∧ w'.cell? ⟨g, 2, none⟩ = some (.slice la 0 lc)) ∧ Gro (fun b => b = kb) w w' ∧ (∀ i, i ≠ 1 → w'.cell? ⟨kb, i, none⟩ = w.cell? ⟨kb, i, none⟩) ∧ (∀ i, w'.frozen? ⟨kb, i, none⟩ = false) := by
  obtain ⟨i0, hi0, hz0, hz1, hz2⟩ := Tx.info_parts Try.infoRead
  have HI0 := hid hi0
  have HZ0 := hid hz0
  have HZ1 := hid hz1
  have HZ2 := hid hz2
  clear hi0 hz0 hz1 hz2
  have hkb : kb < w.heap.size := World.block_lt_of_cell? _ _ h.c0
  obtain ⟨W1, hW1⟩ : ∃ W1, w.alloc (.cells #[.int .i64 0, .int .i64 0, .slice la 0 lc] 77) = W1 := ⟨_, rfl⟩
  have hs1 : W1.heap.size = w.heap.size + 1 := by rw [← hW1, alloc_size]
  have B1 : Hid (Below w.heap.size w W1) := by rw [← hW1]; exact below_box w _
  have x0 : W1.cell? ⟨w.heap.size, 0, none⟩ = some (.int .i64 0) := by rw [← hW1]; exact new_cells w _ 77 0
  have x1 : W1.cell? ⟨w.heap.size, 1, none⟩ = some (.int .i64 0) := by rw [← hW1]; exact new_cells w _ 77 1
  have x2 : W1.cell? ⟨w.heap.size, 2, none⟩ = some (.slice la 0 lc) := by rw [← hW1]; exact new_cells w _ 77 2
  have c1 : W1.cell? ⟨kb, 1, none⟩ = some (.slice none 0 0) := (B1.out.cell (p := ⟨kb, 1, none⟩) hkb).trans h.c1
  have c4 : W1.cell? ⟨kb, 4, none⟩ = some (.slice none 0 0) := (B1.out.cell (p := ⟨kb, 4, none⟩) hkb).trans h.c4
  have f1 : W1.frozen? ⟨kb, 1, none⟩ = false := (B1.out.frozen (p := ⟨kb, 1, none⟩) hkb).trans (hf 1)
  have HF := hid hf
  clear h hf
  go_enter Try.func69, Try.ntmps69
  go_wp2_with fail
  clear hW1
  go_quiet (fail)
  go_wp2_with fail
  have NEW : Hid (∀ n, ∀ j u, ([.int .i64 0, .int .i64 0, .slice la 0 lc] : List Value)[j]? = some u → ((W1.drewN n).alloc (.cells #[.int .i64 0, .int .i64 0, .slice la 0 lc] 77)).cell? ((⟨w.heap.size + 1, 0, none⟩ : Addr).add j) = some u) := fun n => by
    have h := World.news_of_block (w := (W1.drewN n).alloc (.cells #[.int .i64 0, .int .i64 0, .slice la 0 lc] 77)) (cs := #[.int .i64 0, .int .i64 0, .slice la 0 lc]) (t := 77) (fr := (0, 0)) (heap_alloc_new (W1.drewN n) _)
    rw [show (W1.drewN n).heap.size = w.heap.size + 1 from hs1] at h
    exact h
  have ONE : Hid (∀ u ∈ ([.int .i64 0, .int .i64 0, .slice la 0 lc] : List Value), u.oneCell' = true) := by
    intro u hu
    simp only [List.mem_cons, List.not_mem_nil, or_false] at hu
    rcases hu with rfl | rfl | rfl <;> rfl
  have SZ : Hid (∀ n, ((W1.drewN n).alloc (.cells #[.int .i64 0, .int .i64 0, .slice la 0 lc] 77)).heap.size = w.heap.size + 2) := fun n => by rw [alloc_size]; show W1.heap.size + 1 = _; rw [hs1]
  have BX : Hid (∀ n b, b ≤ w.heap.size → ((W1.drewN n).alloc (.cells #[.int .i64 0, .int .i64 0, .slice la 0 lc] 77)).heap[b]? = W1.heap[b]?) := fun n b hb => by rw [alloc_at, if_neg (by show b ≠ W1.heap.size; omega)]; rfl
  have GX : Hid (∀ n, Gro (fun b => b = kb) w ((W1.drewN n).alloc (.cells #[.int .i64 0, .int .i64 0, .slice la 0 lc] 77))) := fun n => Gro.of_below ((below_drewN B1.out n).trans ((below_box (W1.drewN n) _).mono (by show w.heap.size ≤ W1.heap.size; omega)))
  go_region_law (first
    | (refine step_append_lies _ rfl (.tmp 22) (.tmp 24) 75 rfl w.heap.size 77 i0 _ 3 40 Try.underlying75 HI0.out HZ0.out HZ1.out HZ2.out rfl (by decide) (.slice none 0 0) 0 [] (by simp [Act.eval, Act.put]) (World.ownsRow_nil _ _ _ _) ⟨w.heap.size + 1, 0, none⟩ 1 1 [.int .i64 0, .int .i64 0, .slice la 0 lc] (by simp [Act.eval, Act.put]) rfl (NEW.out _) ONE.out (by decide) (by decide) (by decide) (by rw [SZ.out]; omega) (w.heap.size + 2) (SZ.out _) ?_; intro g8 cap8 w8 hown8 hgrow8 hat8 hglt8; have G8 := hid hgrow8; have O8 := hid hown8; have A8 := hid hat8; have L8 := hid hglt8; have d1 : w8.cell? ⟨kb, 1, none⟩ = some (.slice none 0 0) := (World.cell?_of_block (a := ⟨kb, 1, none⟩) ((hgrow8.block kb (by rw [SZ.out]; omega) (by intro e; cases e)).trans (BX.out _ kb (by omega)))).trans c1; have e1 : w8.frozen? ⟨kb, 1, none⟩ = false := (Tx.frozen_of_block ((hgrow8.block kb (by rw [SZ.out]; omega) (by intro e; cases e)).trans (BX.out _ kb (by omega))) 1).trans f1; have K8 : Hid (w8.heap[kb]? = W1.heap[kb]?) := (hgrow8.block kb (by rw [SZ.out]; omega) (by intro e; cases e)).trans (BX.out _ kb (by omega)); have Y8 : Hid (Gro (fun b => b = kb) w w8) := ⟨hgrow8.os.trans (GX.out _).os, hgrow8.tape.trans (GX.out _).tape, hgrow8.output.trans (GX.out _).output, Nat.le_trans (GX.out _).size hgrow8.size, fun b hb hn => (hgrow8.block b (Nat.lt_of_lt_of_le hb (GX.out _).size) (by intro e; cases e)).trans ((GX.out _).block b hb hn)⟩; clear hown8 hgrow8 hat8 hglt8))
  all_goals (try go_wp2_with fail)
  all_goals
    have hg8 : w.heap.size ≤ g8 := (own_block O8.out rfl).1
    have oc : ∀ j u, ([.int .i64 0, .int .i64 0, .slice la 0 lc] : List Value)[j]? = some u → (w8.setCell ⟨kb, 1, none⟩ (.slice (some ⟨g8, 0, none⟩) 1 cap8)).cell? ⟨g8, j, none⟩ = some u := fun j u hu => by
      have h := O8.out.cells rfl j u hu
      rw [show ((⟨g8, 0, none⟩ : Addr).add j) = ⟨g8, j, none⟩ from by rw [Addr.add_lit, Nat.zero_add]] at h
      exact (World.cell?_setCell_other _ _ _ _ (fun c => by have := congrArg Addr.block c; simp only [] at this; omega)).trans h
    have kc : ∀ i, w8.cell? ⟨kb, i, none⟩ = w.cell? ⟨kb, i, none⟩ := fun i => (World.cell?_of_block (a := ⟨kb, i, none⟩) K8.out).trans (B1.out.cell (p := ⟨kb, i, none⟩) hkb)
    go_end0
    refine ⟨rfl, ⟨g8, cap8, World.cell?_setCell_same _ _ _ d1, hg8, oc 0 _ rfl, oc 1 _ rfl, oc 2 _ rfl⟩, ⟨Y8.out.os, Y8.out.tape, Y8.out.output, by simpa [World.setCell] using Y8.out.size, fun b hb hn => (set_ne hn).trans (Y8.out.block b hb hn)⟩, fun i hi => ?_, fun i => ?_⟩
    · exact (World.cell?_setCell_other _ _ _ _ (fun c => hi (by have := congrArg Addr.off c; simp only [] at this; omega))).trans (kc i)
    · rw [World.frozen?_setCell]
      exact (Tx.frozen_of_block K8.out i).trans ((B1.out.frozen (p := ⟨kb, i, none⟩) hkb).trans (HF.out i))
end Go.Proofs.Ytnfbcmnlloipiaa
