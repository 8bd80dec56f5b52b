/-
  A look notes an empty read.
  A look at a list, in memory; it notes a read.
  Where the values of a list come from, in memory.
  The first value of a list with something wrong: slices.IndexFunc with the closures of garbage and aborted.
  garbage: a value that nobody had written when it was read.
-/
import Derived.Test.YtnfbcmnlloipiaaV2
namespace Go.Proofs.Ytnfbcmnlloipiaa
set_option linter.unusedVariables false
set_option linter.unusedSimpArgs false
open Go.RowKit Go.Lib Go.Maps

theorem Try.infoRead : (Try.prog.info? 77).map (fun i => (i.zero, i.size, i.bytes)) = some (some (.agg #[.int .i64 0, .int .i64 0, .slice none 0 0]), 3, 40) := by kernel_rfl
set_option maxHeartbeats 4000000 in
set_option maxRecDepth 100000 in
theorem note_0 (kb sb : Nat) (s : ByteArray) (la : Option Addr) (lc : Nat) (w : World) (h : Lk w kb s (.slice none 0 0) sb) (hf : ∀ i, w.frozen? ⟨kb, i, none⟩ = false) : Calls Try.prog 69 #[.pointer (some ⟨kb, 0, none⟩), rd0 la lc] w fun e w' => e = .returned (.tuple #[]) ∧ (∃ g cap, w'.cell? ⟨kb, 1, none⟩ = some (.slice (some ⟨g, 0, none⟩) 1 cap) ∧ w.heap.size ≤ g ∧ w'.cell? ⟨g, 0, none⟩ = some (.int .i64 0) ∧ w'.cell? ⟨g, 1, none⟩ = some (.int .i64 0) ∧ w'.cell? ⟨g, 2, none⟩ = some (.slice la 0 lc)) ∧ Gro (fun b => b = kb) w w' ∧ (∀ i, i ≠ 1 → w'.cell? ⟨kb, i, none⟩ = w.cell? ⟨kb, i, none⟩) ∧ (∀ i, w'.frozen? ⟨kb, i, none⟩ = false) := by
  obtain ⟨i0, hi0, hz0, hz1, hz2⟩ := Tx.info_parts Try.infoRead
  have HI0 := hid hi0
  have HZ0 := hid hz0
  have HZ1 := hid hz1
  have HZ2 := hid hz2
  clear hi0 hz0 hz1 hz2
  have hkb : kb < w.heap.size := World.block_lt_of_cell? _ _ h.c0
  obtain ⟨W1, hW1⟩ : ∃ W1, w.alloc (.cells #[.int .i64 0, .int .i64 0, .slice la 0 lc] 77) = W1 := ⟨_, rfl⟩
  have hs1 : W1.heap.size = w.heap.size + 1 := by rw [← hW1, alloc_size]
  have B1 : Hid (Below w.heap.size w W1) := by rw [← hW1]; exact below_box w _
  have x0 : W1.cell? ⟨w.heap.size, 0, none⟩ = some (.int .i64 0) := by rw [← hW1]; exact new_cells w _ 77 0
  have x1 : W1.cell? ⟨w.heap.size, 1, none⟩ = some (.int .i64 0) := by rw [← hW1]; exact new_cells w _ 77 1
  have x2 : W1.cell? ⟨w.heap.size, 2, none⟩ = some (.slice la 0 lc) := by rw [← hW1]; exact new_cells w _ 77 2
  have c1 : W1.cell? ⟨kb, 1, none⟩ = some (.slice none 0 0) := (B1.out.cell (p := ⟨kb, 1, none⟩) hkb).trans h.c1
  have c4 : W1.cell? ⟨kb, 4, none⟩ = some (.slice none 0 0) := (B1.out.cell (p := ⟨kb, 4, none⟩) hkb).trans h.c4
  have f1 : W1.frozen? ⟨kb, 1, none⟩ = false := (B1.out.frozen (p := ⟨kb, 1, none⟩) hkb).trans (hf 1)
  have HF := hid hf
  clear h hf
  go_enter Try.func69, Try.ntmps69
  go_wp2_with fail
  clear hW1
  go_quiet (fail)
  go_wp2_with fail
  have NEW : Hid (∀ n, ∀ j u, ([.int .i64 0, .int .i64 0, .slice la 0 lc] : List Value)[j]? = some u → ((W1.drewN n).alloc (.cells #[.int .i64 0, .int .i64 0, .slice la 0 lc] 77)).cell? ((⟨w.heap.size + 1, 0, none⟩ : Addr).add j) = some u) := fun n => by
    have h := World.news_of_block (w := (W1.drewN n).alloc (.cells #[.int .i64 0, .int .i64 0, .slice la 0 lc] 77)) (cs := #[.int .i64 0, .int .i64 0, .slice la 0 lc]) (t := 77) (fr := (0, 0)) (heap_alloc_new (W1.drewN n) _)
    rw [show (W1.drewN n).heap.size = w.heap.size + 1 from hs1] at h
    exact h
  have ONE : Hid (∀ u ∈ ([.int .i64 0, .int .i64 0, .slice la 0 lc] : List Value), u.oneCell' = true) := by
    intro u hu
    simp only [List.mem_cons, List.not_mem_nil, or_false] at hu
    rcases hu with rfl | rfl | rfl <;> rfl
  have SZ : Hid (∀ n, ((W1.drewN n).alloc (.cells #[.int .i64 0, .int .i64 0, .slice la 0 lc] 77)).heap.size = w.heap.size + 2) := fun n => by rw [alloc_size]; show W1.heap.size + 1 = _; rw [hs1]
  have BX : Hid (∀ n b, b ≤ w.heap.size → ((W1.drewN n).alloc (.cells #[.int .i64 0, .int .i64 0, .slice la 0 lc] 77)).heap[b]? = W1.heap[b]?) := fun n b hb => by rw [alloc_at, if_neg (by show b ≠ W1.heap.size; omega)]; rfl
  have GX : Hid (∀ n, Gro (fun b => b = kb) w ((W1.drewN n).alloc (.cells #[.int .i64 0, .int .i64 0, .slice la 0 lc] 77))) := fun n => Gro.of_below ((below_drewN B1.out n).trans ((below_box (W1.drewN n) _).mono (by show w.heap.size ≤ W1.heap.size; omega)))
  go_region_law (first
    | (refine step_append_lies _ rfl (.tmp 22) (.tmp 24) 75 rfl w.heap.size 77 i0 _ 3 40 Try.underlying75 HI0.out HZ0.out HZ1.out HZ2.out rfl (by decide) (.slice none 0 0) 0 [] (by simp [Act.eval, Act.put]) (World.ownsRow_nil _ _ _ _) ⟨w.heap.size + 1, 0, none⟩ 1 1 [.int .i64 0, .int .i64 0, .slice la 0 lc] (by simp [Act.eval, Act.put]) rfl (NEW.out _) ONE.out (by decide) (by decide) (by decide) (by rw [SZ.out]; omega) (w.heap.size + 2) (SZ.out _) ?_; intro g8 cap8 w8 hown8 hgrow8 hat8 hglt8; have G8 := hid hgrow8; have O8 := hid hown8; have A8 := hid hat8; have L8 := hid hglt8; have d1 : w8.cell? ⟨kb, 1, none⟩ = some (.slice none 0 0) := (World.cell?_of_block (a := ⟨kb, 1, none⟩) ((hgrow8.block kb (by rw [SZ.out]; omega) (by intro e; cases e)).trans (BX.out _ kb (by omega)))).trans c1; have e1 : w8.frozen? ⟨kb, 1, none⟩ = false := (Tx.frozen_of_block ((hgrow8.block kb (by rw [SZ.out]; omega) (by intro e; cases e)).trans (BX.out _ kb (by omega))) 1).trans f1; have K8 : Hid (w8.heap[kb]? = W1.heap[kb]?) := (hgrow8.block kb (by rw [SZ.out]; omega) (by intro e; cases e)).trans (BX.out _ kb (by omega)); have Y8 : Hid (Gro (fun b => b = kb) w w8) := ⟨hgrow8.os.trans (GX.out _).os, hgrow8.tape.trans (GX.out _).tape, hgrow8.output.trans (GX.out _).output, Nat.le_trans (GX.out _).size hgrow8.size, fun b hb hn => (hgrow8.block b (Nat.lt_of_lt_of_le hb (GX.out _).size) (by intro e; cases e)).trans ((GX.out _).block b hb hn)⟩; clear hown8 hgrow8 hat8 hglt8))
  all_goals (try go_wp2_with fail)
  all_goals
    have hg8 : w.heap.size ≤ g8 := (own_block O8.out rfl).1
    have oc : ∀ j u, ([.int .i64 0, .int .i64 0, .slice la 0 lc] : List Value)[j]? = some u → (w8.setCell ⟨kb, 1, none⟩ (.slice (some ⟨g8, 0, none⟩) 1 cap8)).cell? ⟨g8, j, none⟩ = some u := fun j u hu => by
      have h := O8.out.cells rfl j u hu
      rw [show ((⟨g8, 0, none⟩ : Addr).add j) = ⟨g8, j, none⟩ from by rw [Addr.add_lit, Nat.zero_add]] at h
      exact (World.cell?_setCell_other _ _ _ _ (fun c => by have := congrArg Addr.block c; simp only [] at this; omega)).trans h
    have kc : ∀ i, w8.cell? ⟨kb, i, none⟩ = w.cell? ⟨kb, i, none⟩ := fun i => (World.cell?_of_block (a := ⟨kb, i, none⟩) K8.out).trans (B1.out.cell (p := ⟨kb, i, none⟩) hkb)
    go_end0
    refine ⟨rfl, ⟨g8, cap8, World.cell?_setCell_same _ _ _ d1, hg8, oc 0 _ rfl, oc 1 _ rfl, oc 2 _ rfl⟩, ⟨Y8.out.os, Y8.out.tape, Y8.out.output, by simpa [World.setCell] using Y8.out.size, fun b hb hn => (set_ne hn).trans (Y8.out.block b hb hn)⟩, fun i hi => ?_, fun i => ?_⟩
    · exact (World.cell?_setCell_other _ _ _ _ (fun c => hi (by have := congrArg Addr.off c; simp only [] at this; omega))).trans (kc i)
    · rw [World.frozen?_setCell]
      exact (Tx.frozen_of_block K8.out i).trans ((B1.out.frozen (p := ⟨kb, i, none⟩) hkb).trans (HF.out i))
end Go.Proofs.Ytnfbcmnlloipiaa
namespace Go.Proofs.Ytnfbcmnlloipiaa
set_option linter.unusedVariables false
set_option linter.unusedSimpArgs false
open Go.RowKit Go.Lib Go.Maps

/-- A read: transaction, operation, and where its list lies. -/
abbrev MRd := Nat × Nat × Option Addr × Nat × Nat
abbrev MRd.len (r : MRd) : Nat := r.2.2.2.1
def rdVs (r : MRd) : List Value := [.int .i64 r.1, .int .i64 r.2.1, .slice r.2.2.1 r.2.2.2.1 r.2.2.2.2]
def rdC (R : List MRd) : List Value := R.flatMap rdVs
theorem rdC_snoc (R : List MRd) (r : MRd) : rdC (R ++ [r]) = rdC R ++ rdVs r := by simp [rdC]
/-- A look in memory: its key, its reads, the trace, where its sources lie. -/
structure Lg (B : Nat) (w : World) (kb : Nat) (s : ByteArray) (rv : Value) (R : List MRd) (t : MRd) (sb : Nat) : Prop where
  box : w.heap[kb]? = some (.cells #[.string s, rv, .int .i64 t.1, .int .i64 t.2.1, .slice t.2.2.1 t.2.2.2.1 t.2.2.2.2, .map (some sb)] 80)
  own : w.ownsRow B 77 3 rv R.length (rdC R)
theorem Lg.apart {B : Nat} {w : World} {kb : Nat} {s : ByteArray} {rv : Value} {R : List MRd} {t : MRd} {sb : Nat} (h : Lg B w kb s rv R t sb) {g : Nat} (hg : rv.ownBlock = some g) : g ≠ kb := fun e => by
  obtain ⟨_, _, cs, hc⟩ := own_block h.own hg
  rw [e, h.box] at hc
  injection hc with hc
  injection hc with _ hc
  exact absurd hc (by decide)
theorem Lg.same {B : Nat} {w w' : World} {kb : Nat} {s : ByteArray} {rv : Value} {R : List MRd} {t : MRd} {sb : Nat} (h : Lg B w kb s rv R t sb) (hk : w'.heap[kb]? = w.heap[kb]?) (hr : ∀ g, rv.ownBlock = some g → w'.heap[g]? = w.heap[g]?) : Lg B w' kb s rv R t sb := ⟨hk.trans h.box, own_same h.own hr⟩
set_option maxHeartbeats 4000000 in
set_option maxRecDepth 100000 in
theorem note_short (B kb sb : Nat) (s : ByteArray) (rv : Value) (R : List MRd) (ti tj : Nat) (ta : Option Addr) (tm tc : Nat) (ri rj : Nat) (la : Option Addr) (lm lc : Nat) (w : World) (h : Lg B w kb s rv R (ti, tj, ta, tm, tc) sb) (hR : R.length ≤ 100000) (hB : B ≤ w.heap.size) (hm : ¬ tm < lm) : Calls Try.prog 69 #[.pointer (some ⟨kb, 0, none⟩), .agg #[.int .i64 ri, .int .i64 rj, .slice la lm lc]] w fun e w' => e = .returned (.tuple #[]) ∧ ∃ rv', Lg B w' kb s rv' (R ++ [(ri, rj, la, lm, lc)]) (ti, tj, ta, tm, tc) sb ∧ Gro (fun b => b = kb ∨ rv.ownBlock = some b) w w' ∧ ∀ g, rv'.ownBlock = some g → rv.ownBlock = some g ∨ w.heap.size ≤ g := by
  obtain ⟨i0, hi0, hz0, hz1, hz2⟩ := Tx.info_parts Try.infoRead
  have HI0 := hid hi0
  have HZ0 := hid hz0
  have HZ1 := hid hz1
  have HZ2 := hid hz2
  clear hi0 hz0 hz1 hz2
  have hkb : kb < w.heap.size := blt h.box
  obtain ⟨ra, rc, hrv⟩ := own_slice h.own
  subst hrv
  obtain ⟨rv, hrv⟩ : ∃ rv, Value.slice ra R.length rc = rv := ⟨_, rfl⟩
  obtain ⟨W1, hW1⟩ : ∃ W1, w.alloc (.cells #[.int .i64 ri, .int .i64 rj, .slice la lm lc] 77) = W1 := ⟨_, rfl⟩
  have hs1 : W1.heap.size = w.heap.size + 1 := by rw [← hW1, alloc_size]
  have bx1 : ∀ b, b < w.heap.size → W1.heap[b]? = w.heap[b]? := fun b hb => by rw [← hW1, alloc_at, if_neg (by omega)]
  have L1 : Hid (Lg B W1 kb s (.slice ra R.length rc) R (ti, tj, ta, tm, tc) sb) := h.same (bx1 kb hkb) (fun g hg => bx1 g (own_block h.own hg).2.1)
  have G1 : Hid (Gro (fun b => b = kb ∨ (Value.slice ra R.length rc).ownBlock = some b) w W1) := by rw [← hW1]; exact Gro.of_below (below_box w _)
  have x0 : W1.cell? ⟨w.heap.size, 0, none⟩ = some (.int .i64 ri) := by rw [← hW1]; exact new_cells w _ 77 0
  have x1 : W1.cell? ⟨w.heap.size, 1, none⟩ = some (.int .i64 rj) := by rw [← hW1]; exact new_cells w _ 77 1
  have x2 : W1.cell? ⟨w.heap.size, 2, none⟩ = some (.slice la lm lc) := by rw [← hW1]; exact new_cells w _ 77 2
  have k2 := Lib.cell_of_heap L1.out.box 2
  have k3 := Lib.cell_of_heap L1.out.box 3
  have k4 := Lib.cell_of_heap L1.out.box 4
  have f2 := Lib.frozen_of_heap L1.out.box 2
  have f3 := Lib.frozen_of_heap L1.out.box 3
  have f4 := Lib.frozen_of_heap L1.out.box 4
  simp only [List.getElem?_toArray, List.getElem?_cons_zero, List.getElem?_cons_succ] at k2 k3 k4
  have hmi : ¬ ((tm : Int) < (lm : Int)) := by omega
  clear h bx1 hrv rv
  go_enter Try.func69, Try.ntmps69
  go_wp2_with fail
  clear hW1
  go_quiet (fail)
  go_wp2_with fail
  obtain ⟨W, hW⟩ : ∃ W, W1.drewN nq = W := ⟨_, rfl⟩
  have hsW : W.heap.size = w.heap.size + 1 := by rw [← hW]; exact hs1
  have LW : Hid (Lg B W kb s (.slice ra R.length rc) R (ti, tj, ta, tm, tc) sb) := by rw [← hW]; exact L1.out.same rfl (fun _ _ => rfl)
  have GW : Hid (Gro (fun b => b = kb ∨ (Value.slice ra R.length rc).ownBlock = some b) w W) := by rw [← hW]; exact ⟨G1.out.os, G1.out.tape, G1.out.output, G1.out.size, G1.out.block⟩
  have z0 : W.cell? ⟨w.heap.size, 0, none⟩ = some (.int .i64 ri) := by rw [← hW]; exact x0
  have z1 : W.cell? ⟨w.heap.size, 1, none⟩ = some (.int .i64 rj) := by rw [← hW]; exact x1
  have z2 : W.cell? ⟨w.heap.size, 2, none⟩ = some (.slice la lm lc) := by rw [← hW]; exact x2
  rw [hW]
  clear hW x0 x1 x2 k2 k3 k4 f2 f3 f4 L1 G1 hs1 hmi
  have c1 := Lib.cell_of_heap LW.out.box 1
  have f1 := Lib.frozen_of_heap LW.out.box 1
  simp only [List.getElem?_toArray, List.getElem?_cons_zero, List.getElem?_cons_succ] at c1
  have NEW : Hid (∀ j u, ([.int .i64 (ri : Int), .int .i64 (rj : Int), .slice la lm lc] : List Value)[j]? = some u → ((W.alloc (.cells #[.int .i64 ri, .int .i64 rj, .slice la lm lc] 77)).drew).cell? ((⟨w.heap.size + 1, 0, none⟩ : Addr).add j) = some u) := by
    have h := World.news_of_block (w := (W.alloc (.cells #[.int .i64 ri, .int .i64 rj, .slice la lm lc] 77)).drew) (B := W.heap.size) (cs := #[.int .i64 ri, .int .i64 rj, .slice la lm lc]) (t := 77) (fr := (0, 0)) (heap_alloc_new W _)
    rw [hsW] at h
    exact h
  have ONE : Hid (∀ u ∈ ([.int .i64 (ri : Int), .int .i64 (rj : Int), .slice la lm lc] : List Value), u.oneCell' = true) := by
    intro u hu
    simp only [List.mem_cons, List.not_mem_nil, or_false] at hu
    rcases hu with rfl | rfl | rfl <;> rfl
  have SZ : Hid (((W.alloc (.cells #[.int .i64 ri, .int .i64 rj, .slice la lm lc] 77)).drew).heap.size = w.heap.size + 2) := by show (W.alloc _).heap.size = _; rw [alloc_size, hsW]
  have BX : Hid (∀ b, b ≤ w.heap.size → ((W.alloc (.cells #[.int .i64 ri, .int .i64 rj, .slice la lm lc] 77)).drew).heap[b]? = W.heap[b]?) := fun b hb => by show (W.alloc _).heap[b]? = _; rw [alloc_at, if_neg (by omega)]
  have LX : Hid (Lg B ((W.alloc (.cells #[.int .i64 ri, .int .i64 rj, .slice la lm lc] 77)).drew) kb s (.slice ra R.length rc) R (ti, tj, ta, tm, tc) sb) := LW.out.same (BX.out kb (by omega)) (fun g hg => BX.out g (by have := (own_block LW.out.own hg).2.1; omega))
  go_region_law (first
    | (refine step_append_lies _ rfl (.tmp 22) (.tmp 24) 75 rfl B 77 i0 _ 3 40 Try.underlying75 HI0.out HZ0.out HZ1.out HZ2.out rfl (by decide) (.slice ra R.length rc) R.length (rdC R) (by simp [Act.eval, Act.put]) LX.out.own ⟨w.heap.size + 1, 0, none⟩ 1 1 [.int .i64 (ri : Int), .int .i64 (rj : Int), .slice la lm lc] (by simp [Act.eval, Act.put]) rfl NEW.out ONE.out (by decide) (by unfold maxLen; omega) (by omega) (by rw [SZ.out]; omega) (w.heap.size + 2) SZ.out ?_; intro g8 cap8 w8 hown8 hgrow8 hat8 hglt8; have O8 := hid hown8; have K8 : Hid (w8.heap[kb]? = W.heap[kb]?) := (hgrow8.block kb (by rw [SZ.out]; omega) (fun e => LW.out.apart e.symm rfl)).trans (BX.out kb (by omega)); have Y8 : Hid (Gro (fun b => b = kb ∨ (Value.slice ra R.length rc).ownBlock = some b) w w8) := ⟨hgrow8.os.trans GW.out.os, hgrow8.tape.trans GW.out.tape, hgrow8.output.trans GW.out.output, Nat.le_trans (by rw [SZ.out]; omega) hgrow8.size, fun b hb hn => (hgrow8.block b (by rw [SZ.out]; omega) (fun e => hn (.inr e.symm))).trans ((BX.out b (by omega)).trans (GW.out.block b hb hn))⟩; have d1 : w8.cell? ⟨kb, 1, none⟩ = some (.slice ra R.length rc) := (World.cell?_of_block (a := ⟨kb, 1, none⟩) K8.out).trans c1; have e1 : w8.frozen? ⟨kb, 1, none⟩ = false := (Tx.frozen_of_block K8.out 1).trans f1; have A8 : Hid (∀ g, (Value.slice (some ⟨g8, 0, none⟩) (R.length + 1) cap8).ownBlock = some g → (Value.slice ra R.length rc).ownBlock = some g ∨ w.heap.size ≤ g) := (fun g hg => by have hg' : g8 = g := (by injection hg); subst hg'; rcases hat8 with h | h; exact .inl h; exact .inr (by omega)); clear hown8 hgrow8 hat8 hglt8))
  all_goals (try go_wp2_with fail)
  all_goals
    go_end0
    refine ⟨rfl, .slice (some ⟨g8, 0, none⟩) (R.length + 1) cap8, ⟨?_, ?_⟩, ⟨Y8.out.os, Y8.out.tape, Y8.out.output, by simpa [World.setCell] using Y8.out.size, fun b hb hn => (set_ne (fun e => hn (.inl e))).trans (Y8.out.block b hb hn)⟩, A8.out⟩
    · exact Go.Joins.block_setCell (K8.out.trans LW.out.box) _
    · rw [List.length_append, rdC_snoc]
      refine own_same O8.out (fun g hg => set_ne (fun e => ?_))
      obtain ⟨_, _, cs, hc⟩ := own_block O8.out hg
      rw [e, K8.out, LW.out.box] at hc
      injection hc with hc
      injection hc with _ hc
      exact absurd hc (by decide)
set_option maxHeartbeats 4000000 in
set_option maxRecDepth 100000 in
theorem note_long (B kb sb : Nat) (s : ByteArray) (rv : Value) (R : List MRd) (ti tj : Nat) (ta : Option Addr) (tm tc : Nat) (ri rj : Nat) (la : Option Addr) (lm lc : Nat) (w : World) (h : Lg B w kb s rv R (ti, tj, ta, tm, tc) sb) (hR : R.length ≤ 100000) (hB : B ≤ w.heap.size) (hm : tm < lm) : Calls Try.prog 69 #[.pointer (some ⟨kb, 0, none⟩), .agg #[.int .i64 ri, .int .i64 rj, .slice la lm lc]] w fun e w' => e = .returned (.tuple #[]) ∧ ∃ rv', Lg B w' kb s rv' (R ++ [(ri, rj, la, lm, lc)]) (ri, rj, la, lm, lc) sb ∧ Gro (fun b => b = kb ∨ rv.ownBlock = some b) w w' ∧ ∀ g, rv'.ownBlock = some g → rv.ownBlock = some g ∨ w.heap.size ≤ g := by
  obtain ⟨i0, hi0, hz0, hz1, hz2⟩ := Tx.info_parts Try.infoRead
  have HI0 := hid hi0
  have HZ0 := hid hz0
  have HZ1 := hid hz1
  have HZ2 := hid hz2
  clear hi0 hz0 hz1 hz2
  have hkb : kb < w.heap.size := blt h.box
  obtain ⟨ra, rc, hrv⟩ := own_slice h.own
  subst hrv
  obtain ⟨rv, hrv⟩ : ∃ rv, Value.slice ra R.length rc = rv := ⟨_, rfl⟩
  obtain ⟨W1, hW1⟩ : ∃ W1, w.alloc (.cells #[.int .i64 ri, .int .i64 rj, .slice la lm lc] 77) = W1 := ⟨_, rfl⟩
  have hs1 : W1.heap.size = w.heap.size + 1 := by rw [← hW1, alloc_size]
  have bx1 : ∀ b, b < w.heap.size → W1.heap[b]? = w.heap[b]? := fun b hb => by rw [← hW1, alloc_at, if_neg (by omega)]
  have L1 : Hid (Lg B W1 kb s (.slice ra R.length rc) R (ti, tj, ta, tm, tc) sb) := h.same (bx1 kb hkb) (fun g hg => bx1 g (own_block h.own hg).2.1)
  have G1 : Hid (Gro (fun b => b = kb ∨ (Value.slice ra R.length rc).ownBlock = some b) w W1) := by rw [← hW1]; exact Gro.of_below (below_box w _)
  have x0 : W1.cell? ⟨w.heap.size, 0, none⟩ = some (.int .i64 ri) := by rw [← hW1]; exact new_cells w _ 77 0
  have x1 : W1.cell? ⟨w.heap.size, 1, none⟩ = some (.int .i64 rj) := by rw [← hW1]; exact new_cells w _ 77 1
  have x2 : W1.cell? ⟨w.heap.size, 2, none⟩ = some (.slice la lm lc) := by rw [← hW1]; exact new_cells w _ 77 2
  have k2 := Lib.cell_of_heap L1.out.box 2
  have k3 := Lib.cell_of_heap L1.out.box 3
  have k4 := Lib.cell_of_heap L1.out.box 4
  have f2 := Lib.frozen_of_heap L1.out.box 2
  have f3 := Lib.frozen_of_heap L1.out.box 3
  have f4 := Lib.frozen_of_heap L1.out.box 4
  simp only [List.getElem?_toArray, List.getElem?_cons_zero, List.getElem?_cons_succ] at k2 k3 k4
  have hmi : (tm : Int) < (lm : Int) := by omega
  clear h bx1 hrv rv
  go_enter Try.func69, Try.ntmps69
  go_wp2_with fail
  clear hW1
  go_quiet (fail)
  go_wp2_with fail
  obtain ⟨W, hW⟩ : ∃ W, (((W1.drewN nq).setCell ⟨kb, 2, none⟩ (.int .i64 ri)).setCell ⟨kb, 3, none⟩ (.int .i64 rj)).setCell ⟨kb, 4, none⟩ (.slice la lm lc) = W := ⟨_, rfl⟩
  have hsW : W.heap.size = w.heap.size + 1 := by rw [← hW]; simp only [World.setCell, Array.size_modify]; exact hs1
  have oth : ∀ b, b ≠ kb → W.heap[b]? = W1.heap[b]? := fun b hb => by rw [← hW]; exact (set_ne hb).trans ((set_ne hb).trans (set_ne hb))
  have LW : Hid (Lg B W kb s (.slice ra R.length rc) R (ri, rj, la, lm, lc) sb) := by
    refine ⟨?_, own_same L1.out.own (fun g hg => oth g (L1.out.apart hg))⟩
    rw [← hW]
    exact Go.Joins.block_setCell (Go.Joins.block_setCell (Go.Joins.block_setCell (w := W1.drewN nq) L1.out.box _) _) _
  have GW : Hid (Gro (fun b => b = kb ∨ (Value.slice ra R.length rc).ownBlock = some b) w W) := ⟨by rw [← hW]; exact G1.out.os, by rw [← hW]; exact G1.out.tape, by rw [← hW]; exact G1.out.output, by omega, fun b hb hn => (oth b (fun e => hn (.inl e))).trans (G1.out.block b hb hn)⟩
  have zz : ∀ i, W.cell? ⟨w.heap.size, i, none⟩ = W1.cell? ⟨w.heap.size, i, none⟩ := fun i => World.cell?_of_block (a := ⟨w.heap.size, i, none⟩) (oth _ (show w.heap.size ≠ kb by omega))
  have z0 := (zz 0).trans x0
  have z1 := (zz 1).trans x1
  have z2 := (zz 2).trans x2
  rw [hW]
  clear hW x0 x1 x2 k2 k3 k4 f2 f3 f4 L1 G1 hs1 hmi zz oth
  have c1 := Lib.cell_of_heap LW.out.box 1
  have f1 := Lib.frozen_of_heap LW.out.box 1
  simp only [List.getElem?_toArray, List.getElem?_cons_zero, List.getElem?_cons_succ] at c1
  have NEW : Hid (∀ j u, ([.int .i64 (ri : Int), .int .i64 (rj : Int), .slice la lm lc] : List Value)[j]? = some u → ((W.alloc (.cells #[.int .i64 ri, .int .i64 rj, .slice la lm lc] 77)).drew).cell? ((⟨w.heap.size + 1, 0, none⟩ : Addr).add j) = some u) := by
    have h := World.news_of_block (w := (W.alloc (.cells #[.int .i64 ri, .int .i64 rj, .slice la lm lc] 77)).drew) (B := W.heap.size) (cs := #[.int .i64 ri, .int .i64 rj, .slice la lm lc]) (t := 77) (fr := (0, 0)) (heap_alloc_new W _)
    rw [hsW] at h
    exact h
  have ONE : Hid (∀ u ∈ ([.int .i64 (ri : Int), .int .i64 (rj : Int), .slice la lm lc] : List Value), u.oneCell' = true) := by
    intro u hu
    simp only [List.mem_cons, List.not_mem_nil, or_false] at hu
    rcases hu with rfl | rfl | rfl <;> rfl
  have SZ : Hid (((W.alloc (.cells #[.int .i64 ri, .int .i64 rj, .slice la lm lc] 77)).drew).heap.size = w.heap.size + 2) := by show (W.alloc _).heap.size = _; rw [alloc_size, hsW]
  have BX : Hid (∀ b, b ≤ w.heap.size → ((W.alloc (.cells #[.int .i64 ri, .int .i64 rj, .slice la lm lc] 77)).drew).heap[b]? = W.heap[b]?) := fun b hb => by show (W.alloc _).heap[b]? = _; rw [alloc_at, if_neg (by omega)]
  have LX : Hid (Lg B ((W.alloc (.cells #[.int .i64 ri, .int .i64 rj, .slice la lm lc] 77)).drew) kb s (.slice ra R.length rc) R (ri, rj, la, lm, lc) sb) := LW.out.same (BX.out kb (by omega)) (fun g hg => BX.out g (by have := (own_block LW.out.own hg).2.1; omega))
  go_region_law (first
    | (refine step_append_lies _ rfl (.tmp 22) (.tmp 24) 75 rfl B 77 i0 _ 3 40 Try.underlying75 HI0.out HZ0.out HZ1.out HZ2.out rfl (by decide) (.slice ra R.length rc) R.length (rdC R) (by simp [Act.eval, Act.put]) LX.out.own ⟨w.heap.size + 1, 0, none⟩ 1 1 [.int .i64 (ri : Int), .int .i64 (rj : Int), .slice la lm lc] (by simp [Act.eval, Act.put]) rfl NEW.out ONE.out (by decide) (by unfold maxLen; omega) (by omega) (by rw [SZ.out]; omega) (w.heap.size + 2) SZ.out ?_; intro g8 cap8 w8 hown8 hgrow8 hat8 hglt8; have O8 := hid hown8; have K8 : Hid (w8.heap[kb]? = W.heap[kb]?) := (hgrow8.block kb (by rw [SZ.out]; omega) (fun e => LW.out.apart e.symm rfl)).trans (BX.out kb (by omega)); have Y8 : Hid (Gro (fun b => b = kb ∨ (Value.slice ra R.length rc).ownBlock = some b) w w8) := ⟨hgrow8.os.trans GW.out.os, hgrow8.tape.trans GW.out.tape, hgrow8.output.trans GW.out.output, Nat.le_trans (by rw [SZ.out]; omega) hgrow8.size, fun b hb hn => (hgrow8.block b (by rw [SZ.out]; omega) (fun e => hn (.inr e.symm))).trans ((BX.out b (by omega)).trans (GW.out.block b hb hn))⟩; have d1 : w8.cell? ⟨kb, 1, none⟩ = some (.slice ra R.length rc) := (World.cell?_of_block (a := ⟨kb, 1, none⟩) K8.out).trans c1; have e1 : w8.frozen? ⟨kb, 1, none⟩ = false := (Tx.frozen_of_block K8.out 1).trans f1; have A8 : Hid (∀ g, (Value.slice (some ⟨g8, 0, none⟩) (R.length + 1) cap8).ownBlock = some g → (Value.slice ra R.length rc).ownBlock = some g ∨ w.heap.size ≤ g) := (fun g hg => by have hg' : g8 = g := (by injection hg); subst hg'; rcases hat8 with h | h; exact .inl h; exact .inr (by omega)); clear hown8 hgrow8 hat8 hglt8))
  all_goals (try go_wp2_with fail)
  all_goals
    go_end0
    refine ⟨rfl, .slice (some ⟨g8, 0, none⟩) (R.length + 1) cap8, ⟨?_, ?_⟩, ⟨Y8.out.os, Y8.out.tape, Y8.out.output, by simpa [World.setCell] using Y8.out.size, fun b hb hn => (set_ne (fun e => hn (.inl e))).trans (Y8.out.block b hb hn)⟩, A8.out⟩
    · exact Go.Joins.block_setCell (K8.out.trans LW.out.box) _
    · rw [List.length_append, rdC_snoc]
      refine own_same O8.out (fun g hg => set_ne (fun e => ?_))
      obtain ⟨_, _, cs, hc⟩ := own_block O8.out hg
      rw [e, K8.out, LW.out.box] at hc
      injection hc with hc
      injection hc with _ hc
      exact absurd hc (by decide)
end Go.Proofs.Ytnfbcmnlloipiaa
namespace Go.Proofs.Ytnfbcmnlloipiaa
set_option linter.unusedVariables false
set_option linter.unusedSimpArgs false
open Go.RowKit Go.Lib Go.Maps

/-- A source: transaction, operation, has it failed, is it final. -/
abbrev MSrc := Nat × Nat × Bool × Bool
def srcV (x : MSrc) : Value := .agg #[.int .i64 x.1, .int .i64 x.2.1, .bool x.2.2.1, .bool x.2.2.2]
abbrev noSrc : MSrc := (0, 0, false, false)
theorem keys3 : Keyed Try.prog 3 := int_keyed Try.underlying3
theorem key3 (x : Int) (hx : (Lit.int .i64 x).wf = true) : keyOf Try.prog 3 (.int .i64 x) = some (.int .i64 x) := keyOf_int_mk Try.underlying3 hx
/-- Did nobody write x when the operation rj of the transaction ri read it? -/
def garB (f : Int → Option MSrc) (ri rj : Nat) (x : Int) : Bool := match f x with
  | none => true
  | some y => decide (y.1 = ri) && decide (rj < y.2.1)
theorem zeroS (w : World) : (zeroValue 123).run Try.prog w = .ok (srcV noSrc) w := by kernel_rfl
/-- The map of sources. -/
def Sc (w : World) (sb n : Nat) (f : Int → Option MSrc) : Prop := ∃ F, MapV w Try.prog 3 sb n F ∧ ∀ x, F (.int .i64 x) = (f x).map srcV
theorem Sc.made (w : World) : Sc (w.alloc (.map #[] 0)) w.heap.size 0 (fun _ => none) := ⟨_, MapV.made w Try.prog 3, fun _ => rfl⟩
theorem Sc.same {w w' : World} {sb n : Nat} {f : Int → Option MSrc} (h : Sc w sb n f) (hb : w'.heap[sb]? = w.heap[sb]?) : Sc w' sb n f := by
  obtain ⟨F, h1, h2⟩ := h
  exact ⟨F, h1.same hb, h2⟩
theorem Sc.look {w : World} {sb n : Nat} {f : Int → Option MSrc} (h : Sc w sb n f) (x : Int) (hx : (Lit.int .i64 x).wf = true) : (Instr.lookup 78 (.map (some sb)) (.int .i64 x) false).run Try.prog w = .ok (srcV ((f x).getD noSrc)) w := by
  obtain ⟨F, h1, h2⟩ := h
  rw [h1.look keys3 Try.underlying78 (zeroS w) (key3 x hx), h2 x]
  cases f x <;> rfl
theorem Sc.look_ok {w : World} {sb n : Nat} {f : Int → Option MSrc} (h : Sc w sb n f) (x : Int) (hx : (Lit.int .i64 x).wf = true) : (Instr.lookup 78 (.map (some sb)) (.int .i64 x) true).run Try.prog w = .ok (.tuple #[srcV ((f x).getD noSrc), .bool (f x).isSome]) w := by
  obtain ⟨F, h1, h2⟩ := h
  rw [h1.look_ok keys3 Try.underlying78 (zeroS w) (key3 x hx), h2 x]
  cases f x <;> rfl
theorem Sc.put {w : World} {sb n : Nat} {f : Int → Option MSrc} (h : Sc w sb n f) (hn : n < maxLen) (x : Int) (hx : (Lit.int .i64 x).wf = true) (y : MSrc) : ∃ w', (Instr.mapUpdate 78 (.map (some sb)) (.int .i64 x) (srcV y)).run Try.prog w = .ok () w' ∧ Sc w' sb (n + 1) (fun z => if z = x then some y else f z) ∧ w.grownBy w' (some sb) := by
  obtain ⟨F, h1, h2⟩ := h
  obtain ⟨w', g, r1, hp, r2, r3⟩ := h1.put keys3 Try.underlying78 hn (srcV y) (key3 x hx)
  refine ⟨w', r1, ⟨g, r2, fun z => ?_⟩, r3⟩
  by_cases e : z = x
  · subst e
    show g _ = Option.map srcV (if z = z then some y else f z)
    rw [hp.1, if_pos rfl]
    rfl
  · show g _ = Option.map srcV (if z = x then some y else f z)
    rw [hp.2 (.int .i64 z) (fun c => e (by injection c)), h2 z, if_neg e]
/-! The closures of garbage and aborted. -/
set_option maxHeartbeats 2000000 in
set_option maxRecDepth 100000 in
theorem aborted1_is (cb kb sb n : Nat) (f : Int → Option MSrc) (x : Int) (hx : (Lit.int .i64 x).wf = true) (w : World) (hc : w.cell? ⟨cb, 0, none⟩ = some (.pointer (some ⟨kb, 0, none⟩))) (h5 : w.cell? ⟨kb, 5, none⟩ = some (.map (some sb))) (hs : Sc w sb n f) : Calls Try.prog 87 #[.int .i64 x, .pointer (some ⟨cb, 0, none⟩)] w fun e w' => e = .returned (.bool ((f x).getD noSrc).2.2.1) ∧ w = w' := by
  have LK := hs.look x hx
  clear hs
  generalize (f x).getD noSrc = y at *
  obtain ⟨y1, y2, y3, y4⟩ := y
  simp only [srcV] at LK
  have FL : ∀ W, (Instr.field 123 (.agg #[.int .i64 y1, .int .i64 y2, .bool y3, .bool y4]) 2).run Try.prog W = .ok (.bool y3) W := fun W => by kernel_rfl
  go_enter Try.func87, Try.ntmps87
  go_wp2_with fail
  go_ret
  exact ⟨rfl, rfl⟩
set_option maxHeartbeats 4000000 in
set_option maxRecDepth 100000 in
theorem garbage1_is (cb kb rb sb n ri rj : Nat) (f : Int → Option MSrc) (x : Int) (hx : (Lit.int .i64 x).wf = true) (w : World) (hc : w.cell? ⟨cb, 0, none⟩ = some (.pointer (some ⟨kb, 0, none⟩))) (h5 : w.cell? ⟨kb, 5, none⟩ = some (.map (some sb))) (hs : Sc w sb n f) (r0 : w.cell? ⟨rb, 0, none⟩ = some (.int .i64 ri)) (r1 : w.cell? ⟨rb, 1, none⟩ = some (.int .i64 rj)) : Calls Try.prog 86 #[.int .i64 x, .pointer (some ⟨cb, 0, none⟩), .pointer (some ⟨rb, 0, none⟩)] w fun e w' => e = .returned (.bool (garB f ri rj x)) ∧ Below w.heap.size w w' := by
  have LK := hs.look_ok x hx
  clear hs
  have hrb : rb < w.heap.size := World.block_lt_of_cell? _ _ r0
  have hrn : ¬ (rb = w.heap.size) := by omega
  have q0 : ∀ o, (w.alloc o).cell? ⟨rb, 0, none⟩ = some (.int .i64 ri) := fun o => Lib.cell?_alloc_some _ r0
  have q1 : ∀ o, (w.alloc o).cell? ⟨rb, 1, none⟩ = some (.int .i64 rj) := fun o => Lib.cell?_alloc_some _ r1
  cases hf : f x with
  | none =>
    have HG : Hid (garB f ri rj x = true) := by show _ = _; simp [garB, hf]
    rw [hf] at LK
    simp only [Option.getD, Option.isSome, srcV] at LK
    clear hf
    go_enter Try.func86, Try.ntmps86
    go_wp2_with fail
    go_ret
    exact ⟨by rw [HG.out]; rfl, below_box w _⟩
  | some y =>
    obtain ⟨y1, y2, y3, y4⟩ := y
    have HG : Hid (garB f ri rj x = (decide (y1 = ri) && decide (rj < y2))) := by show _ = _; simp [garB, hf]
    rw [hf] at LK
    simp only [Option.getD, Option.isSome, srcV] at LK
    clear hf
    by_cases e1 : y1 = ri
    · have e1b : ((y1 : Int) == (ri : Int)) = true := by simp [e1]
      by_cases e2 : rj < y2
      · have e2b : (rj : Int) < (y2 : Int) := by omega
        have HE : Hid (garB f ri rj x = true) := by show _ = _; rw [HG.out]; simp [e1, e2]
        clear e1 e2 HG
        go_enter Try.func86, Try.ntmps86
        go_wp2_with fail
        go_ret
        exact ⟨by rw [HE.out]; rfl, below_box w _⟩
      · have e2b : ¬ (rj : Int) < (y2 : Int) := by omega
        have HE : Hid (garB f ri rj x = false) := by show _ = _; rw [HG.out]; simp [e1, e2]
        clear e1 e2 HG
        go_enter Try.func86, Try.ntmps86
        go_wp2_with fail
        go_ret
        exact ⟨by rw [HE.out]; rfl, below_box w _⟩
    · have e1b : ((y1 : Int) == (ri : Int)) = false := by simp; omega
      have HE : Hid (garB f ri rj x = false) := by show _ = _; rw [HG.out]; simp [e1]
      clear e1 HG
      go_enter Try.func86, Try.ntmps86
      go_wp2_with fail
      go_ret
      exact ⟨by rw [HE.out]; rfl, below_box w _⟩
end Go.Proofs.Ytnfbcmnlloipiaa
namespace Go.Proofs.Ytnfbcmnlloipiaa
set_option linter.unusedVariables false
set_option linter.unusedSimpArgs false
open Go.RowKit Go.Lib Go.Maps

/-- The first place at which p holds, or -1. -/
def IsIdx (p : Int → Bool) (xs : List Int) (r : Int) : Prop := (r = -1 ∧ ∀ j, j < xs.length → p (xs.getD j default) = false) ∨ ∃ k, k < xs.length ∧ r = (k : Int) ∧ p (xs.getD k default) = true ∧ ∀ j, j < k → p (xs.getD j default) = false
/-- Does x come from a transaction that failed? -/
def abrB (f : Int → Option MSrc) (x : Int) : Bool := ((f x).getD noSrc).2.2.1
/-- What a closure of a find sees. -/
structure Sees (w : World) (cb kb rb sb n ri rj : Nat) (f : Int → Option MSrc) : Prop where
  hc : w.cell? ⟨cb, 0, none⟩ = some (.pointer (some ⟨kb, 0, none⟩))
  h5 : w.cell? ⟨kb, 5, none⟩ = some (.map (some sb))
  hs : Sc w sb n f
  r0 : w.cell? ⟨rb, 0, none⟩ = some (.int .i64 ri)
  r1 : w.cell? ⟨rb, 1, none⟩ = some (.int .i64 rj)
theorem Sees.later {w w' : World} {cb kb rb sb n ri rj : Nat} {f : Int → Option MSrc} (h : Sees w cb kb rb sb n ri rj f) (hb : Below w.heap.size w w') : Sees w' cb kb rb sb n ri rj f := by
  obtain ⟨F, h1, h2⟩ := h.hs
  exact ⟨(hb.cell (p := ⟨cb, 0, none⟩) (World.block_lt_of_cell? _ _ h.hc)).trans h.hc, (hb.cell (p := ⟨kb, 5, none⟩) (World.block_lt_of_cell? _ _ h.h5)).trans h.h5, h.hs.same (hb.block sb h1.lt), (hb.cell (p := ⟨rb, 0, none⟩) (World.block_lt_of_cell? _ _ h.r0)).trans h.r0, (hb.cell (p := ⟨rb, 1, none⟩) (World.block_lt_of_cell? _ _ h.r1)).trans h.r1⟩
set_option maxHeartbeats 4000000 in
set_option maxRecDepth 100000 in
theorem idx_44 (cb kb rb sb n ri rj : Nat) (f : Int → Option MSrc) {S : Nat → Prop} (v : Value) (xs : List Int) (w : World) (h : IntsIn S w v xs) (hw : ∀ x ∈ xs, (Lit.int .i64 x).wf = true) (hs : Sees w cb kb rb sb n ri rj f) : Calls Try.prog 85 #[v, .func (.func 87) #[] #[.pointer (some ⟨cb, 0, none⟩)]] w fun e w' => ∃ r, e = .returned (.int .i64 r) ∧ IsIdx (abrB f) xs r ∧ Below w.heap.size w w' := by
  obtain ⟨ao, c, rfl, ⟨hbytes, _⟩, hcells⟩ := h
  have H := hid hs
  have HW := hid hw
  have HC := hid hcells
  have CL : Hid (∀ (x : Int) (hx : (Lit.int .i64 x).wf = true) (W : World), Sees W cb kb rb sb n ri rj f → Calls Try.prog 87 #[.int .i64 x, .pointer (some ⟨cb, 0, none⟩)] W fun e w' => e = .returned (.bool ((abrB f) x)) ∧ Below W.heap.size W w') := fun x hx => (fun W S => (aborted1_is cb kb sb n f _ hx W S.hc S.h5 S.hs).mono (fun e w' h => ⟨h.1, by rw [h.2]; exact Below.refl _ _⟩))
  clear hs hw hcells
  have hli : (xs.length : Int) ≤ 17592186044416 := by omega
  go_enter Try.func85, Try.ntmps85
  go_wp2_with fail
  go_loopg [5, 8] xs.length (fun g _ i wr => ∃ k : Nat, k ≤ xs.length ∧ xs.length - k ≤ g ∧ i = .int .i64 k ∧ Aside (Below w.heap.size w wr) ∧ Aside (∀ j, j < k → (abrB f) (xs.getD j default) = false))
  case atStart => exact ⟨0, by omega, by omega, rfl, Below.refl _ _, (show Aside _ from fun j hj => by omega)⟩
  case round =>
    obtain ⟨k, hk, hg, rfl, BW, AL⟩ := hrel
    by_cases hlt : k < xs.length
    · have hlti : (k : Int) < xs.length := by omega
      obtain ⟨b, off, rfl, _, hc⟩ := HC.out (by omega)
      have x0 := hc k hlt
      have hbl := World.block_lt_of_cell? _ _ x0
      have x1 := (BW.out.cell (p := ⟨b, off + k, none⟩) hbl).trans x0
      have hx : (Lit.int .i64 (xs.getD k default)).wf = true := HW.out _ (by simp [List.getD, List.getElem?_eq_getElem hlt])
      have CK := hid (CL.out _ hx wr (H.out.later BW.out))
      clear x0 hc
      have A2 := AL
      generalize hX : xs.getD k default = X at x1 CK hx
      have HX := hid hX
      clear hX
      generalize hB : (abrB f) X = bb at CK
      have HB := hid hB
      clear hB
      cases bb with
      | true =>
        go_wp2_with (refine CK.out.mono ?_; rintro e w1 ⟨rfl, b1⟩; have B1 := hid b1; clear b1)
        go_ret
        exact ⟨_, rfl, .inr ⟨k, hlt, rfl, by rw [HX.out]; exact HB.out, A2.out⟩, BW.out.trans (B1.out.mono BW.out.size)⟩
      | false =>
        go_wp2_with (refine CK.out.mono ?_; rintro e w1 ⟨rfl, b1⟩; have B1 := hid b1; clear b1)
        go_roundg (xs.length - (k + 1))
        case measure => omega
        case rel =>
          refine ⟨k + 1, by omega, by omega, by go_num, BW.out.trans (B1.out.mono BW.out.size), (show Aside _ from fun j hj => ?_)⟩
          by_cases e : j = k
          · subst e; rw [HX.out]; exact HB.out
          · exact A2.out j (by omega)
    · have hke : k = xs.length := by omega
      have hlti : ¬ (k : Int) < xs.length := by omega
      go_wp2_with fail
      go_ret
      exact ⟨_, rfl, .inl ⟨rfl, fun j hj => AL.out j (by omega)⟩, BW.out⟩
set_option maxHeartbeats 4000000 in
set_option maxRecDepth 100000 in
theorem idx_43 (cb kb rb sb n ri rj : Nat) (f : Int → Option MSrc) {S : Nat → Prop} (v : Value) (xs : List Int) (w : World) (h : IntsIn S w v xs) (hw : ∀ x ∈ xs, (Lit.int .i64 x).wf = true) (hs : Sees w cb kb rb sb n ri rj f) : Calls Try.prog 85 #[v, .func (.func 86) #[] #[.pointer (some ⟨cb, 0, none⟩), .pointer (some ⟨rb, 0, none⟩)]] w fun e w' => ∃ r, e = .returned (.int .i64 r) ∧ IsIdx (garB f ri rj) xs r ∧ Below w.heap.size w w' := by
  obtain ⟨ao, c, rfl, ⟨hbytes, _⟩, hcells⟩ := h
  have H := hid hs
  have HW := hid hw
  have HC := hid hcells
  have CL : Hid (∀ (x : Int) (hx : (Lit.int .i64 x).wf = true) (W : World), Sees W cb kb rb sb n ri rj f → Calls Try.prog 86 #[.int .i64 x, .pointer (some ⟨cb, 0, none⟩), .pointer (some ⟨rb, 0, none⟩)] W fun e w' => e = .returned (.bool ((garB f ri rj) x)) ∧ Below W.heap.size W w') := fun x hx => (fun W S => garbage1_is cb kb rb sb n ri rj f _ hx W S.hc S.h5 S.hs S.r0 S.r1)
  clear hs hw hcells
  have hli : (xs.length : Int) ≤ 17592186044416 := by omega
  go_enter Try.func85, Try.ntmps85
  go_wp2_with fail
  go_loopg [5, 8] xs.length (fun g _ i wr => ∃ k : Nat, k ≤ xs.length ∧ xs.length - k ≤ g ∧ i = .int .i64 k ∧ Aside (Below w.heap.size w wr) ∧ Aside (∀ j, j < k → (garB f ri rj) (xs.getD j default) = false))
  case atStart => exact ⟨0, by omega, by omega, rfl, Below.refl _ _, (show Aside _ from fun j hj => by omega)⟩
  case round =>
    obtain ⟨k, hk, hg, rfl, BW, AL⟩ := hrel
    by_cases hlt : k < xs.length
    · have hlti : (k : Int) < xs.length := by omega
      obtain ⟨b, off, rfl, _, hc⟩ := HC.out (by omega)
      have x0 := hc k hlt
      have hbl := World.block_lt_of_cell? _ _ x0
      have x1 := (BW.out.cell (p := ⟨b, off + k, none⟩) hbl).trans x0
      have hx : (Lit.int .i64 (xs.getD k default)).wf = true := HW.out _ (by simp [List.getD, List.getElem?_eq_getElem hlt])
      have CK := hid (CL.out _ hx wr (H.out.later BW.out))
      clear x0 hc
      have A2 := AL
      generalize hX : xs.getD k default = X at x1 CK hx
      have HX := hid hX
      clear hX
      generalize hB : (garB f ri rj) X = bb at CK
      have HB := hid hB
      clear hB
      cases bb with
      | true =>
        go_wp2_with (refine CK.out.mono ?_; rintro e w1 ⟨rfl, b1⟩; have B1 := hid b1; clear b1)
        go_ret
        exact ⟨_, rfl, .inr ⟨k, hlt, rfl, by rw [HX.out]; exact HB.out, A2.out⟩, BW.out.trans (B1.out.mono BW.out.size)⟩
      | false =>
        go_wp2_with (refine CK.out.mono ?_; rintro e w1 ⟨rfl, b1⟩; have B1 := hid b1; clear b1)
        go_roundg (xs.length - (k + 1))
        case measure => omega
        case rel =>
          refine ⟨k + 1, by omega, by omega, by go_num, BW.out.trans (B1.out.mono BW.out.size), (show Aside _ from fun j hj => ?_)⟩
          by_cases e : j = k
          · subst e; rw [HX.out]; exact HB.out
          · exact A2.out j (by omega)
    · have hke : k = xs.length := by omega
      have hlti : ¬ (k : Int) < xs.length := by omega
      go_wp2_with fail
      go_ret
      exact ⟨_, rfl, .inl ⟨rfl, fun j hj => AL.out j (by omega)⟩, BW.out⟩
end Go.Proofs.Ytnfbcmnlloipiaa
namespace Go.Proofs.Ytnfbcmnlloipiaa
set_option linter.unusedVariables false
set_option linter.unusedSimpArgs false
open Go.RowKit Go.Lib Go.Maps

abbrev anV (k o : Int) (x : Int) : Value := .agg #[.int .i64 k, .int .i64 0, .int .i64 0, .int .i64 o, .string ⟨#[]⟩, .int .i64 x, .slice none 0 0, .bool false, .int .i64 0]
/-- What a find by IndexFunc tells. -/
def Found (p : Int → Bool) (xs : List Int) (kd : Int) (oth : Int → Int) (e : Ending) : Prop := ((∀ j, j < xs.length → p (xs.getD j default) = false) ∧ e = .returned (.tuple #[an0, .bool false])) ∨ ∃ k, k < xs.length ∧ p (xs.getD k default) = true ∧ (∀ j, j < k → p (xs.getD j default) = false) ∧ e = .returned (.tuple #[anV kd (oth (xs.getD k default)) (xs.getD k default), .bool true])
set_option maxHeartbeats 4000000 in
set_option maxRecDepth 100000 in
theorem garbage_is (kb sb n ri rj : Nat) (f : Int → Option MSrc) {S : Nat → Prop} (la : Option Addr) (lc : Nat) (xs : List Int) (w : World) (h : IntsIn S w (.slice la xs.length lc) xs) (hw : ∀ x ∈ xs, (Lit.int .i64 x).wf = true) (h5 : w.cell? ⟨kb, 5, none⟩ = some (.map (some sb))) (hs : Sc w sb n f) : Calls Try.prog 71 #[.pointer (some ⟨kb, 0, none⟩), .agg #[.int .i64 ri, .int .i64 rj, .slice la xs.length lc]] w fun e w' => Found (garB f ri rj) xs 2 (fun _ => 0) e ∧ Below w.heap.size w w' := by
  obtain ⟨W, hW⟩ : ∃ W, ((w.alloc (.cells #[.pointer (some ⟨kb, 0, none⟩)] 125)).alloc (.cells #[.int .i64 ri, .int .i64 rj, .slice la xs.length lc] 77)).alloc (.cells #[.int .i64 0, .int .i64 0, .int .i64 0, .int .i64 0, .string ⟨#[]⟩, .int .i64 0, .slice none 0 0, .bool false, .int .i64 0] 85) = W := ⟨_, rfl⟩
  have BW : Hid (Below w.heap.size w W) := by rw [← hW]; exact ((below_box w _).alloc (by rw [alloc_size]; omega) _).alloc (by rw [alloc_size, alloc_size]; omega) _
  have e1 : (w.alloc (.cells #[.pointer (some ⟨kb, 0, none⟩)] 125)).heap.size = w.heap.size + 1 := by rw [alloc_size]
  have e2 : ((w.alloc (.cells #[.pointer (some ⟨kb, 0, none⟩)] 125)).alloc (.cells #[.int .i64 ri, .int .i64 rj, .slice la xs.length lc] 77)).heap.size = w.heap.size + 1 + 1 := by rw [alloc_size, e1]
  have eW : W.heap.size = w.heap.size + 3 := by rw [← hW, alloc_size, e2]
  have d0 : W.cell? ⟨w.heap.size, 0, none⟩ = some (.pointer (some ⟨kb, 0, none⟩)) := by rw [← hW]; exact Lib.cell?_alloc_some _ (Lib.cell?_alloc_some _ (new_cells w _ 125 0))
  have rr : ∀ i u, (#[.int .i64 ri, .int .i64 rj, .slice la xs.length lc] : Array Value)[i]? = some u → W.cell? ⟨w.heap.size + 1, i, none⟩ = some u := fun i u hu => by
    rw [← hW]
    have q := new_cells (w.alloc (.cells #[.pointer (some ⟨kb, 0, none⟩)] 125)) #[.int .i64 ri, .int .i64 rj, .slice la xs.length lc] 77 i
    rw [e1] at q
    exact Lib.cell?_alloc_some _ (q.trans hu)
  have x0 := rr 0 _ rfl
  have x1 := rr 1 _ rfl
  have x2 := rr 2 _ rfl
  have zc : ∀ i, W.cell? ⟨w.heap.size + 1 + 1, i, none⟩ = (#[.int .i64 0, .int .i64 0, .int .i64 0, .int .i64 0, .string ⟨#[]⟩, .int .i64 0, .slice none 0 0, .bool false, .int .i64 0] : Array Value)[i]? := fun i => by
    rw [← hW, ← e2]
    exact new_cells _ _ 85 i
  have zf : ∀ i, W.frozen? ⟨w.heap.size + 1 + 1, i, none⟩ = false := fun i => by
    rw [← hW, ← e2]
    exact Lib.frozen_of_heap (heap_alloc_new _ _) i
  obtain ⟨F, hF, _⟩ := id hs
  have SE : Hid (Sees W w.heap.size kb (w.heap.size + 1) sb n ri rj f) := ⟨d0, (BW.out.cell (p := ⟨kb, 5, none⟩) (World.block_lt_of_cell? _ _ h5)).trans h5, hs.same (BW.out.block sb hF.lt), x0, x1⟩
  have IN : Hid (IntsIn S W (.slice la xs.length lc) xs) := h.keep (keeps_below BW.out) (fun _ _ x => x)
  have IX := hid (idx_43 w.heap.size kb (w.heap.size + 1) sb n ri rj f _ xs W IN.out hw SE.out)
  have ZC := hid zc
  have ZF := hid zf
  clear hF hs h h5 hw rr zc zf e1 e2 d0 x0 x1
  go_enter Try.func71, Try.ntmps71
  go_wp2_with fail
  go_at_call 85
  refine IX.out.mono ?_
  rintro e w1 ⟨r, rfl, hi, b1⟩
  have n1 : ∀ i, w1.cell? ⟨w.heap.size + 1 + 1, i, none⟩ = W.cell? ⟨w.heap.size + 1 + 1, i, none⟩ := fun i => b1.cell (p := ⟨w.heap.size + 1 + 1, i, none⟩) (by show w.heap.size + 1 + 1 < W.heap.size; omega)
  have y0 := (n1 0).trans (ZC.out 0)
  have y1 := (n1 1).trans (ZC.out 1)
  have y2 := (n1 2).trans (ZC.out 2)
  have y3 := (n1 3).trans (ZC.out 3)
  have y4 := (n1 4).trans (ZC.out 4)
  have y5 := (n1 5).trans (ZC.out 5)
  have y6 := (n1 6).trans (ZC.out 6)
  have y7 := (n1 7).trans (ZC.out 7)
  have y8 := (n1 8).trans (ZC.out 8)
  simp only [List.getElem?_toArray, List.getElem?_cons_zero, List.getElem?_cons_succ] at y0 y1 y2 y3 y4 y5 y6 y7 y8
  have fz : ∀ i, w1.frozen? ⟨w.heap.size + 1 + 1, i, none⟩ = false := fun i => (b1.frozen (p := ⟨w.heap.size + 1 + 1, i, none⟩) (by show w.heap.size + 1 + 1 < W.heap.size; omega)).trans (ZF.out i)
  have z2 := (b1.cell (p := ⟨w.heap.size + 1, 2, none⟩) (by show w.heap.size + 1 < W.heap.size; omega)).trans x2
  have B1 : Hid (Below w.heap.size w w1) := BW.out.trans (b1.mono BW.out.size)
  have I1 : Hid (IntsIn S w1 (.slice la xs.length lc) xs) := IN.out.keep (keeps_below b1) (fun _ _ x => x)
  clear b1 n1 ZC ZF IX SE IN x2 hW BW eW
  rcases hi with ⟨rfl, hall⟩ | ⟨k, hk, rfl, hp, hbe⟩
  · have HA := hid hall
    clear hall
    go_wp2_with fail
    rw [Tx.setCell_self y0, Tx.setCell_self y1, Tx.setCell_self y2, Tx.setCell_self y3, Tx.setCell_self y4, Tx.setCell_self y5, Tx.setCell_self y6, Tx.setCell_self y7, Tx.setCell_self y8]
    exact bodyPost_ret (v := .tuple #[an0, .bool false]) (by simp [results, Try.results71, go_sem, y0, y1, y2, y3, y4, y5, y6, y7, y8]) rfl ⟨.inl ⟨HA.out, rfl⟩, B1.out⟩
  · obtain ⟨ao, c, hv, _, hc⟩ := id I1.out
    cases hv
    obtain ⟨b, off, rfl, _, hcc⟩ := hc (by omega)
    have v0 := hcc k hk
    have HP := hid hp
    have HQ := hid hbe
    have hk0 : ¬ ((k : Int) < 0) := by omega
    have hki : (k : Int) < xs.length := by omega
    clear hc hcc hp hbe
    obtain ⟨X, hX⟩ : ∃ X, xs.getD k default = X := ⟨_, rfl⟩
    rw [hX] at v0
    have HX := hid hX
    clear hX
    go_wp2_with fail
    refine bodyPost_ret (v := .tuple #[anV 2 0 X, .bool true]) (by simp [results, Try.results71, go_sem, y0, y1, y2, y3, y4, y5, y6, y7, y8]) rfl ⟨.inr ⟨k, hk, HP.out, HQ.out, by rw [HX.out]⟩, ?_⟩
    have hge : w.heap.size ≤ w.heap.size + 1 + 1 := by omega
    exact (((((((((B1.out.setCell hge _).setCell hge _).setCell hge _).setCell hge _).setCell hge _).setCell hge _).setCell hge _).setCell hge _).setCell hge _)
end Go.Proofs.Ytnfbcmnlloipiaa
