/-
  A look at a list, in memory; it notes a read.
-/
import Derived.Test.YtnfbcmnlloipiaaLs3
namespace Go.Proofs.Ytnfbcmnlloipiaa
set_option linter.unusedVariables false
set_option linter.unusedSimpArgs false
open Go.RowKit Go.Lib Go.Maps

/-- A read: transaction, operation, and where its list lies. -/
abbrev MRd := Nat × Nat × Option Addr × Nat × Nat
abbrev MRd.len (r : MRd) : Nat := r.2.2.2.1
def rdVs (r : MRd) : List Value := [.int .i64 r.1, .int .i64 r.2.1, .slice r.2.2.1 r.2.2.2.1 r.2.2.2.2]
def rdC (R : List MRd) : List Value := R.flatMap rdVs
theorem rdC_snoc (R : List MRd) (r : MRd) : rdC (R ++ [r]) = rdC R ++ rdVs r := by simp [rdC]
/-- A look in memory: its key, its reads, the trace, where its sources lie. -/
structure Lg (B : Nat) (w : World) (kb : Nat) (s : ByteArray) (rv : Value) (R : List MRd) (t : MRd) (sb : Nat) : Prop where
  box : w.heap[kb]? = some (.cells #[.string s, rv, .int .i64 t.1, .int .i64 t.2.1, .slice t.2.2.1 t.2.2.2.1 t.2.2.2.2, .map (some sb)] 80)
  own : w.ownsRow B 77 3 rv R.length (rdC R)
theorem Lg.apart {B : Nat} {w : World} {kb : Nat} {s : ByteArray} {rv : Value} {R : List MRd} {t : MRd} {sb : Nat} (h : Lg B w kb s rv R t sb) {g : Nat} (hg : rv.ownBlock = some g) : g ≠ kb := fun e => by
  obtain ⟨_, _, cs, hc⟩ := own_block h.own hg
  rw [e, h.box] at hc
  injection hc with hc
  injection hc with _ hc
  exact absurd hc (by decide)
theorem Lg.same {B : Nat} {w w' : World} {kb : Nat} {s : ByteArray} {rv : Value} {R : List MRd} {t : MRd} {sb : Nat} (h : Lg B w kb s rv R t sb) (hk : w'.heap[kb]? = w.heap[kb]?) (hr : ∀ g, rv.ownBlock = some g → w'.heap[g]? = w.heap[g]?) : Lg B w' kb s rv R t sb := ⟨hk.trans h.box, own_same h.own hr⟩
set_option maxHeartbeats 4000000 in
set_option maxRecDepth 100000 in
theorem note_short (B kb sb : Nat) (s : ByteArray) (rv : Value) (R : List MRd) (ti tj : Nat) (ta : Option Addr) (tm tc : Nat) (ri rj : Nat) (la : Option Addr) (lm lc : Nat) (w : World) (h : Lg B w kb s rv R (ti, tj, ta, tm, tc) sb) (hR : R.length ≤ 100000) (hB : B ≤ w.heap.size) (hm : ¬ tm < lm) : Calls Try.prog 69 #[.pointer (some ⟨kb, 0, none⟩), .agg #[.int .i64 ri, .int .i64 rj, .slice la lm lc]] w fun e w' => e = .returned (.tuple #[]) ∧ ∃ rv', Lg B w' kb s rv' (R ++ [(ri, rj, la, lm, lc)]) (ti, tj, ta, tm, tc) sb ∧ Gro (fun b => b = kb ∨ rv.ownBlock = some b) w w' ∧ ∀ g, rv'.ownBlock = some g → rv.ownBlock = some g ∨ w.heap.size ≤ g := by
  obtain ⟨i0, hi0, hz0, hz1, hz2⟩ := Tx.info_parts Try.infoRead
  have HI0 := hid hi0
  have HZ0 := hid hz0
  have HZ1 := hid hz1
  have HZ2 := hid hz2
  clear hi0 hz0 hz1 hz2
  have hkb : kb < w.heap.size := blt h.box
  obtain ⟨ra, rc, hrv⟩ := own_slice h.own
  subst hrv
  obtain ⟨rv, hrv⟩ : ∃ rv, Value.slice ra R.length rc = rv := ⟨_, rfl⟩
  obtain ⟨W1, hW1⟩ : ∃ W1, w.alloc (.cells #[.int .i64 ri, .int .i64 rj, .slice la lm lc] 77) = W1 := ⟨_, rfl⟩
  have hs1 : W1.heap.size = w.heap.size + 1 := by rw [← hW1, alloc_size]
  have bx1 : ∀ b, b < w.heap.size → W1.heap[b]? = w.heap[b]? := fun b hb => by rw [← hW1, alloc_at, if_neg (by omega)]
  have L1 : Hid (Lg B W1 kb s (.slice ra R.length rc) R (ti, tj, ta, tm, tc) sb) := h.same (bx1 kb hkb) (fun g hg => bx1 g (own_block h.own hg).2.1)
  have G1 : Hid (Gro (fun b => b = kb ∨ (Value.slice ra R.length rc).ownBlock = some b) w W1) := by rw [← hW1]; exact Gro.of_below (below_box w _)
  have x0 : W1.cell? ⟨w.heap.size, 0, none⟩ = some (.int .i64 ri) := by rw [← hW1]; exact new_cells w _ 77 0
  have x1 : W1.cell? ⟨w.heap.size, 1, none⟩ = some (.int .i64 rj) := by rw [← hW1]; exact new_cells w _ 77 1
  have x2 : W1.cell? ⟨w.heap.size, 2, none⟩ = some (.slice la lm lc) := by rw [← hW1]; exact new_cells w _ 77 2
  have k2 := Lib.cell_of_heap L1.out.box 2
  have k3 := Lib.cell_of_heap L1.out.box 3
  have k4 := Lib.cell_of_heap L1.out.box 4
  have f2 := Lib.frozen_of_heap L1.out.box 2
  have f3 := Lib.frozen_of_heap L1.out.box 3
  have f4 := Lib.frozen_of_heap L1.out.box 4
  simp only [List.getElem?_toArray, List.getElem?_cons_zero, List.getElem?_cons_succ] at k2 k3 k4
  have hmi : ¬ ((tm : Int) < (lm : Int)) := by omega
  clear h bx1 hrv rv
  go_enter Try.func69, Try.ntmps69
  go_wp2_with fail
  clear hW1
  go_quiet (fail)
  go_wp2_with fail
  obtain ⟨W, hW⟩ : ∃ W, W1.drewN nq = W := ⟨_, rfl⟩
  have hsW : W.heap.size = w.heap.size + 1 := by rw [← hW]; exact hs1
  have LW : Hid (Lg B W kb s (.slice ra R.length rc) R (ti, tj, ta, tm, tc) sb) := by rw [← hW]; exact L1.out.same rfl (fun _ _ => rfl)
  have GW : Hid (Gro (fun b => b = kb ∨ (Value.slice ra R.length rc).ownBlock = some b) w W) := by rw [← hW]; exact ⟨G1.out.os, G1.out.tape, G1.out.output, G1.out.size, G1.out.block⟩
  have z0 : W.cell? ⟨w.heap.size, 0, none⟩ = some (.int .i64 ri) := by rw [← hW]; exact x0
  have z1 : W.cell? ⟨w.heap.size, 1, none⟩ = some (.int .i64 rj) := by rw [← hW]; exact x1
  have z2 : W.cell? ⟨w.heap.size, 2, none⟩ = some (.slice la lm lc) := by rw [← hW]; exact x2
  rw [hW]
  clear hW x0 x1 x2 k2 k3 k4 f2 f3 f4 L1 G1 hs1 hmi
  have c1 := Lib.cell_of_heap LW.out.box 1
  have f1 := Lib.frozen_of_heap LW.out.box 1
  simp only [List.getElem?_toArray, List.getElem?_cons_zero, List.getElem?_cons_succ] at c1
  have NEW : Hid (∀ j u, ([.int .i64 (ri : Int), .int .i64 (rj : Int), .slice la lm lc] : List Value)[j]? = some u → ((W.alloc (.cells #[.int .i64 ri, .int .i64 rj, .slice la lm lc] 77)).drew).cell? ((⟨w.heap.size + 1, 0, none⟩ : Addr).add j) = some u) := by
    have h := World.news_of_block (w := (W.alloc (.cells #[.int .i64 ri, .int .i64 rj, .slice la lm lc] 77)).drew) (B := W.heap.size) (cs := #[.int .i64 ri, .int .i64 rj, .slice la lm lc]) (t := 77) (fr := (0, 0)) (heap_alloc_new W _)
    rw [hsW] at h
    exact h
  have ONE : Hid (∀ u ∈ ([.int .i64 (ri : Int), .int .i64 (rj : Int), .slice la lm lc] : List Value), u.oneCell' = true) := by
    intro u hu
    simp only [List.mem_cons, List.not_mem_nil, or_false] at hu
    rcases hu with rfl | rfl | rfl <;> rfl
  have SZ : Hid (((W.alloc (.cells #[.int .i64 ri, .int .i64 rj, .slice la lm lc] 77)).drew).heap.size = w.heap.size + 2) := by show (W.alloc _).heap.size = _; rw [alloc_size, hsW]
  have BX : Hid (∀ b, b ≤ w.heap.size → ((W.alloc (.cells #[.int .i64 ri, .int .i64 rj, .slice la lm lc] 77)).drew).heap[b]? = W.heap[b]?) := fun b hb => by show (W.alloc _).heap[b]? = _; rw [alloc_at, if_neg (by omega)]
  have LX : Hid (Lg B ((W.alloc (.cells #[.int .i64 ri, .int .i64 rj, .slice la lm lc] 77)).drew) kb s (.slice ra R.length rc) R (ti, tj, ta, tm, tc) sb) := LW.out.same (BX.out kb (by omega)) (fun g hg => BX.out g (by have := (own_block LW.out.own hg).2.1; omega))
  go_region_law (first
    | (refine step_append_lies _ rfl (.tmp 22) (.tmp 24) 75 rfl B 77 i0 _ 3 40 Try.underlying75 HI0.out HZ0.out HZ1.out HZ2.out rfl (by decide) (.slice ra R.length rc) R.length (rdC R) (by simp [Act.eval, Act.put]) LX.out.own ⟨w.heap.size + 1, 0, none⟩ 1 1 [.int .i64 (ri : Int), .int .i64 (rj : Int), .slice la lm lc] (by simp [Act.eval, Act.put]) rfl NEW.out ONE.out (by decide) (by unfold maxLen; omega) (by omega) (by rw [SZ.out]; omega) (w.heap.size + 2) SZ.out ?_; intro g8 cap8 w8 hown8 hgrow8 hat8 hglt8; have O8 := hid hown8; have K8 : Hid (w8.heap[kb]? = W.heap[kb]?) := (hgrow8.block kb (by rw [SZ.out]; omega) (fun e => LW.out.apart e.symm rfl)).trans (BX.out kb (by omega)); have Y8 : Hid (Gro (fun b => b = kb ∨ (Value.slice ra R.length rc).ownBlock = some b) w w8) := ⟨hgrow8.os.trans GW.out.os, hgrow8.tape.trans GW.out.tape, hgrow8.output.trans GW.out.output, Nat.le_trans (by rw [SZ.out]; omega) hgrow8.size, fun b hb hn => (hgrow8.block b (by rw [SZ.out]; omega) (fun e => hn (.inr e.symm))).trans ((BX.out b (by omega)).trans (GW.out.block b hb hn))⟩; have d1 : w8.cell? ⟨kb, 1, none⟩ = some (.slice ra R.length rc) := (World.cell?_of_block (a := ⟨kb, 1, none⟩) K8.out).trans c1; have e1 : w8.frozen? ⟨kb, 1, none⟩ = false := (Tx.frozen_of_block K8.out 1).trans f1; have A8 : Hid (∀ g, (Value.slice (some ⟨g8, 0, none⟩) (R.length + 1) cap8).ownBlock = some g → (Value.slice ra R.length rc).ownBlock = some g ∨ w.heap.size ≤ g) := (fun g hg => by have hg' : g8 = g := (by injection hg); subst hg'; rcases hat8 with h | h; exact .inl h; exact .inr (by omega)); clear hown8 hgrow8 hat8 hglt8))
  all_goals (try go_wp2_with fail)
  all_goals
    go_end0
    refine ⟨rfl, .slice (some ⟨g8, 0, none⟩) (R.length + 1) cap8, ⟨?_, ?_⟩, ⟨Y8.out.os, Y8.out.tape, Y8.out.output, by simpa [World.setCell] using Y8.out.size, fun b hb hn => (set_ne (fun e => hn (.inl e))).trans (Y8.out.block b hb hn)⟩, A8.out⟩
    · exact Go.Joins.block_setCell (K8.out.trans LW.out.box) _
    · rw [List.length_append, rdC_snoc]
      refine own_same O8.out (fun g hg => set_ne (fun e => ?_))
      obtain ⟨_, _, cs, hc⟩ := own_block O8.out hg
      rw [e, K8.out, LW.out.box] at hc
      injection hc with hc
      injection hc with _ hc
      exact absurd hc (by decide)
set_option maxHeartbeats 4000000 in
set_option maxRecDepth 100000 in
theorem note_long (B kb sb : Nat) (s : ByteArray) (rv : Value) (R : List MRd) (ti tj : Nat) (ta : Option Addr) (tm tc : Nat) (ri rj : Nat) (la : Option Addr) (lm lc : Nat) (w : World) (h : Lg B w kb s rv R (ti, tj, ta, tm, tc) sb) (hR : R.length ≤ 100000) (hB : B ≤ w.heap.size) (hm : tm < lm) : Calls Try.prog 69 #[.pointer (some ⟨kb, 0, none⟩), .agg #[.int .i64 ri, .int .i64 rj, .slice la lm lc]] w fun e w' => e = .returned (.tuple #[]) ∧ ∃ rv', Lg B w' kb s rv' (R ++ [(ri, rj, la, lm, lc)]) (ri, rj, la, lm, lc) sb ∧ Gro (fun b => b = kb ∨ rv.ownBlock = some b) w w' ∧ ∀ g, rv'.ownBlock = some g → rv.ownBlock = some g ∨ w.heap.size ≤ g := by
  obtain ⟨i0, hi0, hz0, hz1, hz2⟩ := Tx.info_parts Try.infoRead
  have HI0 := hid hi0
  have HZ0 := hid hz0
  have HZ1 := hid hz1
  have HZ2 := hid hz2
  clear hi0 hz0 hz1 hz2
  have hkb : kb < w.heap.size := blt h.box
  obtain ⟨ra, rc, hrv⟩ := own_slice h.own
  subst hrv
  obtain ⟨rv, hrv⟩ : ∃ rv, Value.slice ra R.length rc = rv := ⟨_, rfl⟩
  obtain ⟨W1, hW1⟩ : ∃ W1, w.alloc (.cells #[.int .i64 ri, .int .i64 rj, .slice la lm lc] 77) = W1 := ⟨_, rfl⟩
  have hs1 : W1.heap.size = w.heap.size + 1 := by rw [← hW1, alloc_size]
  have bx1 : ∀ b, b < w.heap.size → W1.heap[b]? = w.heap[b]? := fun b hb => by rw [← hW1, alloc_at, if_neg (by omega)]
  have L1 : Hid (Lg B W1 kb s (.slice ra R.length rc) R (ti, tj, ta, tm, tc) sb) := h.same (bx1 kb hkb) (fun g hg => bx1 g (own_block h.own hg).2.1)
  have G1 : Hid (Gro (fun b => b = kb ∨ (Value.slice ra R.length rc).ownBlock = some b) w W1) := by rw [← hW1]; exact Gro.of_below (below_box w _)
  have x0 : W1.cell? ⟨w.heap.size, 0, none⟩ = some (.int .i64 ri) := by rw [← hW1]; exact new_cells w _ 77 0
  have x1 : W1.cell? ⟨w.heap.size, 1, none⟩ = some (.int .i64 rj) := by rw [← hW1]; exact new_cells w _ 77 1
  have x2 : W1.cell? ⟨w.heap.size, 2, none⟩ = some (.slice la lm lc) := by rw [← hW1]; exact new_cells w _ 77 2
  have k2 := Lib.cell_of_heap L1.out.box 2
  have k3 := Lib.cell_of_heap L1.out.box 3
  have k4 := Lib.cell_of_heap L1.out.box 4
  have f2 := Lib.frozen_of_heap L1.out.box 2
  have f3 := Lib.frozen_of_heap L1.out.box 3
  have f4 := Lib.frozen_of_heap L1.out.box 4
  simp only [List.getElem?_toArray, List.getElem?_cons_zero, List.getElem?_cons_succ] at k2 k3 k4
  have hmi : (tm : Int) < (lm : Int) := by omega
  clear h bx1 hrv rv
  go_enter Try.func69, Try.ntmps69
  go_wp2_with fail
  clear hW1
  go_quiet (fail)
  go_wp2_with fail
  obtain ⟨W, hW⟩ : ∃ W, (((W1.drewN nq).setCell ⟨kb, 2, none⟩ (.int .i64 ri)).setCell ⟨kb, 3, none⟩ (.int .i64 rj)).setCell ⟨kb, 4, none⟩ (.slice la lm lc) = W := ⟨_, rfl⟩
  have hsW : W.heap.size = w.heap.size + 1 := by rw [← hW]; simp only [World.setCell, Array.size_modify]; exact hs1
  have oth : ∀ b, b ≠ kb → W.heap[b]? = W1.heap[b]? := fun b hb => by rw [← hW]; exact (set_ne hb).trans ((set_ne hb).trans (set_ne hb))
  have LW : Hid (Lg B W kb s (.slice ra R.length rc) R (ri, rj, la, lm, lc) sb) := by
    refine ⟨?_, own_same L1.out.own (fun g hg => oth g (L1.out.apart hg))⟩
    rw [← hW]
    exact Go.Joins.block_setCell (Go.Joins.block_setCell (Go.Joins.block_setCell (w := W1.drewN nq) L1.out.box _) _) _
  have GW : Hid (Gro (fun b => b = kb ∨ (Value.slice ra R.length rc).ownBlock = some b) w W) := ⟨by rw [← hW]; exact G1.out.os, by rw [← hW]; exact G1.out.tape, by rw [← hW]; exact G1.out.output, by omega, fun b hb hn => (oth b (fun e => hn (.inl e))).trans (G1.out.block b hb hn)⟩
  have zz : ∀ i, W.cell? ⟨w.heap.size, i, none⟩ = W1.cell? ⟨w.heap.size, i, none⟩ := fun i => World.cell?_of_block (a := ⟨w.heap.size, i, none⟩) (oth _ (show w.heap.size ≠ kb by omega))
  have z0 := (zz 0).trans x0
  have z1 := (zz 1).trans x1
  have z2 := (zz 2).trans x2
  rw [hW]
  clear hW x0 x1 x2 k2 k3 k4 f2 f3 f4 L1 G1 hs1 hmi zz oth
  have c1 := Lib.cell_of_heap LW.out.box 1
  have f1 := Lib.frozen_of_heap LW.out.box 1
  simp only [List.getElem?_toArray, List.getElem?_cons_zero, List.getElem?_cons_succ] at c1
  have NEW : Hid (∀ j u, ([.int .i64 (ri : Int), .int .i64 (rj : Int), .slice la lm lc] : List Value)[j]? = some u → ((W.alloc (.cells #[.int .i64 ri, .int .i64 rj, .slice la lm lc] 77)).drew).cell? ((⟨w.heap.size + 1, 0, none⟩ : Addr).add j) = some u) := by
    have h := World.news_of_block (w := (W.alloc (.cells #[.int .i64 ri, .int .i64 rj, .slice la lm lc] 77)).drew) (B := W.heap.size) (cs := #[.int .i64 ri, .int .i64 rj, .slice la lm lc]) (t := 77) (fr := (0, 0)) (heap_alloc_new W _)
    rw [hsW] at h
    exact h
  have ONE : Hid (∀ u ∈ ([.int .i64 (ri : Int), .int .i64 (rj : Int), .slice la lm lc] : List Value), u.oneCell' = true) := by
    intro u hu
    simp only [List.mem_cons, List.not_mem_nil, or_false] at hu
    rcases hu with rfl | rfl | rfl <;> rfl
  have SZ : Hid (((W.alloc (.cells #[.int .i64 ri, .int .i64 rj, .slice la lm lc] 77)).drew).heap.size = w.heap.size + 2) := by show (W.alloc _).heap.size = _; rw [alloc_size, hsW]
  have BX : Hid (∀ b, b ≤ w.heap.size → ((W.alloc (.cells #[.int .i64 ri, .int .i64 rj, .slice la lm lc] 77)).drew).heap[b]? = W.heap[b]?) := fun b hb => by show (W.alloc _).heap[b]? = _; rw [alloc_at, if_neg (by omega)]
  have LX : Hid (Lg B ((W.alloc (.cells #[.int .i64 ri, .int .i64 rj, .slice la lm lc] 77)).drew) kb s (.slice ra R.length rc) R (ri, rj, la, lm, lc) sb) := LW.out.same (BX.out kb (by omega)) (fun g hg => BX.out g (by have := (own_block LW.out.own hg).2.1; omega))
  go_region_law (first
    | (refine step_append_lies _ rfl (.tmp 22) (.tmp 24) 75 rfl B 77 i0 _ 3 40 Try.underlying75 HI0.out HZ0.out HZ1.out HZ2.out rfl (by decide) (.slice ra R.length rc) R.length (rdC R) (by simp [Act.eval, Act.put]) LX.out.own ⟨w.heap.size + 1, 0, none⟩ 1 1 [.int .i64 (ri : Int), .int .i64 (rj : Int), .slice la lm lc] (by simp [Act.eval, Act.put]) rfl NEW.out ONE.out (by decide) (by unfold maxLen; omega) (by omega) (by rw [SZ.out]; omega) (w.heap.size + 2) SZ.out ?_; intro g8 cap8 w8 hown8 hgrow8 hat8 hglt8; have O8 := hid hown8; have K8 : Hid (w8.heap[kb]? = W.heap[kb]?) := (hgrow8.block kb (by rw [SZ.out]; omega) (fun e => LW.out.apart e.symm rfl)).trans (BX.out kb (by omega)); have Y8 : Hid (Gro (fun b => b = kb ∨ (Value.slice ra R.length rc).ownBlock = some b) w w8) := ⟨hgrow8.os.trans GW.out.os, hgrow8.tape.trans GW.out.tape, hgrow8.output.trans GW.out.output, Nat.le_trans (by rw [SZ.out]; omega) hgrow8.size, fun b hb hn => (hgrow8.block b (by rw [SZ.out]; omega) (fun e => hn (.inr e.symm))).trans ((BX.out b (by omega)).trans (GW.out.block b hb hn))⟩; have d1 : w8.cell? ⟨kb, 1, none⟩ = some (.slice ra R.length rc) := (World.cell?_of_block (a := ⟨kb, 1, none⟩) K8.out).trans c1; have e1 : w8.frozen? ⟨kb, 1, none⟩ = false := (Tx.frozen_of_block K8.out 1).trans f1; have A8 : Hid (∀ g, (Value.slice (some ⟨g8, 0, none⟩) (R.length + 1) cap8).ownBlock = some g → (Value.slice ra R.length rc).ownBlock = some g ∨ w.heap.size ≤ g) := (fun g hg => by have hg' : g8 = g := (by injection hg); subst hg'; rcases hat8 with h | h; exact .inl h; exact .inr (by omega)); clear hown8 hgrow8 hat8 hglt8))
  all_goals (try go_wp2_with fail)
  all_goals
    go_end0
    refine ⟨rfl, .slice (some ⟨g8, 0, none⟩) (R.length + 1) cap8, ⟨?_, ?_⟩, ⟨Y8.out.os, Y8.out.tape, Y8.out.output, by simpa [World.setCell] using Y8.out.size, fun b hb hn => (set_ne (fun e => hn (.inl e))).trans (Y8.out.block b hb hn)⟩, A8.out⟩
    · exact Go.Joins.block_setCell (K8.out.trans LW.out.box) _
    · rw [List.length_append, rdC_snoc]
      refine own_same O8.out (fun g hg => set_ne (fun e => ?_))
      obtain ⟨_, _, cs, hc⟩ := own_block O8.out hg
      rw [e, K8.out, LW.out.box] at hc
      injection hc with hc
      injection hc with _ hc
      exact absurd hc (by decide)
end Go.Proofs.Ytnfbcmnlloipiaa
