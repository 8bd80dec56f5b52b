/-
  A dependency is told.
  A region that draws its order, by what is known of the value of each of its operations: whatever the order, each operation comes once, behind those that it waits for.
  A region that draws its order, reads, and ends with one operation that all others go ahead of.
-/
import Derived.Test.YtnfbcmnlloipiaaV11
import Derived.WalkKit
import Derived.Orders
import Derived.RowKit
import Derived.Deep.Draws
import Derived.Test.YtnfbcmnlloipiaaProg
import Derived.BigQuiet
namespace Go.Proofs.Ytnfbcmnlloipiaa
set_option linter.unusedVariables false
set_option linter.unusedSimpArgs false
open Go.RowKit Go.Lib Go.Maps
open Tx (info_parts)

theorem Try.infoWy : (Try.prog.info? 40).map (fun i => (i.zero, i.size, i.bytes)) = some (some (.agg #[.int .i64 0, .int .i64 0, .int .i64 0, .string ⟨#[]⟩, .int .i64 0, .int .i64 0, .bool false, .bool false]), 8, 64) := by kernel_rfl
/-- What telling leaves behind. -/
def TellP (B lb mb hb N : Nat) (out : List MWy) (w w' : World) : Prop := (∃ rv c n, Te B lb mb hb N out rv c n w' ∧ ∀ x, 0 < c x ↔ x ∈ out) ∧ Gro (fun b => b = lb ∨ b = hb ∨ B ≤ b) w w'
theorem Te.relax {B lb mb hb N N' : Nat} {out : List MWy} {rv : Value} {c : MWy → Nat} {n : Nat} {w : World} (h : Te B lb mb hb N out rv c n w) (hN : N ≤ N') : Te B lb mb hb N' out rv c n w := by
  obtain ⟨q1, q2, q3, q4, q5, q6, q7, q8, q9, q10, q11, q12, q13, q14⟩ := h
  exact ⟨q1, q2, q3, q4, Nat.le_trans q5 hN, fun x => Nat.le_trans (q6 x) hN, Nat.le_trans q7 hN, q8, q9, q10, q11, q12, q13, q14⟩
/-- One more of y, in the map. -/
theorem Te.more {B lb mb hb N : Nat} {out : List MWy} {rv : Value} {c : MWy → Nat} {n : Nat} {w : World} (h : Te B lb mb hb N out rv c n w) (hN : N ≤ 1000000) (y : MWy) (hy : WyOk y) :
    ∃ (st : Nat) (w1 w3 : World), (Instr.mapEntry 97 (.map (some hb)) (whyV y)).run Try.prog w = .ok (.tuple #[.int .i64 (c y), goInt st]) w1 ∧ (Instr.lookup 97 (.map (some hb)) (whyV y) false).run Try.prog w1 = .ok (.int .i64 (c y)) w1 ∧ (Instr.entryStore 97 (.map (some hb)) (goInt st) (.int .i64 ((c y : Int) + 1))).run Try.prog w1 = .ok () w3 ∧ Te B lb mb hb (N + 1) out rv (fun x => if eqW x y then c y + 1 else c x) (n + 1) w3 ∧ w.grownBy w3 (some hb) := by
  obtain ⟨F, m1, m2⟩ := h.map
  obtain ⟨kl, hk⟩ := key_why y hy
  obtain ⟨st, w1, r1, g1, s1, l1, p1⟩ := m1.entry2 lawW Try.underlying97 zeroI (by unfold maxLen; have := h.nN; omega) hk
  obtain ⟨w3, g, q1, q2, q3, q4⟩ := p1 w1 (.int .i64 ((c y : Int) + 1)) rfl
  have e := m2 y
  rw [e] at r1 l1
  have hlb := h.lB
  have hmb := h.mB
  have hhb := h.hB
  have hsz := h.sz
  have same : ∀ b, b < w.heap.size → b ≠ hb → w3.heap[b]? = w.heap[b]? := fun b hb' hn => (q4.block b (by rw [s1]; exact hb') (fun e => hn (by injection e))).trans (g1.block b hb' (fun e => hn (by injection e)))
  refine ⟨st, w1, w3, r1, l1 w1 rfl, q1, ⟨(same _ (by omega) h.hl.symm).trans h.lbx, own_same h.own (fun g hg => same g (own_block h.own hg).2.1 (by have := (own_block h.own hg).1; omega)), (same _ (by omega) h.hm.symm).trans h.mbx, ⟨g, q3, fun x => ?_⟩, by have := h.nN; omega, fun x => ?_, by have := h.oN; omega, h.lB, h.mB, h.hB, by have := q4.size; omega, h.hl, h.hm, h.lm⟩, ⟨q4.os.trans g1.os, q4.tape.trans g1.tape, q4.output.trans g1.output, by have := q4.size; omega, fun b hb' hn => same b hb' (fun e => hn (by rw [e]))⟩⟩
  · by_cases hx : eqW x y = true
    · rw [if_pos hx, (eqW_iff x y).1 hx, q2.1]
      rfl
    · rw [if_neg hx, q2.2 (whyV x) (fun e => hx ((eqW_iff x y).2 (whyV_inj e))), m2 x]
  · have h1 := h.cN x
    have h2 := h.cN y
    show (if eqW x y = true then c y + 1 else c x) ≤ N + 1
    split <;> omega
theorem mem_more {out : List MWy} {c : MWy → Nat} {y : MWy} (hm : ∀ x, x ≠ y → (0 < c x ↔ x ∈ out)) (hy : y ∈ out) : ∀ x, 0 < (if eqW x y then c y + 1 else c x) ↔ x ∈ out := fun x => by
  by_cases hx : eqW x y = true
  · rw [if_pos hx, (eqW_iff x y).1 hx]
    exact ⟨fun _ => hy, fun _ => by omega⟩
  · rw [if_neg hx]
    exact hm x (fun e => hx ((eqW_iff x y).2 e))
/-- The row has grown; all else stands. -/
theorem te_grown {B lb mb hb N : Nat} {out : List MWy} {rv : Value} {c : MWy → Nat} {n : Nat} {w w' : World} (h : Te B lb mb hb N out rv c n w) (hg : w.grownBy w' rv.ownBlock) : w'.heap[lb]? = some (.cells #[rv] 38) ∧ w'.heap[mb]? = some (.cells #[.map (some hb)] 97) ∧ (∃ F, MapV w' Try.prog 40 hb n F ∧ ∀ y, (F (whyV y)).getD (.int .i64 0) = .int .i64 (c y)) := by
  have same : ∀ b, b < B → w'.heap[b]? = w.heap[b]? := fun b hb' => hg.block b (by have := h.sz; omega) (fun e => by have := (own_block h.own e.symm).1; omega)
  obtain ⟨F, m1, m2⟩ := h.map
  exact ⟨(same _ h.lB).trans h.lbx, (same _ h.mB).trans h.mbx, F, m1.same (same _ h.hB), m2⟩
set_option maxHeartbeats 4000000 in
set_option maxRecDepth 100000 in
theorem tell_is (B lb mb hb N : Nat) (out : List MWy) (rv : Value) (c : MWy → Nat) (n : Nat) (w : World) (h : Te B lb mb hb N out rv c n w) (hm : ∀ x, 0 < c x ↔ x ∈ out) (hN : N ≤ 900000) (y : MWy) (hy : WyOk y) : Calls Try.prog 46 #[whyV y, .pointer (some ⟨mb, 0, none⟩), .pointer (some ⟨lb, 0, none⟩)] w fun e w' => e = .returned (.tuple #[]) ∧ TellP B lb mb hb (N + 2) (stepW out y) w w' := by
  obtain ⟨i0, hi0, hz0, hz1, hz2⟩ := info_parts Try.infoWy
  have HI0 := hid hi0
  have HZ0 := hid hz0
  have HZ1 := hid hz1
  have HZ2 := hid hz2
  have T1 : ∀ o, Hid (Te B lb mb hb N out rv c n (w.alloc o)) := fun o => h.later (below_box w o)
  have HY := hid hy
  have HM := hid hm
  have HTe := hid h
  have hlb := h.lB
  have hmb := h.mB
  have hhb := h.hB
  have hsz := h.sz
  clear hi0 hz0 hz1 hz2 h hm
  by_cases hab : y.1 = y.2.1
  · have HS : Hid (stepW out y = out) := by show _ = _; unfold stepW; rw [if_pos (by simp [hab])]
    obtain ⟨a, b, lbl, s, ya, yb, nl⟩ := y
    simp only at hab
    subst hab
    unfold whyV
    simp only
    go_enter Try.func46, Try.ntmps46
    go_wp2_with fail
    refine bodyPost_ret (results_none rfl _ _ _) rfl ?_
    refine ⟨rfl, ⟨rv, c, n, ?_, by rw [HS.out]; exact HM.out⟩, ?_⟩
    · rw [HS.out]
      exact (T1 _).out.relax (by omega)
    · exact Gro.of_below (below_box w _)
  · have habi : (y.1 == y.2.1) = false := by simpa using hab
    have LK := fun o => (T1 o).out.look y hy
    have hcN := HTe.out.cN y
    have HSY : Hid (stepW out y = if inW out y = true then out else out ++ [y]) := by show _ = _; unfold stepW; rw [decide_eq_false hab, Bool.false_or]
    have HV : Hid (whyV y = .agg #[.int .i64 y.1, .int .i64 y.2.1, .int .i64 y.2.2.1, .string y.2.2.2.1, .int .i64 y.2.2.2.2.1, .int .i64 y.2.2.2.2.2.1, .bool y.2.2.2.2.2.2, .bool false]) := rfl
    obtain ⟨ra, rc, hrv⟩ := own_slice HTe.out.own
    subst hrv
    have hoN := HTe.out.oN
    have MO : Hid (∀ out' rv' N' W, Te B lb mb hb N' out' rv' c n W → N' ≤ 1000000 → ∃ (st : Nat) (w1 w3 : World), (Instr.mapEntry 97 (.map (some hb)) (whyV y)).run Try.prog W = .ok (.tuple #[.int .i64 (c y), goInt st]) w1 ∧ (Instr.lookup 97 (.map (some hb)) (whyV y) false).run Try.prog w1 = .ok (.int .i64 (c y)) w1 ∧ (Instr.entryStore 97 (.map (some hb)) (goInt st) (.int .i64 ((c y : Int) + 1))).run Try.prog w1 = .ok () w3 ∧ Te B lb mb hb (N' + 1) out' rv' (fun x => if eqW x y then c y + 1 else c x) (n + 1) w3 ∧ W.grownBy w3 (some hb) ∧ (Instr.lookup 97 (.map (some hb)) (whyV y) false).run Try.prog W = .ok (.int .i64 (c y)) W) := fun out' rv' N' W hT hN' => by
      obtain ⟨st, w1, w3, q1, q2, q3, q4, q5⟩ := hT.more hN' y HY.out
      exact ⟨st, w1, w3, q1, q2, q3, q4, q5, hT.look y HY.out⟩
    have HMC := hid (HM.out y)
    have HIN := hid (inW_iff out y)
    obtain ⟨C, hC⟩ : ∃ C, c y = C := ⟨_, rfl⟩
    rw [hC] at LK hcN HMC MO
    have MEM : Hid (∀ out', y ∈ out' → (∀ x, x ≠ y → (x ∈ out' ↔ x ∈ out)) → ∀ x, 0 < (if eqW x y then C + 1 else c x) ↔ x ∈ out') := fun out' h1 h2 => by
      have := mem_more (c := c) (y := y) (out := out') (fun x hx => (HM.out x).trans (h2 x hx).symm) h1
      rw [hC] at this
      exact this
    rw [HV.out] at LK MO ⊢
    clear hC hab hy
    obtain ⟨a, b, lbl, s, ya, yb, nl⟩ := y
    simp only at habi LK MO
    simp only
    go_enter Try.func46, Try.ntmps46
    go_upto_region 2 with fail
    have LK1 := hid (LK (.cells #[.int .i64 a, .int .i64 b, .int .i64 lbl, .string s, .int .i64 ya, .int .i64 yb, .bool nl, .bool false] 40))
    have T2 := T1 (.cells #[.int .i64 a, .int .i64 b, .int .i64 lbl, .string s, .int .i64 ya, .int .i64 yb, .bool nl, .bool false] 40)
    have XB := hid (heap_alloc_new w (.cells #[.int .i64 a, .int .i64 b, .int .i64 lbl, .string s, .int .i64 ya, .int .i64 yb, .bool nl, .bool false] 40))
    have BW := hid (below_box w (.cells #[.int .i64 a, .int .i64 b, .int .i64 lbl, .string s, .int .i64 ya, .int .i64 yb, .bool nl, .bool false] 40))
    clear LK T1
    generalize w.alloc (.cells #[.int .i64 a, .int .i64 b, .int .i64 lbl, .string s, .int .i64 ya, .int .i64 yb, .bool nl, .bool false] 40) = W1 at *
    obtain ⟨xb, hxb⟩ : ∃ xb, w.heap.size = xb := ⟨_, rfl⟩
    have HXB := hid hxb
    rw [hxb] at XB ⊢
    have x0 : W1.cell? ⟨xb, 0, none⟩ = some (.int .i64 a) := Lib.cell_of_heap XB.out 0
    have x1 : W1.cell? ⟨xb, 1, none⟩ = some (.int .i64 b) := Lib.cell_of_heap XB.out 1
    have x2 : W1.cell? ⟨xb, 2, none⟩ = some (.int .i64 lbl) := Lib.cell_of_heap XB.out 2
    have x3 : W1.cell? ⟨xb, 3, none⟩ = some (.string s) := Lib.cell_of_heap XB.out 3
    have x4 : W1.cell? ⟨xb, 4, none⟩ = some (.int .i64 ya) := Lib.cell_of_heap XB.out 4
    have x5 : W1.cell? ⟨xb, 5, none⟩ = some (.int .i64 yb) := Lib.cell_of_heap XB.out 5
    have x6 : W1.cell? ⟨xb, 6, none⟩ = some (.bool nl) := Lib.cell_of_heap XB.out 6
    have x7 : W1.cell? ⟨xb, 7, none⟩ = some (.bool false) := Lib.cell_of_heap XB.out 7
    have m0 : W1.cell? ⟨mb, 0, none⟩ = some (.map (some hb)) := Lib.cell_of_heap T2.out.mbx 0
    have l0 : W1.cell? ⟨lb, 0, none⟩ = some (.slice ra out.length rc) := Lib.cell_of_heap T2.out.lbx 0
    have lk1 := LK1.out
    clear hxb
    by_cases hC0 : C = 0
    · subst hC0
      have hni : ¬ (a, b, lbl, s, ya, yb, nl) ∈ out := fun c => by have := HMC.out.2 c; omega
      have HS : Hid (stepW out (a, b, lbl, s, ya, yb, nl) = out ++ [(a, b, lbl, s, ya, yb, nl)]) := by show _ = _; rw [HSY.out, if_neg (fun c => hni (HIN.out.1 c))]
      have HMM := hid (MEM.out (out ++ [(a, b, lbl, s, ya, yb, nl)]) (by simp) (fun x hx => by simp [hx]))
      have HNEW : Hid (whyCs (a, b, lbl, s, ya, yb, nl) = [.int .i64 a, .int .i64 b, .int .i64 lbl, .string s, .int .i64 ya, .int .i64 yb, .bool nl, .bool false]) := rfl
      have SZ : Hid ((W1.alloc (.cells #[.int .i64 a, .int .i64 b, .int .i64 lbl, .string s, .int .i64 ya, .int .i64 yb, .bool nl, .bool false] 40)).heap.size = W1.heap.size + 1) := alloc_size _ _
      have TA := hid (T2.out.later (below_box W1 (.cells #[.int .i64 a, .int .i64 b, .int .i64 lbl, .string s, .int .i64 ya, .int .i64 yb, .bool nl, .bool false] 40)))
      have NEW : Hid (∀ j u, ([.int .i64 a, .int .i64 b, .int .i64 lbl, .string s, .int .i64 ya, .int .i64 yb, .bool nl, .bool false] : List Value)[j]? = some u → (W1.alloc (.cells #[.int .i64 a, .int .i64 b, .int .i64 lbl, .string s, .int .i64 ya, .int .i64 yb, .bool nl, .bool false] 40)).cell? ((⟨W1.heap.size, 0, none⟩ : Addr).add j) = some u) := World.news_of_block (cs := #[.int .i64 a, .int .i64 b, .int .i64 lbl, .string s, .int .i64 ya, .int .i64 yb, .bool nl, .bool false]) (t := 40) (fr := (0, 0)) (heap_alloc_new W1 _)
      have ONE : Hid (∀ u ∈ ([.int .i64 a, .int .i64 b, .int .i64 lbl, .string s, .int .i64 ya, .int .i64 yb, .bool nl, .bool false] : List Value), u.oneCell' = true) := by
        intro u hu
        simp only [List.mem_cons, List.not_mem_nil, or_false] at hu
        rcases hu with rfl | rfl | rfl | rfl | rfl | rfl | rfl | rfl <;> rfl
      have hbw := BW.out.size
      go_upto_region 4 with (at_builtin; refine wpList_append_lies _ rfl _ _ 38 rfl B 40 i0 _ 8 64 Try.underlying38 HI0.out HZ0.out HZ1.out HZ2.out rfl (by decide) (.slice ra out.length rc) out.length (whysC out) rfl TA.out.own ⟨W1.heap.size, 0, none⟩ 1 1 [.int .i64 a, .int .i64 b, .int .i64 lbl, .string s, .int .i64 ya, .int .i64 yb, .bool nl, .bool false] rfl rfl NEW.out ONE.out (by decide) (by unfold maxLen; omega) (by omega) (by rw [SZ.out]; omega) (W1.heap.size + 1) SZ.out ?_; intro g8 cap8 w8 hown8 hgrow8 hat8 hglt8; have O8 := hid hown8; have G8 := hid hgrow8; have TG := hid (te_grown TA.out hgrow8); have l8 : w8.cell? ⟨lb, 0, none⟩ = some (.slice ra out.length rc) := (Lib.cell_of_heap (te_grown TA.out hgrow8).1 0); have f8 : w8.frozen? ⟨lb, 0, none⟩ = false := (Lib.frozen_of_heap (te_grown TA.out hgrow8).1 0); clear hown8 hgrow8 hat8 hglt8)
      have SZ9 : (w8.setCell ⟨lb, 0, none⟩ (.slice (some ⟨g8, 0, none⟩) (out.length + 1) cap8)).heap.size = w8.heap.size := by simp [World.setCell]
      have T9 : Te B lb mb hb (N + 1) (out ++ [(a, b, lbl, s, ya, yb, nl)]) (.slice (some ⟨g8, 0, none⟩) (out.length + 1) cap8) c n (w8.setCell ⟨lb, 0, none⟩ (.slice (some ⟨g8, 0, none⟩) (out.length + 1) cap8)) := by
        obtain ⟨q1, q2, F, q3, q4⟩ := TG.out
        refine ⟨Go.Joins.block_setCell q1 _, ?_, (set_ne (fun e => TA.out.lm e.symm)).trans q2, ⟨F, q3.same (set_ne TA.out.hl), q4⟩, Nat.le_succ_of_le TA.out.nN, fun x => Nat.le_succ_of_le (TA.out.cN x), by have := TA.out.oN; simp; omega, hlb, hmb, hhb, by have h1 := G8.out.size; rw [SZ.out] at h1; rw [SZ9]; omega, TA.out.hl, TA.out.hm, TA.out.lm⟩
        rw [List.length_append, whysC_snoc, HNEW.out]
        exact own_same O8.out (fun g hg => set_ne (fun e => by have := (own_block O8.out hg).1; have e' : g = lb := e; omega))
      have S9 : Hid (∀ i, i < w.heap.size → i ≠ lb → ¬ B ≤ i → (w8.setCell ⟨lb, 0, none⟩ (.slice (some ⟨g8, 0, none⟩) (out.length + 1) cap8)).heap[i]? = w.heap[i]?) := fun i hi h1 h2 => (set_ne h1).trans ((G8.out.block i (by rw [SZ.out]; omega) (fun e => h2 (own_block TA.out.own e.symm).1)).trans (((below_box W1 _).block i (by omega)).trans (BW.out.block i hi)))
      have Z9 : Hid (w.heap.size ≤ (w8.setCell ⟨lb, 0, none⟩ (.slice (some ⟨g8, 0, none⟩) (out.length + 1) cap8)).heap.size) := by
        have h1 := G8.out.size
        rw [SZ.out] at h1
        have h2 : (w8.setCell ⟨lb, 0, none⟩ (.slice (some ⟨g8, 0, none⟩) (out.length + 1) cap8)).heap.size = w8.heap.size := by simp [World.setCell]
        show _ ≤ _
        omega
      have X9 : ∀ i u, W1.cell? ⟨xb, i, none⟩ = some u → (w8.setCell ⟨lb, 0, none⟩ (.slice (some ⟨g8, 0, none⟩) (out.length + 1) cap8)).cell? ⟨xb, i, none⟩ = some u := fun i u hu => by
        have hx : xb < W1.heap.size := World.block_lt_of_cell? _ _ hu
        have e1 : (w8.setCell ⟨lb, 0, none⟩ (.slice (some ⟨g8, 0, none⟩) (out.length + 1) cap8)).heap[xb]? = W1.heap[xb]? := (set_ne (by have := HXB.out; show xb ≠ lb; omega)).trans ((G8.out.block xb (by rw [SZ.out]; omega) (fun e => by have := (own_block HTe.out.own e.symm).2.1; have := HXB.out; omega)).trans ((below_box W1 _).block xb hx))
        exact (World.cell?_of_block (a := ⟨xb, i, none⟩) e1).trans hu
      have X0 := X9 0 _ x0
      have X1 := X9 1 _ x1
      have X2 := X9 2 _ x2
      have X3 := X9 3 _ x3
      have X4 := X9 4 _ x4
      have X5 := X9 5 _ x5
      have X6 := X9 6 _ x6
      have X7 := X9 7 _ x7
      have M0 : (w8.setCell ⟨lb, 0, none⟩ (.slice (some ⟨g8, 0, none⟩) (out.length + 1) cap8)).cell? ⟨mb, 0, none⟩ = some (.map (some hb)) := Lib.cell_of_heap T9.mbx 0
      have OS9 : Hid ((w8.setCell ⟨lb, 0, none⟩ (.slice (some ⟨g8, 0, none⟩) (out.length + 1) cap8)).os = w.os ∧ (w8.setCell ⟨lb, 0, none⟩ (.slice (some ⟨g8, 0, none⟩) (out.length + 1) cap8)).tape = w.tape ∧ (w8.setCell ⟨lb, 0, none⟩ (.slice (some ⟨g8, 0, none⟩) (out.length + 1) cap8)).output = w.output) := ⟨by simp only [World.setCell]; exact G8.out.os.trans BW.out.os, by simp only [World.setCell]; exact G8.out.tape.trans BW.out.tape, by simp only [World.setCell]; exact G8.out.output.trans BW.out.output⟩
      clear x0 x1 x2 x3 x4 x5 x6 x7 m0 l0 l8 f8 X9 lk1 LK1
      generalize w8.setCell ⟨lb, 0, none⟩ (.slice (some ⟨g8, 0, none⟩) (out.length + 1) cap8) = W9 at *
      have TD : Te B lb mb hb (N + 1) (out ++ [(a, b, lbl, s, ya, yb, nl)]) (.slice (some ⟨g8, 0, none⟩) (out.length + 1) cap8) c n W9.drew := T9.later (Below.refl _ _).drew
      obtain ⟨st, w1, w3, q1, q2, q3, q4, q5, q6⟩ := MO.out _ _ _ W9.drew TD (by omega)
      have T3 := hid q4
      have G3 := hid q5
      have q3' : (Instr.entryStore 97 (.map (some hb)) (.int .i64 (st : Int)) (.int .i64 1)).run Try.prog w1 = .ok () w3 := q3
      have q1' : (Instr.mapEntry 97 (.map (some hb)) (.agg #[.int .i64 a, .int .i64 b, .int .i64 lbl, .string s, .int .i64 ya, .int .i64 yb, .bool nl, .bool false])).run Try.prog W9.drew = .ok (.tuple #[.int .i64 0, goInt st]) w1 := q1
      have q2' : (Instr.lookup 97 (.map (some hb)) (.agg #[.int .i64 a, .int .i64 b, .int .i64 lbl, .string s, .int .i64 ya, .int .i64 yb, .bool nl, .bool false]) false).run Try.prog w1 = .ok (.int .i64 0) w1 := q2
      have q6' : (Instr.lookup 97 (.map (some hb)) (.agg #[.int .i64 a, .int .i64 b, .int .i64 lbl, .string s, .int .i64 ya, .int .i64 yb, .bool nl, .bool false]) false).run Try.prog W9.drew = .ok (.int .i64 0) W9.drew := q6
      clear q1 q2 q6 q3 q4 q5 TD T9 MO MEM HMC
      go_wp2_with fail
      go_region
      all_goals (try go_wp2_with fail)
      all_goals
        go_end0
        refine ⟨rfl, ⟨_, _, _, (by rw [HS.out]; exact T3.out), (by rw [HS.out]; exact HMM.out)⟩, ?_⟩
        exact ⟨G3.out.os.trans OS9.out.1, G3.out.tape.trans OS9.out.2.1, G3.out.output.trans OS9.out.2.2, Nat.le_trans Z9.out G3.out.size, fun i hi hn => (G3.out.block i (Nat.lt_of_lt_of_le hi Z9.out) (fun e => hn (.inr (.inl (by injection e))))).trans (S9.out i hi (fun e => hn (.inl e)) (fun e => hn (.inr (.inr e))))⟩
    · have hC0b : ((C : Int) == 0) = false := by rw [beq_eq_false_iff_ne]; omega
      have HS : Hid (stepW out (a, b, lbl, s, ya, yb, nl) = out) := by show _ = _; rw [HSY.out, if_pos (HIN.out.2 (HMC.out.1 (by omega)))]
      have HMM := hid (MEM.out out (HMC.out.1 (by omega)) (fun _ _ => Iff.rfl))
      have TD : Te B lb mb hb N out (.slice ra out.length rc) c n W1.drew := T2.out.later (Below.refl _ _).drew
      obtain ⟨st, w1, w3, q1, q2, q3, q4, q5, q6⟩ := MO.out out (.slice ra out.length rc) N W1.drew TD (by omega)
      have T3 := hid q4
      have G3 := hid q5
      have q3' : (Instr.entryStore 97 (.map (some hb)) (.int .i64 (st : Int)) (.int .i64 ((C : Int) + 1))).run Try.prog w1 = .ok () w3 := q3
      clear q3 q4 q5 TD MO MEM HMC
      have hCi : (C : Int) ≤ 1000000 := by omega
      go_wp2_with fail
      go_region
      all_goals (try go_wp2_with fail)
      all_goals
        go_end0
        refine ⟨rfl, ⟨_, _, _, (by rw [HS.out]; exact T3.out.relax (by omega)), (by rw [HS.out]; exact HMM.out)⟩, ?_⟩
        exact ⟨G3.out.os.trans BW.out.os, G3.out.tape.trans BW.out.tape, G3.out.output.trans BW.out.output, Nat.le_trans BW.out.size G3.out.size, fun i hi hn => (G3.out.block i (Nat.lt_of_lt_of_le hi BW.out.size) (fun e => hn (.inr (.inl (by injection e))))).trans (BW.out.block i hi)⟩
end Go.Proofs.Ytnfbcmnlloipiaa
namespace Go.Proofs.Ytnfbcmnlloipiaa
set_option linter.unusedVariables false
set_option linter.unusedSimpArgs false
open Go.RowKit

section
variable {P : Program} {ops : Array Oper} {Q : Exit → Act → World → Prop} {md : Region.Mode}
/-- How many operations are still to come. -/
def leftN (ops : Array Oper) (listed : Array Bool) : Nat := ((List.range ops.size).filter fun i => !listed.getD i true).length
theorem filter_lt {α : Type} (p q : α → Bool) : ∀ (l : List α), (∀ x ∈ l, q x = true → p x = true) → (∃ x ∈ l, p x = true ∧ q x = false) → (l.filter q).length < (l.filter p).length
  | [], _, h => by obtain ⟨x, hx, _⟩ := h; cases hx
  | a :: l, h1, h2 => by
    have hle : (l.filter q).length ≤ (l.filter p).length := by
      clear h2
      induction l with
      | nil => simp
      | cons b l ih =>
        have := ih (fun x hx => h1 x (by simp at hx ⊢; rcases hx with rfl | hx <;> simp_all))
        have hb := h1 b (by simp)
        simp only [List.filter_cons]
        cases hq : q b <;> cases hp : p b <;> simp_all <;> omega
    by_cases ha : p a = true ∧ q a = false
    · simp only [List.filter_cons, ha.1, ha.2]
      simp
      omega
    · have : ∃ x ∈ l, p x = true ∧ q x = false := by
        obtain ⟨x, hx, hp⟩ := h2
        simp at hx
        rcases hx with rfl | hx
        · exact absurd hp ha
        · exact ⟨x, hx, hp⟩
      have ih := filter_lt p q l (fun x hx => h1 x (by simp [hx])) this
      simp only [List.filter_cons]
      have ha1 := h1 a (by simp)
      cases hq : q a <;> cases hp : p a <;> simp_all
theorem leftN_set {listed : Array Bool} {i : Nat} (hi : i < ops.size) (h : listed.getD i true = false) : leftN ops (listed.setIfInBounds i true) < leftN ops listed := by
  unfold leftN
  have hl : i < listed.size := by
    rcases Nat.lt_or_ge i listed.size with c | c
    · exact c
    · rw [Array.getD_eq_getD_getElem?, Array.getElem?_eq_none c] at h; cases h
  refine filter_lt _ _ _ (fun x _ hx => ?_) ⟨i, by simpa using hi, by simp [h], ?_⟩
  · simp only [Bool.not_eq_true'] at hx ⊢
    by_cases e : i = x
    · subst e
      rw [Array.getD_eq_getD_getElem?, Array.getElem?_setIfInBounds_self_of_lt hl] at hx
      cases hx
    · rwa [getD_set_ne true e] at hx
  · rw [Array.getD_eq_getD_getElem?, Array.getElem?_setIfInBounds_self_of_lt hl]
    rfl
/-- By a statement that each operation which may come carries on. -/
theorem wpAny_inv (J : Array Bool → Act → World → Prop)
    (hstep : ∀ listed a w, J listed a w → ∀ i, i ∈ Region.ready md ops listed → wpOp P ops Q i (J (listed.setIfInBounds i true)) a w)
    (hend : ∀ listed a w, J listed a w → Region.ready md ops listed = [] → Q .normal a w) :
    ∀ (fuel : Nat) (listed : Array Bool) (a : Act) (w : World), leftN ops listed ≤ fuel → J listed a w → wpAny P md ops Q fuel listed a w := by
  intro fuel
  induction fuel with
  | zero =>
    intro listed a w hf hJ
    have hr : Region.ready md ops listed = [] := by
      cases hr : Region.ready md ops listed with
      | nil => rfl
      | cons x xs =>
        have hx : x ∈ Region.ready md ops listed := by rw [hr]; simp
        rw [mem_ready] at hx
        obtain ⟨h1, o, ho, h2⟩ := hx
        have := leftN_set (ops := ops) (Array.getElem?_eq_some_iff.1 ho).1 h1
        omega
    exact ⟨hr, hend listed a w hJ hr⟩
  | succ fuel ih =>
    intro listed a w hf hJ
    refine ⟨fun hr => hend listed a w hJ hr, fun i hi => ?_⟩
    have hi' := hi
    rw [mem_ready] at hi'
    obtain ⟨h1, o, ho, h2⟩ := hi'
    have hl := leftN_set (ops := ops) (Array.getElem?_eq_some_iff.1 ho).1 h1
    exact wpOp_mono (fun a' w' hJ' => ih _ a' w' (by omega) hJ') (hstep listed a w hJ i hi)
end
/-- One value put in. -/
def upV (val : Nat → Value) (i : Nat) (v : Value) : Nat → Value := fun j => if j = i then v else val j
theorem upV_self (val : Nat → Value) (i : Nat) (v : Value) : upV val i v i = v := by simp [upV]
theorem upV_ne (val : Nat → Value) (i j : Nat) (v : Value) (h : j ≠ i) : upV val i v j = val j := by simp [upV, h]
/-- What each operation waits for stands ahead of it. -/
def aheadB (ops : Array Oper) : Bool := (List.range ops.size).all fun i => match ops[i]? with
  | none => true
  | some o => o.after.all fun e => !Region.binds .any e || decide (e.on < i)
theorem ahead_of {ops : Array Oper} (h : aheadB ops = true) {i : Nat} {o : Oper} (ho : ops[i]? = some o) (e : Edge) (he : e ∈ o.after) (hb : Region.binds .any e = true) : e.on < i := by
  unfold aheadB at h
  rw [List.all_eq_true] at h
  have h1 := h i (List.mem_range.2 (Array.getElem?_eq_some_iff.1 ho).1)
  rw [ho] at h1
  simp only [Array.all_eq_true_iff_forall_mem, Bool.or_eq_true, Bool.not_eq_true', decide_eq_true_eq] at h1
  rcases h1 e he with c | c
  · rw [hb] at c; cases c
  · exact c
theorem all_listed {ops : Array Oper} (h : aheadB ops = true) {listed : Array Bool} (hs : listed.size = ops.size) (hr : Region.ready .any ops listed = []) : ∀ i, i < ops.size → listed.getD i false = true := by
  intro i
  induction i using Nat.strongRecOn with
  | ind i ih =>
    intro hi
    cases hg : listed.getD i false with
    | true => rfl
    | false =>
      exfalso
      have ho : ops[i]? = some ops[i] := Array.getElem?_eq_getElem hi
      have hm : i ∈ Region.ready .any ops listed := by
        rw [mem_ready]
        refine ⟨?_, _, ho, fun e he hb => ?_⟩
        · have hl : i < listed.size := by omega
          rw [Array.getD_eq_getD_getElem?, Array.getElem?_eq_getElem hl] at hg ⊢
          exact hg
        · have hlt := ahead_of h ho e he hb
          exact ih e.on hlt (by omega)
      rw [hr] at hm
      cases hm
/-- A region that draws its order: R i v w: v is what operation i has yielded, seen from the world w; nothing that lay there turns. -/
theorem wp_region_inv {P : Program} {ops : Array Oper} {Q : Exit → Act → World → Prop} {id : Nat} {a0 : Act} {w0 : World} (hm : P.follows .mixedOrders = true) (hah : aheadB ops = true)
    (frame : (Nat → Value) → Act) (R : Nat → Value → World → Prop) (val0 : Nat → Value) (h0 : a0 = frame val0)
    (hstab : ∀ i v w w', R i v w → Below w.heap.size w w' → R i v w')
    (hop : ∀ i o, ops[i]? = some o → ∀ val w, Below w0.heap.size w0 w → (∀ e ∈ o.after, Region.binds .any e = true → R e.on (val e.on) w) →
      if Region.wanted o (yielded ops (frame val).tmps) then o.wp P (frame val) w (fun a' w' => ∃ v, a' = frame (upV val i v) ∧ R i v w' ∧ Below w.heap.size w w') Q
      else (frame val).put o.dst undef = frame (upV val i undef) ∧ R i undef w)
    (hend : ∀ val w, Below w0.heap.size w0 w → (∀ i, i < ops.size → R i (val i) w) → Q .normal (frame val) w) : (Code.region id ops true).wp P Q a0 w0 := by
  refine wp_region_any hm ?_
  refine wpAny_inv (fun listed a w => listed.size = ops.size ∧ ∃ val, a = frame val ∧ Below w0.heap.size w0 w ∧ ∀ i, i < ops.size → listed.getD i false = true → R i (val i) w) ?_ ?_ _ _ _ _ ?_ ?_
  · rintro listed a w ⟨hs, val, rfl, hb, hR⟩ i hi
    rw [mem_ready] at hi
    obtain ⟨h1, o, ho, h2⟩ := hi
    have hio : i < ops.size := (Array.getElem?_eq_some_iff.1 ho).1
    have key : ∀ v w', R i v w' → Below w.heap.size w w' → ((listed.setIfInBounds i true).size = ops.size ∧ ∃ val', frame (upV val i v) = frame val' ∧ Below w0.heap.size w0 w' ∧ ∀ j, j < ops.size → (listed.setIfInBounds i true).getD j false = true → R j (val' j) w') := fun v w' hv hw => by
      refine ⟨by simpa using hs, upV val i v, rfl, hb.trans (hw.mono hb.size), fun j hj hl => ?_⟩
      by_cases e : j = i
      · subst e
        rw [upV_self]
        exact hv
      · rw [upV_ne _ _ _ _ e]
        rw [getD_set_ne false (fun c => e c.symm)] at hl
        exact hstab _ _ _ _ (hR j hj hl) hw
    have hk := hop i o ho val w hb (fun e he hbd => hR e.on (by have := ahead_of hah ho e he hbd; omega) (h2 e he hbd))
    unfold wpOp
    rw [ho]
    simp only
    by_cases hw : Region.wanted o (yielded ops (frame val).tmps) = true
    · rw [if_pos hw] at hk ⊢
      exact .inl (Oper.wp_mono (fun a' w' ⟨v, e, hv, hbv⟩ => by rw [e]; exact key v w' hv hbv) hk)
    · rw [if_neg hw] at hk ⊢
      rw [hk.1]
      exact key undef w hk.2 (Below.refl _ _)
  · rintro listed a w ⟨hs, val, rfl, hb, hR⟩ hr
    exact hend val w hb (fun i hi => hR i hi (all_listed hah hs hr i hi))
  · unfold leftN
    exact Nat.le_trans (List.length_filter_le _ _) (by simp)
  · refine ⟨by simp, val0, h0, ⟨rfl, rfl, rfl, Nat.le_refl _, fun _ _ => rfl⟩, fun i hi hl => ?_⟩
    simp [Array.getD_eq_getD_getElem?, hi] at hl
/-- Each operation of a list, with its number. -/
def allOps (F : Nat → Oper → Prop) : Nat → List Oper → Prop
  | _, [] => True
  | k, o :: l => F k o ∧ allOps F (k + 1) l
theorem allOps_at {F : Nat → Oper → Prop} : ∀ (l : List Oper) (k j : Nat) (o : Oper), allOps F k l → l[j]? = some o → F (k + j) o
  | [], _, _, _, _, h => by simp at h
  | a :: l, k, 0, o, h, he => by simp at he; subst he; exact h.1
  | a :: l, k, j + 1, o, h, he => by
    have := allOps_at l (k + 1) j o h.2 (by simpa using he)
    have e : k + 1 + j = k + (j + 1) := by omega
    rwa [e] at this
/-- What is known of those that an operation waits for. -/
def depsAll (R : Nat → Value → World → Prop) (val : Nat → Value) (w : World) : List Edge → Prop
  | [] => True
  | e :: l => (Region.binds .any e = true → R e.on (val e.on) w) ∧ depsAll R val w l
theorem depsAll_of {R : Nat → Value → World → Prop} {val : Nat → Value} {w : World} : ∀ (l : List Edge), (∀ e ∈ l, Region.binds .any e = true → R e.on (val e.on) w) → depsAll R val w l
  | [], _ => trivial
  | e :: l, h => ⟨h e (by simp), depsAll_of l (fun x hx => h x (by simp [hx]))⟩
theorem depsAll_get {R : Nat → Value → World → Prop} {val : Nat → Value} {w : World} : ∀ {l : List Edge}, depsAll R val w l → ∀ j, (l.any fun e => Region.binds .any e && e.on == j) = true → R j (val j) w
  | [], _, j, h => by cases h
  | e :: l, hd, j, h => by
    simp only [List.any_cons, Bool.or_eq_true, Bool.and_eq_true, beq_iff_eq] at h
    rcases h with ⟨hb, rfl⟩ | h
    · exact hd.1 hb
    · exact depsAll_get hd.2 j (by simpa using h)
/-- What is asked of one operation. -/
def OpAsk (P : Program) (ops : Array Oper) (Q : Exit → Act → World → Prop) (w0 : World) (frame : (Nat → Value) → Act) (R : Nat → Value → World → Prop) (i : Nat) (o : Oper) : Prop :=
  ∀ val w, Below w0.heap.size w0 w → depsAll R val w o.after.toList →
      if Region.wanted o (yielded ops (frame val).tmps) then o.wp P (frame val) w (fun a' w' => ∃ v, a' = frame (upV val i v) ∧ R i v w' ∧ Below w.heap.size w w') Q
      else (frame val).put o.dst undef = frame (upV val i undef) ∧ R i undef w
/-- A region that draws its order, operation by operation. -/
theorem wp_region_ask {P : Program} {ops : Array Oper} {Q : Exit → Act → World → Prop} {id : Nat} {a0 : Act} {w0 : World} (hm : P.follows .mixedOrders = true) (hah : aheadB ops = true)
    (frame : (Nat → Value) → Act) (R : Nat → Value → World → Prop) (val0 : Nat → Value) (h0 : a0 = frame val0)
    (hstab : ∀ i v w w', R i v w → Below w.heap.size w w' → R i v w')
    (l : List Oper) (hl : ops.toList = l) (hop : allOps (OpAsk P ops Q w0 frame R) 0 l)
    (hend : ∀ val w, Below w0.heap.size w0 w → (∀ i, i < ops.size → R i (val i) w) → Q .normal (frame val) w) : (Code.region id ops true).wp P Q a0 w0 := by
  refine wp_region_inv hm hah frame R val0 h0 hstab (fun i o ho val w hb hd => ?_) hend
  have h1 := allOps_at l 0 i o hop (by rw [← hl]; simpa using ho)
  rw [Nat.zero_add] at h1
  exact h1 val w hb (depsAll_of _ (fun e he => hd e (by simpa using he)))
section
variable {P : Program} {ops : Array Oper} {Q : Exit → Act → World → Prop} {w0 : World} {frame : (Nat → Value) → Act} {R : Nat → Value → World → Prop} {i : Nat} {o : Oper}
/-- What an operation must come to. -/
def OpDoes (P : Program) (Q : Exit → Act → World → Prop) (R : Nat → Value → World → Prop) (i : Nat) (o : Oper) (A : Act) (w : World) : Prop :=
  ∀ K : Act → World → Prop, (∀ v w', R i v w' → Below w.heap.size w w' → K (A.put o.dst v) w') → o.wp P A w K Q
theorem ask_plain (hg : o.guard = none) (hput : ∀ val v, (frame val).put o.dst v = frame (upV val i v)) (h : ∀ val w, Below w0.heap.size w0 w → depsAll R val w o.after.toList → OpDoes P Q R i o (frame val) w) : OpAsk P ops Q w0 frame R i o := by
  intro val w hb hd
  rw [if_pos (by simp [Region.wanted, hg])]
  exact h val w hb hd _ (fun v w' hv hw => ⟨v, hput val v, hv, hw⟩)
theorem ask_yes (j : Nat) (b : Bool) (hg : o.guard = some (j, b)) (hput : ∀ val v, (frame val).put o.dst v = frame (upV val i v)) (hy : ∀ val w, depsAll R val w o.after.toList → yielded ops (frame val).tmps j = some b) (h : ∀ val w, Below w0.heap.size w0 w → depsAll R val w o.after.toList → OpDoes P Q R i o (frame val) w) : OpAsk P ops Q w0 frame R i o := by
  intro val w hb hd
  rw [if_pos (by simp [Region.wanted, hg, hy val w hd])]
  exact h val w hb hd _ (fun v w' hv hw => ⟨v, hput val v, hv, hw⟩)
theorem ask_no (j : Nat) (b c : Bool) (hg : o.guard = some (j, b)) (hbc : b ≠ c) (hput : ∀ val v, (frame val).put o.dst v = frame (upV val i v)) (hy : ∀ val w, depsAll R val w o.after.toList → yielded ops (frame val).tmps j = some c) (h : ∀ w, R i undef w) : OpAsk P ops Q w0 frame R i o := by
  intro val w hb hd
  rw [if_neg (by simp [Region.wanted, hg, hy val w hd]; exact fun e => hbc e.symm)]
  exact ⟨hput val undef, h w⟩
/-- One that yields a value and leaves the world. -/
theorem does_value {A : Act} {w : World} {v : Value} (h : (execOp A.eval o).run P w = .ok (.value v) w) (hR : R i v w) : OpDoes P Q R i o A w := by
  intro K hK
  unfold Oper.wp
  rw [h]
  exact hK v w hR (Below.refl _ _)
/-- One that yields a value in a world that has grown. -/
theorem does_grown {A : Act} {w w' : World} {v : Value} (h : (execOp A.eval o).run P w = .ok (.value v) w') (hR : R i v w') (hb : Below w.heap.size w w') : OpDoes P Q R i o A w := by
  intro K hK
  unfold Oper.wp
  rw [h]
  exact hK v w' hR hb
/-- A call. -/
theorem does_call {A : Act} {w : World} {f : FuncId} {args : Array Value} {C : Ending → World → Prop} (h : (execOp A.eval o).run P w = .ok (.enter f args) w) (hc : Calls P f args w C) (hR : ∀ e w', C e w' → ∃ v, e = .returned v ∧ R i v w' ∧ Below w.heap.size w w') : OpDoes P Q R i o A w := by
  intro K hK
  unfold Oper.wp
  rw [h]
  refine Calls.mono hc (fun e w' he => ?_)
  obtain ⟨v, rfl, hv, hb⟩ := hR e w' he
  exact hK v w' hv hb
end
end Go.Proofs.Ytnfbcmnlloipiaa
namespace Go.Proofs.Ytnfbcmnlloipiaa
set_option linter.unusedVariables false
set_option linter.unusedSimpArgs false
open Go.RowKit

/-- The last operation's place is taken by one that leaves its slot as it is. -/
def tailMove (d : Nat) : List Oper → List Oper
  | [] => []
  | [o] => [{ o with op := .move (.tmp d) }]
  | o :: o' :: r => o :: tailMove d (o' :: r)
theorem tail_len (d : Nat) : ∀ l : List Oper, (tailMove d l).length = l.length
  | [] => rfl
  | [o] => rfl
  | o :: o' :: r => by
    show (tailMove d (o' :: r)).length + 1 = _
    rw [tail_len d (o' :: r)]
    rfl
theorem tail_at (d : Nat) : ∀ (l : List Oper) (j : Nat), j + 1 < l.length → (tailMove d l)[j]? = l[j]?
  | [], j, h => by simp at h
  | [o], j, h => by simp at h
  | o :: o' :: r, 0, _ => rfl
  | o :: o' :: r, j + 1, h => by
    show (tailMove d (o' :: r))[j]? = (o' :: r)[j]?
    exact tail_at d (o' :: r) j (by simp at h ⊢; omega)
theorem tail_last (d : Nat) : ∀ (l : List Oper) (n : Nat) (o : Oper), n + 1 = l.length → l[n]? = some o → (tailMove d l)[n]? = some { o with op := .move (.tmp d) }
  | [], n, o, h, _ => by simp at h
  | [o'], n, o, h, ho => by
    have hn : n = 0 := by simpa using h
    subst hn
    have : o' = o := by simpa using ho
    subst this
    rfl
  | o1 :: o' :: r, 0, o, h, _ => by simp at h
  | o1 :: o' :: r, n + 1, o, h, ho => by
    show (tailMove d (o' :: r))[n]? = _
    exact tail_last d (o' :: r) n o (by simp at h ⊢; omega) (by simpa using ho)
theorem tail_shape (d : Nat) (l : List Oper) (j : Nat) (o2 : Oper) (h : (tailMove d l).toArray[j]? = some o2) : ∃ o, l.toArray[j]? = some o ∧ o2.after = o.after ∧ o2.dst = o.dst ∧ o2.guard = o.guard := by
  have hj : j < l.length := by
    rw [← tail_len d l]
    simpa using (Array.getElem?_eq_some_iff.1 h).1
  have h' : (tailMove d l)[j]? = some o2 := by rw [List.getElem?_toArray] at h; exact h
  by_cases hl : j + 1 < l.length
  · rw [tail_at d l j hl] at h'
    exact ⟨o2, by rw [List.getElem?_toArray]; exact h', rfl, rfl, rfl⟩
  · have e : l[j]? = some l[j] := List.getElem?_eq_getElem hj
    have := tail_last d l j l[j] (by omega) e
    rw [this] at h'
    injection h' with h'
    subst h'
    exact ⟨l[j], by rw [List.getElem?_toArray]; exact e, rfl, rfl, rfl⟩
theorem tail_ready (d : Nat) (l : List Oper) (listed : Array Bool) (i : Nat) : i ∈ Region.ready .any (tailMove d l).toArray listed ↔ i ∈ Region.ready .any l.toArray listed := by
  rw [mem_ready, mem_ready]
  refine and_congr_right fun _ => ⟨fun ⟨o2, h1, h2⟩ => ?_, fun ⟨o, h1, h2⟩ => ?_⟩
  · obtain ⟨o, q1, q2, _⟩ := tail_shape d l i o2 h1
    exact ⟨o, q1, by rw [← q2]; exact h2⟩
  · have hi : i < (tailMove d l).length := by rw [tail_len]; simpa using (Array.getElem?_eq_some_iff.1 h1).1
    have e : (tailMove d l).toArray[i]? = some (tailMove d l)[i] := by simp [hi]
    obtain ⟨o', q1, q2, _⟩ := tail_shape d l i _ e
    rw [h1] at q1
    injection q1 with q1
    subst q1
    exact ⟨_, e, by rw [q2]; exact h2⟩
theorem tail_yielded (d : Nat) (l : List Oper) (tmps : Array Value) : yielded (tailMove d l).toArray tmps = yielded l.toArray tmps := by
  funext j
  unfold yielded
  cases h : (tailMove d l).toArray[j]? with
  | none =>
    have : l.toArray[j]? = none := by
      rw [Array.getElem?_eq_none_iff] at h ⊢
      simpa [tail_len] using h
    rw [this]
  | some o2 =>
    obtain ⟨o, q1, _, q3, _⟩ := tail_shape d l j o2 h
    rw [q1]
    simp only [Option.bind_some, q3]
/-- Each operation but the last is asked for by a later one. -/
def askedB (ops : Array Oper) : Bool := (List.range (ops.size - 1)).all fun i => (List.range ops.size).any fun j => decide (i < j) && (match ops[j]? with
  | none => false
  | some o => o.after.any fun e => Region.binds .any e && decide (e.on = i))
theorem asked_of {ops : Array Oper} (h : askedB ops = true) {i : Nat} (hi : i + 1 < ops.size) : ∃ j o e, i < j ∧ ops[j]? = some o ∧ e ∈ o.after ∧ Region.binds .any e = true ∧ e.on = i := by
  unfold askedB at h
  rw [List.all_eq_true] at h
  have h1 := h i (List.mem_range.2 (by omega))
  rw [List.any_eq_true] at h1
  obtain ⟨j, _, h2⟩ := h1
  rw [Bool.and_eq_true, decide_eq_true_eq] at h2
  cases ho : ops[j]? with
  | none => rw [ho] at h2; exact absurd h2.2 (by simp)
  | some o =>
    rw [ho] at h2
    simp only at h2
    have h3 := h2.2
    rw [← Array.any_toList, List.any_eq_true] at h3
    obtain ⟨e, he, h4⟩ := h3
    replace he : e ∈ o.after := by simpa using he
    rw [Bool.and_eq_true, decide_eq_true_eq] at h4
    exact ⟨j, o, e, h2.1, ho, he, h4.1, h4.2⟩
/-- While one is left, one is ready. -/
theorem ready_some {ops : Array Oper} (hah : aheadB ops = true) {listed : Array Bool} (hs : listed.size = ops.size) {n : Nat} (hn : n < ops.size) (hf : listed.getD n false = false) : Region.ready .any ops listed ≠ [] := by
  have key : ∀ m, m < ops.size → listed.getD m false = false → ∃ i, i ∈ Region.ready .any ops listed := by
    intro m
    induction m using Nat.strongRecOn with
    | ind m ih =>
      intro hm hfm
      by_cases h : ∃ j, j < m ∧ listed.getD j false = false
      · obtain ⟨j, h1, h2⟩ := h
        exact ih j h1 (by omega) h2
      · refine ⟨m, ?_⟩
        rw [mem_ready]
        have ho : ops[m]? = some ops[m] := Array.getElem?_eq_getElem hm
        refine ⟨?_, ops[m], ho, fun e he hb => ?_⟩
        · have hl : m < listed.size := by omega
          rw [Array.getD_eq_getD_getElem?, Array.getElem?_eq_getElem hl] at hfm ⊢
          exact hfm
        · have hlt := ahead_of hah ho e he hb
          cases hc : listed.getD e.on false with
          | true => rfl
          | false => exact absurd ⟨e.on, hlt, hc⟩ h
  obtain ⟨i, hi⟩ := key n hn hf
  intro c
  rw [c] at hi
  cases hi
/-- What is listed, its sources are. -/
def Closed (ops : Array Oper) (listed : Array Bool) : Prop := ∀ j o, ops[j]? = some o → listed.getD j false = true → ∀ e ∈ o.after, Region.binds .any e = true → listed.getD e.on false = true
theorem set_get (listed : Array Bool) (i j : Nat) : (listed.setIfInBounds i true).getD j false = (listed.getD j false || (decide (i = j) && decide (i < listed.size))) := by
  rw [Array.getD_eq_getD_getElem?, Array.getD_eq_getD_getElem?, Array.getElem?_setIfInBounds]
  by_cases h : i = j
  · subst h
    by_cases hl : i < listed.size
    · simp [hl]
    · simp [hl]
  · simp [h]
theorem Closed.next {ops : Array Oper} {listed : Array Bool} (h : Closed ops listed) {i : Nat} (hi : i ∈ Region.ready .any ops listed) : Closed ops (listed.setIfInBounds i true) := by
  intro j o ho hl e he hb
  rw [set_get] at hl ⊢
  rw [Bool.or_eq_true] at hl ⊢
  rcases hl with hl | hl
  · exact .inl (h j o ho hl e he hb)
  · rw [Bool.and_eq_true, decide_eq_true_eq] at hl
    obtain ⟨_, o', ho', h2⟩ := mem_ready.1 hi
    rw [hl.1, ho] at ho'
    injection ho' with ho'
    subst ho'
    exact .inl (h2 e he hb)
/-- When the last one is ready, all others are listed. -/
theorem last_listed {ops : Array Oper} (has : askedB ops = true) {n : Nat} (hn : n + 1 = ops.size) {listed : Array Bool} (hc : Closed ops listed) (hr : n ∈ Region.ready .any ops listed) : ∀ i, i < n → listed.getD i false = true := by
  have key : ∀ m i, i < n → n - i ≤ m → listed.getD i false = true := by
    intro m
    induction m with
    | zero => intro i h1 h2; omega
    | succ m ih =>
      intro i h1 h2
      obtain ⟨j, o, e, q1, q2, q3, q4, q5⟩ := asked_of has (i := i) (by omega)
      have hj : j < ops.size := (Array.getElem?_eq_some_iff.1 q2).1
      by_cases hjn : j = n
      · obtain ⟨_, o', ho', h3⟩ := mem_ready.1 hr
        rw [← hjn, q2] at ho'
        injection ho' with ho'
        subst ho'
        rw [← q5]
        exact h3 e q3 q4
      · rw [← q5]
        exact hc j o q2 (ih j (by omega) (by omega)) e q3 q4
  exact fun i hi => key n i hi (by omega)
theorem Try.mixedOrders : Try.prog.follows .mixedOrders = true := by kernel_rfl
section
variable {P : Program} {C : World → Prop}
theorem put_self (a : Act) (d : Nat) : a.put (some d) (a.eval (.tmp d)) = a := by
  unfold Act.put Act.eval
  by_cases h : d < a.tmps.size
  · have e : a.tmps.setIfInBounds d a.tmps[d] = a.tmps := by
      apply Array.ext
      · simp
      · intro i h1 h2
        rw [Array.getElem_setIfInBounds]
        split
        · rename_i c
          subst c
          rfl
        · rfl
    simp [h, Array.getD_eq_getD_getElem?, e]
  · simp [h, Array.setIfInBounds]
theorem last_aux (l : List Oper) (d n : Nat) (o : Oper) (hn : n + 1 = l.length) (ho : l[n]? = some o) (hd : o.dst = some d) (hg : o.guard = none) (hah : aheadB l.toArray = true) (has : askedB l.toArray = true) {Q : Exit → Act → World → Prop} :
    ∀ (fuel : Nat) (listed : Array Bool) (a : Act) (w : World), C w → listed.size = l.length → Closed l.toArray listed → listed.getD n false = false →
      wpAnyQ P .any (tailMove d l).toArray C (fun a' => ∀ w', C w' → o.wp P a' w' (fun a'' w'' => Q .normal a'' w'') Q) fuel listed a → wpAny P .any l.toArray Q fuel listed a w := by
  have ho' : l.toArray[n]? = some o := by simpa using ho
  have ne : ∀ listed : Array Bool, listed.size = l.length → listed.getD n false = false → Region.ready .any l.toArray listed ≠ [] := fun listed h1 h2 => ready_some hah (by simpa using h1) (by simp; omega) h2
  intro fuel
  induction fuel with
  | zero =>
    intro listed a w hw hs hc hf h
    refine absurd ?_ (ne listed hs hf)
    have h1 := h.1
    cases hr : Region.ready .any l.toArray listed with
    | nil => rfl
    | cons i r =>
      have : i ∈ Region.ready .any (tailMove d l).toArray listed := (tail_ready d l listed i).2 (by rw [hr]; simp)
      rw [h1] at this
      cases this
  | succ fuel ih =>
    intro listed a w hw hs hc hf h
    refine ⟨fun c => absurd c (ne listed hs hf), fun i hi => ?_⟩
    have hq := h.2 i ((tail_ready d l listed i).2 hi)
    obtain ⟨hil, oi, hoi, _⟩ := mem_ready.1 hi
    have hisz : i < l.length := by simpa using (Array.getElem?_eq_some_iff.1 hoi).1
    by_cases hin : i = n
    · subst hin
      rw [ho'] at hoi
      injection hoi with hoi
      subst hoi
      have hall := last_listed has (by simpa using hn) hc hi
      have hnone : ∀ (L2 : List Oper), L2.length = l.length → Region.ready .any L2.toArray (listed.setIfInBounds i true) = [] := fun L2 hL2 => by
        cases hr : Region.ready .any L2.toArray (listed.setIfInBounds i true) with
        | nil => rfl
        | cons j r =>
          have hj : j ∈ Region.ready .any L2.toArray (listed.setIfInBounds i true) := by rw [hr]; simp
          obtain ⟨h1, oj, h2, _⟩ := mem_ready.1 hj
          have hjl : j < l.length := by rw [← hL2]; simpa using (Array.getElem?_eq_some_iff.1 h2).1
          have hls : j < (listed.setIfInBounds i true).size := by simp; omega
          have e1 : (listed.setIfInBounds i true).getD j true = (listed.setIfInBounds i true).getD j false := by
            rw [Array.getD_eq_getD_getElem?, Array.getD_eq_getD_getElem?, Array.getElem?_eq_getElem hls]
            rfl
          rw [e1, set_get] at h1
          by_cases hji : j = i
          · subst hji
            rw [hs] at h1
            simp [hjl] at h1
          · rw [hall j (by omega)] at h1
            simp at h1
      have hqn : (tailMove d l).toArray[i]? = some { o with op := .move (.tmp d) } := by simpa using tail_last d l i o hn ho
      unfold qOp at hq
      rw [hqn] at hq
      have hwant : ∀ y, Region.wanted o y = true := fun y => by simp [Region.wanted, hg]
      have hwant2 : ∀ y, Region.wanted { o with op := .move (.tmp d) } y = true := fun y => by simp [Region.wanted, hg]
      simp only [hwant2, if_true] at hq
      obtain ⟨v, hv, hk⟩ := hq
      have hv1 := hv w hw
      have ev : v = a.eval (.tmp d) := by
        simp [Oper.quietAt, execOp, Oper.quietUpon] at hv1
        exact hv1.symm
      rw [ev] at hk
      simp only [hd] at hk
      rw [put_self] at hk
      have hQ : ∀ w', C w' → o.wp P a w' (fun a'' w'' => Q .normal a'' w'') Q := by
        cases fuel with
        | zero => exact hk.2
        | succ f => exact hk.1 (hnone _ (tail_len d l))
      unfold wpOp
      rw [ho']
      simp only [hwant, if_true]
      refine .inl (Oper.wp_mono (fun a'' w'' hh => ?_) (hQ w hw))
      cases fuel with
      | zero => exact ⟨hnone l rfl, hh⟩
      | succ f => exact ⟨fun _ => hh, fun j hj => by rw [hnone l rfl] at hj; cases hj⟩
    · have hqi : (tailMove d l).toArray[i]? = l.toArray[i]? := by simpa using tail_at d l i (by omega)
      have hq' : qOp P l.toArray C i (wpAnyQ P .any (tailMove d l).toArray C (fun a' => ∀ w', C w' → o.wp P a' w' (fun a'' w'' => Q .normal a'' w'') Q) fuel (listed.setIfInBounds i true)) a := by
        unfold qOp at hq ⊢
        rw [hqi] at hq
        rw [tail_yielded] at hq
        exact hq
      refine wpOp_of_qOp hw (fun a' w' hw' hh => ih _ a' w' hw' (by simpa using hs) (hc.next hi) ?_ hh) hq'
      rw [set_get, hf]
      simp [hin]
/-- A REGION THAT DRAWS ITS ORDER, reads, and ends with one operation that all others go ahead of: one walk. -/
theorem wp_region_last {id : Nat} {Q : Exit → Act → World → Prop} {a : Act} {w : World} {l : List Oper} (d n : Nat) (o : Oper) (hm : P.follows .mixedOrders = true) (hn : n + 1 = l.length) (ho : l[n]? = some o) (hd : o.dst = some d) (hg : o.guard = none) (hah : aheadB l.toArray = true) (has : askedB l.toArray = true) (hB : Region.lexB .any (tailMove d l).toArray = true)
    (h : wpQuiet P (tailMove d l).toArray (fun w' => ∃ n, w' = w.drewN n) (fun a' => ∀ w', (∃ n, w' = w.drewN n) → o.wp P a' w' (fun a'' w'' => Q .normal a'' w'') Q) (tailMove d l) a) : (Code.region id l.toArray true).wp P Q a w := by
  simp only [Region.lexB, Bool.and_eq_true] at hB
  refine wp_region_any hm ?_
  have hx := wpAnyQ_lex (P := P) (C := fun w' => ∃ n, w' = w.drewN n) (md := .any) hB.1 (tailMove d l) 0 (Array.replicate (tailMove d l).toArray.size false) a (by simp) (by simpa using hB.2) h
  have hsz : (tailMove d l).toArray.size = l.toArray.size := by simp [tail_len]
  rw [hsz] at hx
  have hrep : ∀ j, (Array.replicate l.toArray.size false).getD j false = false := fun j => by
    rw [Array.getD_eq_getD_getElem?, Array.getElem?_replicate]
    split <;> rfl
  have hx2 : wpAnyQ P .any (tailMove d l).toArray (fun w' => ∃ n, w' = w.drewN n) (fun a' => ∀ w', (∃ n, w' = w.drewN n) → o.wp P a' w' (fun a'' w'' => Q .normal a'' w'') Q) l.toArray.size (Array.replicate l.toArray.size false) a := by
    have e : (tailMove d l).length = l.toArray.size := by rw [tail_len]; rfl
    rw [← e]
    rw [← e] at hx
    exact hx
  refine last_aux (C := fun w' => ∃ n, w' = w.drewN n) l d n o hn ho hd hg hah has l.toArray.size _ a _ ⟨1, rfl⟩ (by simp) (fun j oj _ hl => ?_) (hrep n) hx2
  rw [hrep j] at hl
  cases hl
end
end Go.Proofs.Ytnfbcmnlloipiaa
