/-
  ReportSame.
-/
import Derived.Test.YtampofijmepjjaaRs7
import Derived.Lib.Builder
namespace Go.Proofs.Ytampofijmepjjaa
set_option linter.unusedVariables false
set_option linter.unusedSimpArgs false
open Go.RowKit Go.Lib
open Tx (RowsIn.cells RowCells info_parts flatten_len flatten_get cloneInts_any)

theorem alloc_at (w : World) (o : Obj) (b : Nat) : (w.alloc o).heap[b]? = if b = w.heap.size then some o else w.heap[b]? := by
  show (w.heap.push o)[b]? = _
  rw [Array.getElem?_push]
theorem alloc_size (w : World) (o : Obj) : (w.alloc o).heap.size = w.heap.size + 1 := by
  show (w.heap.push o).size = _
  rw [Array.size_push]
theorem alloc_old (w : World) (o : Obj) (b : Nat) (h : b < w.heap.size) : (w.alloc o).heap[b]? = w.heap[b]? := by rw [alloc_at, if_neg (by omega)]
theorem set_ne {w : World} {p : Addr} {v : Value} {g : Nat} (h : g ≠ p.block) : (w.setCell p v).heap[g]? = w.heap[g]? := by
  unfold World.setCell
  simp [Array.getElem?_modify]
  intro c
  exact absurd c.symm h
theorem own_same {B : Nat} {w w' : World} {e : TypeId} {z n : Nat} {v : Value} {xs : List Value} (h : w.ownsRow B e z v n xs) (hs : ∀ g, v.ownBlock = some g → w'.heap[g]? = w.heap[g]?) : w'.ownsRow B e z v n xs := by
  refine ⟨h.1, ?_⟩
  rcases h.2 with h1 | ⟨g, cap, cur, hv, hg, hh, hr⟩
  · exact .inl h1
  · exact .inr ⟨g, cap, cur, hv, hg, (hs g (by rw [hv]; rfl)).trans hh, hr⟩
theorem own_slice {B : Nat} {w : World} {e : TypeId} {z n : Nat} {v : Value} {xs : List Value} (h : w.ownsRow B e z v n xs) : ∃ a c, v = .slice a n c := by
  rcases h.2 with ⟨hv, hn⟩ | ⟨g, cap, cur, hv, _⟩
  · exact ⟨none, 0, by rw [hv, hn]⟩
  · exact ⟨_, cap, hv⟩
theorem own_block {B : Nat} {w : World} {e : TypeId} {z n g : Nat} {v : Value} {xs : List Value} (h : w.ownsRow B e z v n xs) (hg : v.ownBlock = some g) : B ≤ g ∧ g < w.heap.size := by
  rcases h.2 with ⟨hv, hn⟩ | ⟨g', cap, cur, hv, hB, hh, hr⟩
  · rw [hv] at hg
    cases hg
  · rw [hv] at hg
    have : g' = g := by simpa [Value.ownBlock] using hg
    subst this
    exact ⟨hB, blt hh⟩
/-- A report in a block. -/
def RB (w : World) (b : Nat) (r : MR) (av ov : Value) : Prop := w.heap[b]? = some (.cells (encR r av ov) 25)
theorem RB.c {w : World} {b : Nat} {r : MR} {av ov : Value} (h : RB w b r av ov) (i : Nat) : w.cell? ⟨b, i, none⟩ = (encR r av ov)[i]? := Lib.cell_of_heap h i
theorem RB.f {w : World} {b : Nat} {r : MR} {av ov : Value} (h : RB w b r av ov) (i : Nat) : w.frozen? ⟨b, i, none⟩ = false := Lib.frozen_of_heap h i
/-- Dependencies in a block of their own type. -/
def WT (w : World) (b : Nat) : Prop := ∃ cs0, w.heap[b]? = some (.cells cs0 32 (0, 0))
def WhysT (w : World) (v : Value) (l : List MW) : Prop := RowsIn 8 64 (fun cs x => cs = encW x) (WT w) w v l
theorem WhysT.keep {w w' : World} {v : Value} {l : List MW} (h : WhysT w v l) (hs : ∀ b, WT w b → w'.heap[b]? = w.heap[b]?) : WhysT w' v l := by
  obtain ⟨ao, c, hv, hl, hc⟩ := h
  refine ⟨ao, c, hv, hl, fun h0 => ?_⟩
  obtain ⟨b, off, e1, ⟨cs0, e2⟩, hj⟩ := hc h0
  have e3 : w'.heap[b]? = some (.cells cs0 32 (0, 0)) := (hs b ⟨cs0, e2⟩).trans e2
  refine ⟨b, off, e1, ⟨cs0, e3⟩, fun j hlt => ?_⟩
  obtain ⟨cs, q1, q2, q3⟩ := hj j hlt
  exact ⟨cs, q1, q2, fun i u hu => by rw [Lib.cell_of_heap e3, ← Lib.cell_of_heap e2]; exact q3 i u hu⟩
theorem WhysT.out {w : World} {v : Value} {l : List MW} (h : WhysT w v l) : WhysIn w v l := by
  obtain ⟨ao, c, hv, hl, hc⟩ := h
  refine ⟨ao, c, hv, hl, fun h0 => ?_⟩
  obtain ⟨b, off, e1, e2, hj⟩ := hc h0
  exact ⟨b, off, e1, trivial, hj⟩
/-- slices.Clone of dependencies, with their block's type. -/
theorem cloneWhy_T (v : Value) (l : List MW) (w : World) (h : WhysIn w v l) :
    Calls Try.prog 5 #[v] w fun e w' => ∃ v', e = .returned v' ∧ WhysT w' v' l ∧ Below w.heap.size w w' := by
  have hl : l.length * 64 ≤ 140737488355328 := by obtain ⟨_, _, _, h, _⟩ := h; exact h.1
  refine (cloneW_any v l w h (fun cs x e => by rw [e]; exact encW_one x)).mono fun e w' ⟨v', he, hr, hb⟩ => ⟨v', he, ?_, hb⟩
  by_cases h0 : 0 < l.length
  · obtain ⟨g, c, hv, hc, _, _, ht, hj⟩ := hr.cell h0
    exact ⟨_, c, hv, ⟨hl, hc⟩, fun _ => ⟨g, 0, rfl, ht, fun j hlt => by
      obtain ⟨cs, q1, q2, q3⟩ := hj j hlt
      exact ⟨cs, q1, q2, fun i u hi => by rw [Nat.zero_add]; exact q3 i u hi⟩⟩⟩
  · obtain ⟨rows, r1, r2, r3, r4⟩ := hr
    have e0 : l.length = 0 := by omega
    rcases r4.2 with ⟨hv, hn⟩ | ⟨g, cap, cur, hv, hB, hh, hc, _⟩
    · exact ⟨none, 0, by rw [hv, e0], ⟨hl, by omega⟩, fun h => absurd h h0⟩
    · exact ⟨_, cap, hv, ⟨hl, hc⟩, fun h => absurd h h0⟩
def AnT (w : World) (cs : List Value) (a : MA) : Prop := ∃ cv, cs = encA a cv ∧ WhysT w cv a.cyc
theorem AnT.keep {w w' : World} {cs : List Value} {a : MA} (h : AnT w cs a) (hs : ∀ b, WT w b → w'.heap[b]? = w.heap[b]?) : AnT w' cs a := by
  obtain ⟨cv, h1, h2⟩ := h
  exact ⟨cv, h1, h2.keep hs⟩
theorem own_type {B : Nat} {w : World} {e : TypeId} {z n g : Nat} {v : Value} {xs : List Value} (h : w.ownsRow B e z v n xs) (hg : v.ownBlock = some g) : ∃ cs, w.heap[g]? = some (.cells cs e (0, 0)) := by
  rcases h.2 with ⟨hv, hn⟩ | ⟨g', cap, cur, hv, hB, hh, hr⟩
  · rw [hv] at hg
    cases hg
  · rw [hv] at hg
    have : g' = g := by simpa [Value.ownBlock] using hg
    subst this
    exact ⟨_, hh⟩
theorem push_b {B t : Nat} {W w1 w8 : World} {o : Obj} {v : Value} {z n : Nat} {xs : List Value} (hBW : B ≤ W.heap.size) (hB : Below B W w1) (hr : w1.ownsRow B t z v n xs) (hg : (w1.alloc o).grownBy w8 v.ownBlock) : Below B W w8 := by
  have h1 : w1.heap.size + 1 ≤ w8.heap.size := by have := hg.size; rw [alloc_size] at this; exact this
  have h0 := hB.size
  refine ⟨hg.os.trans hB.os, hg.tape.trans hB.tape, hg.output.trans hB.output, by omega, fun b hb => ?_⟩
  have hb1 : b < w1.heap.size := by omega
  refine (hg.block b (by rw [alloc_size]; omega) (fun e => ?_)).trans ((by rw [alloc_at, if_neg (by omega)] : (w1.alloc o).heap[b]? = w1.heap[b]?).trans (hB.block b hb))
  have := (own_block hr e.symm).1
  omega
theorem set_size (w : World) (p : Addr) (v : Value) : (w.setCell p v).heap.size = w.heap.size := by unfold World.setCell; simp
theorem types {w : World} {b g : Nat} {cs ds : Array Value} {t s : TypeId} {f h : Nat × Nat} (h1 : w.heap[b]? = some (.cells cs t f)) (h2 : w.heap[g]? = some (.cells ds s h)) (hne : t ≠ s) : b ≠ g := by
  rintro rfl
  rw [h1] at h2
  injection h2 with h2
  injection h2 with _ h2 _
  exact hne h2
/-- Rows of anomalies that were put in. -/
def Grow (B : Nat) (w : World) (cv : Value) (l : List MA) (k : Nat) : Prop :=
  ∃ rows : List (List Value), rows.length = k ∧ (∀ r ∈ rows, r.length = 9) ∧ (∀ j, j < k → AnT w (rows.getD j []) (l.getD j default)) ∧ w.ownsRow B 29 9 cv k rows.flatten
theorem AnRow.later {w w' : World} {cs : List Value} {a : MA} (h : AnRow w cs a) (hb : Below w.heap.size w w') : AnRow w' cs a := by
  obtain ⟨cv, h1, h2⟩ := h
  exact ⟨cv, h1, h2.later hb⟩
theorem Try.infoAn : (Try.prog.info? 29).map (fun i => (i.zero, i.size, i.bytes)) = some (some (.agg #[.int .i64 0, .int .i64 0, .int .i64 0, .int .i64 0, .string ByteArray.empty, .int .i64 0, .slice none 0 0, .bool false, .int .i64 0]), 9, 96) := by kernel_rfl
theorem ints_keep {S : Nat → Prop} {w w' : World} {v : Value} {l : List Int} (h : IntsIn S w v l) (hs : ∀ b, S b → w'.heap[b]? = w.heap[b]?) : IntsIn S w' v l := by
  obtain ⟨ao, c, hv, hl, hc⟩ := h
  refine ⟨ao, c, hv, hl, fun h0 => ?_⟩
  obtain ⟨b, off, e1, e2, hj⟩ := hc h0
  refine ⟨b, off, e1, e2, fun j hlt => ?_⟩
  have h1 := hj j hlt
  have e : w'.cell? ⟨b, off + j, none⟩ = w.cell? ⟨b, off + j, none⟩ := by
    have := hs b e2
    unfold World.cell?
    simp only [this]
  rw [e]
  exact h1
theorem ints_all {S : Nat → Prop} {w : World} {v : Value} {l : List Int} (h : IntsIn S w v l) : IntsIn All w v l := by
  obtain ⟨ao, c, hv, hl, hc⟩ := h
  exact ⟨ao, c, hv, hl, fun h => by obtain ⟨b, o, e1, e2, e3⟩ := hc h; exact ⟨b, o, e1, trivial, e3⟩⟩
theorem Grow.out {B : Nat} {w : World} {cv : Value} {l : List MA} (h : Grow B w cv l l.length) (hl : l.length * 96 ≤ 140737488355328) : AnsIn w cv l := by
  obtain ⟨rows, r1, r2, r3, r4⟩ := h
  have hr : Rows1 9 29 (AnRow w) B w cv l := ⟨rows, r1, r2, fun j hj => by obtain ⟨c, e, k⟩ := r3 j hj; exact ⟨c, e, k.out⟩, r4⟩
  by_cases h0 : 0 < l.length
  · obtain ⟨g, c, hv, hc, _, _, ht, hj⟩ := hr.cell h0
    exact ⟨_, c, hv, ⟨hl, hc⟩, fun _ => ⟨g, 0, rfl, trivial, fun j hlt => by
      obtain ⟨cs, q1, q2, q3⟩ := hj j hlt
      exact ⟨cs, q1, q2, fun i u hi => by rw [Nat.zero_add]; exact q3 i u hi⟩⟩⟩
  · have e0 : l.length = 0 := by omega
    rcases r4.2 with ⟨hv, hn⟩ | ⟨g, cap, cur, hv, hB, hh, hc, _⟩
    · exact ⟨none, 0, by rw [hv, e0], ⟨hl, by omega⟩, fun h => absurd h h0⟩
    · exact ⟨_, cap, hv, ⟨hl, hc⟩, fun h => absurd h h0⟩
set_option maxHeartbeats 8000000 in
set_option maxRecDepth 100000 in
theorem same_walk (v u : Value) (a b : MR) (w : World) (ha : RepIn w v a) (hb : RepIn w u b) :
    Calls Try.prog 3 #[v, u] w fun e w' => e = .returned (.bool true) ∧ Below w.heap.size w w' := by
  obtain ⟨i0, hi0, hz0, hz1, hz2⟩ := info_parts Try.infoAn
  have HI0 := hid hi0
  have HZ0 := hid hz0
  have HZ1 := hid hz1
  have HZ2 := hid hz2
  clear hi0 hz0 hz1 hz2
  have HA := hid ha
  have HB := hid hb
  obtain ⟨av, ov, rfl, hav, hov⟩ := ha
  obtain ⟨bv, pv, rfl, hbv, hpv⟩ := hb
  obtain ⟨x1, x2, x3, x4, x5, x6⟩ := a
  obtain ⟨y1, y2, y3, y4, y5, y6⟩ := b
  simp only at hav hov hbv hpv
  have HAV := hid hav
  have HOV := hid hov
  obtain ⟨aa, ac, rfl, hla, -⟩ := id hav
  obtain ⟨oa, oc, rfl, -⟩ := id hov
  obtain ⟨ba, bc, rfl, -⟩ := hbv
  obtain ⟨pa, pc, rfl, -⟩ := hpv
  obtain ⟨_, _, he, _, hrow⟩ := RowsIn.cells hav (by omega)
  obtain ⟨e1, _, e2⟩ := Value.slice.inj he
  subst e1 e2
  have HC := hid hrow
  have hlb : x3.length * 96 ≤ 140737488355328 := hla.1
  clear hav hov he hla hrow
  simp only [encR] at *
  go_enter Try.func3, Try.ntmps3
  go_wp2_with fail
  obtain ⟨W0, hW0⟩ : ∃ W0, (((w.alloc (.cells #[.int .i64 x1, .bool x2, .slice aa x3.length ac, .int .i64 x4, .int .i64 x5, .slice oa x6.length oc] 25)).alloc (.cells #[.int .i64 y1, .bool y2, .slice ba y3.length bc, .int .i64 y4, .int .i64 y5, .slice pa y6.length pc] 25)).alloc (.cells #[.int .i64 x1, .bool x2, .slice aa x3.length ac, .int .i64 x4, .int .i64 x5, .slice oa x6.length oc] 25)) = W0 := ⟨_, rfl⟩
  have RA : RB W0 w.heap.size (x1, x2, x3, x4, x5, x6) (.slice aa x3.length ac) (.slice oa x6.length oc) := by
    show _ = _
    rw [← hW0, alloc_at, if_neg (by simp only [alloc_size]; omega), alloc_at, if_neg (by simp only [alloc_size]; omega), alloc_at, if_pos rfl]; rfl
  have RBb : RB W0 (w.heap.size + 1) (y1, y2, y3, y4, y5, y6) (.slice ba y3.length bc) (.slice pa y6.length pc) := by
    show _ = _
    rw [← hW0, alloc_at, if_neg (by simp only [alloc_size]; omega), alloc_at, if_pos (by simp only [alloc_size])]; rfl
  have RC : RB W0 (w.heap.size + 1 + 1) (x1, x2, x3, x4, x5, x6) (.slice aa x3.length ac) (.slice oa x6.length oc) := by
    show _ = _
    rw [← hW0, alloc_at, if_pos (by simp only [alloc_size])]; rfl
  have B0 : Below w.heap.size w W0 := by
    rw [← hW0]
    exact (((Below.refl _ _).alloc (Nat.le_refl _) _).alloc (by simp only [alloc_size]; omega) _).alloc (by simp only [alloc_size]; omega) _
  have Z0 : W0.heap.size = w.heap.size + 1 + 1 + 1 := by rw [← hW0, alloc_size, alloc_size, alloc_size]
  have H0 : Hid (RB W0 w.heap.size (x1, x2, x3, x4, x5, x6) (.slice aa x3.length ac) (.slice oa x6.length oc) ∧ RB W0 (w.heap.size + 1) (y1, y2, y3, y4, y5, y6) (.slice ba y3.length bc) (.slice pa y6.length pc) ∧ RB W0 (w.heap.size + 1 + 1) (x1, x2, x3, x4, x5, x6) (.slice aa x3.length ac) (.slice oa x6.length oc) ∧ Below w.heap.size w W0 ∧ W0.heap.size = w.heap.size + 1 + 1 + 1) := ⟨RA, RBb, RC, B0, Z0⟩
  rw [hW0]
  clear hW0 RA RBb RC B0 Z0
  refine (cloneInts_any (S := All) _ x6 _ (HOV.out.laterB H0.out.2.2.2.1)).mono ?_
  rintro e W1 ⟨ov', rfl, hov', hb1⟩
  obtain ⟨ca, cc, rfl, -⟩ := id hov'
  have HO1 : Hid (IntsIn (fun b => W0.heap.size ≤ b ∧ b < W1.heap.size) W1 (.slice ca x6.length cc) x6) := by
    obtain ⟨ao, c, hv, hl, hc⟩ := hov'
    exact ⟨ao, c, hv, hl, fun h => by obtain ⟨b, o, e1, e2, e3⟩ := hc h; exact ⟨b, o, e1, ⟨e2, World.block_lt_of_cell? _ _ (e3 0 h)⟩, e3⟩⟩
  have S1 : Hid (W0.heap.size ≤ W1.heap.size ∧ Below w.heap.size w W1) := ⟨hb1.size, H0.out.2.2.2.1.trans (hb1.mono H0.out.2.2.2.1.size)⟩
  have K0 : Hid (RB W1 w.heap.size (x1, x2, x3, x4, x5, x6) (.slice aa x3.length ac) (.slice oa x6.length oc)) := (hb1.block _ (by have := H0.out.2.2.2.2; omega)).trans H0.out.1
  have K1 : Hid (RB W1 (w.heap.size + 1) (y1, y2, y3, y4, y5, y6) (.slice ba y3.length bc) (.slice pa y6.length pc)) := (hb1.block _ (by have := H0.out.2.2.2.2; omega)).trans H0.out.2.1
  have K2 : Hid (RB W1 (w.heap.size + 1 + 1) (x1, x2, x3, x4, x5, x6) (.slice aa x3.length ac) (.slice oa x6.length oc)) := (hb1.block _ (by have := H0.out.2.2.2.2; omega)).trans H0.out.2.2.1
  clear hb1 hov'
  have f5 := K2.out.f 5
  have f2 : (W1.setCell ⟨w.heap.size + 1 + 1, 5, none⟩ (.slice ca x6.length cc)).frozen? ⟨w.heap.size + 1 + 1, 2, none⟩ = false := by rw [World.frozen?_setCell]; exact K2.out.f 2
  have k5 : W1.cell? ⟨w.heap.size + 1 + 1, 5, none⟩ = some (.slice oa x6.length oc) := K2.out.c 5
  have k2 : W1.cell? ⟨w.heap.size + 1 + 1, 2, none⟩ = some (.slice aa x3.length ac) := K2.out.c 2
  have j2 : W1.cell? ⟨w.heap.size, 2, none⟩ = some (.slice aa x3.length ac) := K0.out.c 2
  go_wp2_with fail
  obtain ⟨WS, hWS⟩ : ∃ WS, ((W1.setCell ⟨w.heap.size + 1 + 1, 5, none⟩ (.slice ca x6.length cc)).setCell ⟨w.heap.size + 1 + 1, 2, none⟩ (.slice none 0 0)) = WS := ⟨_, rfl⟩
  have Q0 : Hid (RB WS w.heap.size (x1, x2, x3, x4, x5, x6) (.slice aa x3.length ac) (.slice oa x6.length oc) ∧ RB WS (w.heap.size + 1) (y1, y2, y3, y4, y5, y6) (.slice ba y3.length bc) (.slice pa y6.length pc) ∧ RB WS (w.heap.size + 1 + 1) (x1, x2, x3, x4, x5, x6) (.slice none 0 0) (.slice ca x6.length cc) ∧ True ∧ WS.heap.size = W1.heap.size ∧ Below w.heap.size w WS) := by
    have e0 := H0.out.2.2.2.2
    refine ⟨?_, ?_, ?_, ?_, ?_, ?_⟩
    · rw [← hWS]; exact ((set_ne (by show _ ≠ w.heap.size + 1 + 1; omega)).trans (set_ne (by show _ ≠ w.heap.size + 1 + 1; omega))).trans K0.out
    · rw [← hWS]; exact ((set_ne (by show _ ≠ w.heap.size + 1 + 1; omega)).trans (set_ne (by show _ ≠ w.heap.size + 1 + 1; omega))).trans K1.out
    · rw [← hWS]; show _ = _; rw [Go.Joins.block_setCell (Go.Joins.block_setCell K2.out _) _]; rfl
    · trivial
    · rw [← hWS]; unfold World.setCell; simp
    · rw [← hWS]; exact (S1.out.2.setCell (by show _ ≤ w.heap.size + 1 + 1; omega) _).setCell (by show _ ≤ w.heap.size + 1 + 1; omega) _
  have QI : Hid (IntsIn (fun b => W0.heap.size ≤ b ∧ b < W1.heap.size) WS (.slice ca x6.length cc) x6) := by
    refine ints_keep HO1.out (fun b hb => ?_)
    have e0 := H0.out.2.2.2.2
    rw [← hWS]
    exact (set_ne (by show _ ≠ w.heap.size + 1 + 1; omega)).trans (set_ne (by show _ ≠ w.heap.size + 1 + 1; omega))
  rw [hWS]
  clear hWS f5 f2 k5 k2 j2
  go_loopg [7, 17] x3.length (fun g _ i wr => ∃ k : Nat, k ≤ x3.length ∧ x3.length - k ≤ g ∧ i = .int .i64 k ∧ Aside (RB wr w.heap.size (x1, x2, x3, x4, x5, x6) (.slice aa x3.length ac) (.slice oa x6.length oc)) ∧ Aside (RB wr (w.heap.size + 1) (y1, y2, y3, y4, y5, y6) (.slice ba y3.length bc) (.slice pa y6.length pc)) ∧ Aside (∃ cv, RB wr (w.heap.size + 1 + 1) (x1, x2, x3, x4, x5, x6) cv (.slice ca x6.length cc) ∧ Grow W1.heap.size wr cv x3 k) ∧ Aside (IntsIn (fun b => W0.heap.size ≤ b ∧ b < W1.heap.size) wr (.slice ca x6.length cc) x6) ∧ Aside (Below w.heap.size w wr ∧ W1.heap.size ≤ wr.heap.size))
  case atStart => exact ⟨0, Nat.zero_le _, by omega, rfl, Q0.out.1, Q0.out.2.1, ⟨_, Q0.out.2.2.1, [], rfl, (fun r h => by simp at h), (fun j h => by omega), World.ownsRow_nil _ _ _ _⟩, QI.out, (⟨Q0.out.2.2.2.2.2, Nat.le_of_eq Q0.out.2.2.2.2.1.symm⟩ : _ ∧ _)⟩
  case round =>
    obtain ⟨k, hk, hg, rfl, R0, R1, ⟨cv, R2, rows, rl, r9, ran, rown⟩, RI, BK⟩ := hrel
    have sz0 := hid H0.out.2.2.2.2
    have sz1 := hid S1.out.1
    by_cases hlt : k < x3.length
    · have hlti : (k : Int) < (x3.length : Int) := by omega
      obtain ⟨g1, o1, cs1, haa, -, -, ⟨cy, e1, hw1⟩, hca⟩ := HC.out k hlt
      subst haa
      generalize hX : x3.getD k default = X at *
      have HX' := hid hX
      clear hX
      have WX := hid hw1
      clear hw1
      obtain ⟨X1, X2, X3, X4, X5, X6, XC, X8, X9⟩ := X
      obtain ⟨qa, qc, hcy, -⟩ := id WX.out
      subst hcy
      simp only [encA, MA.cyc] at e1 WX
      subst e1
      have u0 := below_cell BK.out.1 (hca 0 _ rfl)
      have u1 := below_cell BK.out.1 (hca 1 _ rfl)
      have u2 := below_cell BK.out.1 (hca 2 _ rfl)
      have u3 := below_cell BK.out.1 (hca 3 _ rfl)
      have u4 := below_cell BK.out.1 (hca 4 _ rfl)
      have u5 := below_cell BK.out.1 (hca 5 _ rfl)
      have u6 := below_cell BK.out.1 (hca 6 _ rfl)
      have u7 := below_cell BK.out.1 (hca 7 _ rfl)
      have u8 := below_cell BK.out.1 (hca 8 _ rfl)
      rw [Nat.add_zero] at u0
      clear hca
      have hgl1 : g1 < wr.heap.size := World.block_lt_of_cell? _ _ u0
      have RW := hid rown
      have RAN := hid ran
      have RR2 := hid R2
      obtain ⟨va, vc, hcv⟩ := own_slice rown
      subst hcv
      clear rown ran R2
      have hsz : w.heap.size + 1 + 1 < wr.heap.size := by have := sz0.out; have := sz1.out; have := BK.out.2; omega
      go_wp2_with first
        | (go_at_call 5; refine (cloneWhy_T (.slice qa XC.length qc) XC _ (WX.out.later (BK.out.1.trans (((Below.refl wr.heap.size wr).alloc (Nat.le_refl _) _).mono BK.out.1.size)))).mono ?_; rintro e w2 ⟨v2, rfl, hv2, hb2⟩; obtain ⟨na, nc, hvn, -⟩ := id hv2; subst hvn; have V2 := hid hv2; have B2 : Hid (Below wr.heap.size wr w2) := ((Below.refl wr.heap.size wr).alloc (Nat.le_refl _) _).trans (hb2.mono (by rw [alloc_size]; omega)); have s2 : wr.heap.size + 1 ≤ w2.heap.size := (by have := hb2.size; rw [alloc_size] at this; exact this); have BX : Hid (w2.heap[wr.heap.size]? = some (.cells #[.int .i64 X1, .int .i64 X2, .int .i64 X3, .int .i64 X4, .string X5, .int .i64 X6, .slice qa XC.length qc, .bool X8, .int .i64 X9] 29)) := (hb2.block _ (by rw [alloc_size]; omega)).trans (by rw [alloc_at, if_pos rfl]); have c6 : w2.cell? ⟨wr.heap.size, 6, none⟩ = some (.slice qa XC.length qc) := Lib.cell_of_heap BX.out 6; have f6 : w2.frozen? ⟨wr.heap.size, 6, none⟩ = false := Lib.frozen_of_heap BX.out 6; have B3 : Hid ((w2.setCell ⟨wr.heap.size, 6, none⟩ (.slice na XC.length nc)).heap[wr.heap.size]? = some (.cells #[.int .i64 X1, .int .i64 X2, .int .i64 X3, .int .i64 X4, .string X5, .int .i64 X6, .slice na XC.length nc, .bool X8, .int .i64 X9] 29)) := (by show _ = _; rw [Go.Joins.block_setCell BX.out _]; rfl); have q0 : (w2.setCell ⟨wr.heap.size, 6, none⟩ (.slice na XC.length nc)).cell? ⟨wr.heap.size, 0, none⟩ = some (.int .i64 X1) := Lib.cell_of_heap B3.out 0; have q1 : (w2.setCell ⟨wr.heap.size, 6, none⟩ (.slice na XC.length nc)).cell? ⟨wr.heap.size, 1, none⟩ = some (.int .i64 X2) := Lib.cell_of_heap B3.out 1; have q2 : (w2.setCell ⟨wr.heap.size, 6, none⟩ (.slice na XC.length nc)).cell? ⟨wr.heap.size, 2, none⟩ = some (.int .i64 X3) := Lib.cell_of_heap B3.out 2; have q3 : (w2.setCell ⟨wr.heap.size, 6, none⟩ (.slice na XC.length nc)).cell? ⟨wr.heap.size, 3, none⟩ = some (.int .i64 X4) := Lib.cell_of_heap B3.out 3; have q4 : (w2.setCell ⟨wr.heap.size, 6, none⟩ (.slice na XC.length nc)).cell? ⟨wr.heap.size, 4, none⟩ = some (.string X5) := Lib.cell_of_heap B3.out 4; have q5 : (w2.setCell ⟨wr.heap.size, 6, none⟩ (.slice na XC.length nc)).cell? ⟨wr.heap.size, 5, none⟩ = some (.int .i64 X6) := Lib.cell_of_heap B3.out 5; have q6 : (w2.setCell ⟨wr.heap.size, 6, none⟩ (.slice na XC.length nc)).cell? ⟨wr.heap.size, 6, none⟩ = some (.slice na XC.length nc) := Lib.cell_of_heap B3.out 6; have q7 : (w2.setCell ⟨wr.heap.size, 6, none⟩ (.slice na XC.length nc)).cell? ⟨wr.heap.size, 7, none⟩ = some (.bool X8) := Lib.cell_of_heap B3.out 7; have q8 : (w2.setCell ⟨wr.heap.size, 6, none⟩ (.slice na XC.length nc)).cell? ⟨wr.heap.size, 8, none⟩ = some (.int .i64 X9) := Lib.cell_of_heap B3.out 8; have R3 : Hid (RB (w2.setCell ⟨wr.heap.size, 6, none⟩ (.slice na XC.length nc)) (w.heap.size + 1 + 1) (x1, x2, x3, x4, x5, x6) (.slice va k vc) (.slice ca x6.length cc)) := (set_ne (by show _ ≠ wr.heap.size; omega)).trans ((B2.out.block _ (by omega)).trans RR2.out); have k2 : (w2.setCell ⟨wr.heap.size, 6, none⟩ (.slice na XC.length nc)).cell? ⟨w.heap.size + 1 + 1, 2, none⟩ = some (.slice va k vc) := R3.out.c 2; have OW : Hid ((w2.setCell ⟨wr.heap.size, 6, none⟩ (.slice na XC.length nc)).ownsRow W1.heap.size 29 9 (.slice va k vc) k rows.flatten) := own_same RW.out (fun g hg => (set_ne (by show _ ≠ wr.heap.size; have := (own_block RW.out hg).2; omega)).trans (B2.out.block g (own_block RW.out hg).2)); clear hv2 hb2)
        | (at_builtin; refine wpList_append_lies _ rfl _ _ 22 rfl W1.heap.size 29 i0 _ 9 96 Try.underlying22 HI0.out HZ0.out HZ1.out HZ2.out rfl (by decide) (.slice va k vc) k rows.flatten rfl (OW.out.alloc _) ⟨w2.heap.size, 0, none⟩ 1 1 [.int .i64 X1, .int .i64 X2, .int .i64 X3, .int .i64 X4, .string X5, .int .i64 X6, .slice na XC.length nc, .bool X8, .int .i64 X9] rfl rfl (World.news_of_block (cs := #[.int .i64 X1, .int .i64 X2, .int .i64 X3, .int .i64 X4, .string X5, .int .i64 X6, .slice na XC.length nc, .bool X8, .int .i64 X9]) (t := 29) (fr := (0, 0)) (by rw [alloc_at, if_pos (by unfold World.setCell; simp)])) (by intro u hu; simp only [List.mem_cons, List.not_mem_nil, or_false] at hu; rcases hu with rfl | rfl | rfl | rfl | rfl | rfl | rfl | rfl | rfl <;> rfl) (by decide) (by unfold maxLen; omega) (by omega) (by have := BK.out.2; simp; omega) (w2.heap.size + 1) (by simp) ?_; intro g8 cap8 w8 hown hgrow hat hglt; have O8 := hid hown; have G8 := hid hgrow; have R8 : Hid (RB w8 (w.heap.size + 1 + 1) (x1, x2, x3, x4, x5, x6) (.slice va k vc) (.slice ca x6.length cc)) := (G8.out.block _ (by simp; omega) (fun e => by have := (own_block OW.out e.symm).1; have := sz0.out; have := sz1.out; omega)).trans ((by rw [alloc_at, if_neg (by have h1 : (w2.setCell ⟨wr.heap.size, 6, none⟩ (.slice na XC.length nc)).heap.size = w2.heap.size := (by unfold World.setCell; simp); omega)] : (World.alloc (w2.setCell ⟨wr.heap.size, 6, none⟩ (.slice na XC.length nc)) _).heap[w.heap.size + 1 + 1]? = _).trans R3.out); have c8 : w8.cell? ⟨w.heap.size + 1 + 1, 2, none⟩ = some (.slice va k vc) := R8.out.c 2; have f8 := R8.out.f 2; clear hown hgrow hat hglt)
      have B3b : Hid (Below W1.heap.size wr (w2.setCell ⟨wr.heap.size, 6, none⟩ ((.slice na XC.length nc)))) := (B2.out.mono BK.out.2).setCell BK.out.2 _
      have B8 := hid (push_b BK.out.2 B3b.out OW.out G8.out)
      have hw1 : w.heap.size + 1 + 1 < W1.heap.size := by have := sz0.out; have := sz1.out; omega
      have KP : Hid (∀ b, WT wr b → (w8.setCell ⟨w.heap.size + 1 + 1, 2, none⟩ (.slice (some ⟨g8, 0, none⟩) (k + 1) cap8)).heap[b]? = wr.heap[b]?) := fun b ⟨cs0, hb⟩ => by
        have hlt1 := blt hb
        have n1 : b ≠ w.heap.size + 1 + 1 := types hb RR2.out (by decide)
        refine (set_ne n1).trans ((G8.out.block b (by rw [alloc_size, set_size]; omega) (fun e => ?_)).trans ((alloc_old _ _ _ (by rw [set_size]; omega)).trans ((set_ne (by show _ ≠ wr.heap.size; omega)).trans (B2.out.block b hlt1))))
        obtain ⟨cs, hcs⟩ := own_type RW.out e.symm
        exact types hb hcs (by decide) rfl
      have KV : Hid (∀ b, WT w2 b → (w8.setCell ⟨w.heap.size + 1 + 1, 2, none⟩ (.slice (some ⟨g8, 0, none⟩) (k + 1) cap8)).heap[b]? = w2.heap[b]?) := fun b ⟨cs0, hb⟩ => by
        have hlt1 := blt hb
        have n1 : b ≠ w.heap.size + 1 + 1 := types hb ((B2.out.block _ (by omega)).trans RR2.out) (by decide)
        have n2 : b ≠ wr.heap.size := types hb BX.out (by decide)
        refine (set_ne n1).trans ((G8.out.block b (by rw [alloc_size, set_size]; omega) (fun e => ?_)).trans ((alloc_old _ _ _ (by rw [set_size]; omega)).trans (set_ne (by show _ ≠ wr.heap.size; exact n2))))
        obtain ⟨cs, hcs⟩ := own_type RW.out e.symm
        exact types hb ((B2.out.block _ (blt hcs)).trans hcs) (by decide) rfl
      go_roundg (x3.length - (k + 1))
      case measure => omega
      case rel =>
        refine ⟨k + 1, by omega, by omega, by go_num, ?_, ?_, ⟨.slice (some ⟨g8, 0, none⟩) (k + 1) cap8, ?_, rows ++ [[.int .i64 X1, .int .i64 X2, .int .i64 X3, .int .i64 X4, .string X5, .int .i64 X6, .slice na XC.length nc, .bool X8, .int .i64 X9]], ?_, ?_, ?_, ?_⟩, ?_, ?_⟩
        · exact (set_ne (by show _ ≠ w.heap.size + 1 + 1; omega)).trans ((B8.out.block _ (by omega)).trans R0.out)
        · exact (set_ne (by show _ ≠ w.heap.size + 1 + 1; omega)).trans ((B8.out.block _ (by omega)).trans R1.out)
        · show _ = _
          rw [Go.Joins.block_setCell R8.out _]
          rfl
        · rw [List.length_append, rl]; rfl
        · intro r hr
          rcases List.mem_append.1 hr with hr | hr
          · exact r9 r hr
          · simp at hr; subst hr; rfl
        · intro j hj
          by_cases e : j = k
          · subst e
            rw [HX'.out]
            have e2 : (rows ++ [([.int .i64 X1, .int .i64 X2, .int .i64 X3, .int .i64 X4, .string X5, .int .i64 X6, .slice na XC.length nc, .bool X8, .int .i64 X9] : List Value)]).getD j [] = ([.int .i64 X1, .int .i64 X2, .int .i64 X3, .int .i64 X4, .string X5, .int .i64 X6, .slice na XC.length nc, .bool X8, .int .i64 X9] : List Value) := by rw [← rl]; simp [List.getD]
            rw [e2]
            exact ⟨(.slice na XC.length nc), rfl, V2.out.keep KV.out⟩
          · have e2 : (rows ++ [([.int .i64 X1, .int .i64 X2, .int .i64 X3, .int .i64 X4, .string X5, .int .i64 X6, .slice na XC.length nc, .bool X8, .int .i64 X9] : List Value)]).getD j [] = rows.getD j [] := by simp only [List.getD]; rw [List.getElem?_append_left (by omega)]
            rw [e2]
            exact (RAN.out j (by omega)).keep KP.out
        · rw [List.flatten_append, List.flatten_cons, List.flatten_nil, List.append_nil]
          exact own_same O8.out (fun g hg => set_ne (by show _ ≠ w.heap.size + 1 + 1; have := (own_block O8.out hg).1; omega))
        · refine ints_keep RI.out (fun b hb => ?_)
          have := sz0.out
          exact (set_ne (by show _ ≠ w.heap.size + 1 + 1; omega)).trans (B8.out.block b hb.2)
        · show _ ∧ _
          exact ⟨(BK.out.1.trans (B8.out.mono (by omega))).setCell (by show _ ≤ w.heap.size + 1 + 1; omega) _, by rw [set_size]; exact Nat.le_trans BK.out.2 B8.out.size⟩
    · have hlti : ¬ (k : Int) < (x3.length : Int) := by omega
      have ek : k = x3.length := by omega
      subst ek
      have GR : Hid (Grow W1.heap.size wr cv x3 x3.length) := ⟨rows, rl, r9, ran, rown⟩
      obtain ⟨va, vc, hcv⟩ := own_slice rown
      subst hcv
      have Z0 := hid R0.out
      have Z1 := hid R1.out
      have Z2 := hid R2
      have PA : Hid (∀ W, Below wr.heap.size wr W → RepIn W (.agg #[.int .i64 x1, .bool x2, .slice aa x3.length ac, .int .i64 x4, .int .i64 x5, .slice oa x6.length oc]) (x1, x2, x3, x4, x5, x6)) := fun W hb => HA.out.later (BK.out.1.trans (hb.mono BK.out.1.size))
      have PB' : Hid (∀ W, Below wr.heap.size wr W → RepIn W (.agg #[.int .i64 y1, .bool y2, .slice ba y3.length bc, .int .i64 y4, .int .i64 y5, .slice pa y6.length pc]) (y1, y2, y3, y4, y5, y6)) := fun W hb => HB.out.later (BK.out.1.trans (hb.mono BK.out.1.size))
      have PC : Hid (∀ W, Below wr.heap.size wr W → RepIn W (.agg #[.int .i64 x1, .bool x2, .slice va x3.length vc, .int .i64 x4, .int .i64 x5, .slice ca x6.length cc]) (x1, x2, x3, x4, x5, x6)) := fun W hb => ⟨_, _, rfl, (GR.out.out hlb).later hb, (ints_all RI.out).laterB hb⟩
      have CAB : Hid (∀ W, Below wr.heap.size wr W → Calls Try.prog 6 #[(.agg #[.int .i64 x1, .bool x2, .slice aa x3.length ac, .int .i64 x4, .int .i64 x5, .slice oa x6.length oc]), (.agg #[.int .i64 y1, .bool y2, .slice ba y3.length bc, .int .i64 y4, .int .i64 y5, .slice pa y6.length pc])] W fun e w' => e = .returned (.bool (rEq (x1, x2, x3, x4, x5, x6) (y1, y2, y3, y4, y5, y6))) ∧ Below W.heap.size W w') := fun W hb => rpSame_is _ _ _ _ W (PA.out W hb) (PB'.out W hb)
      have DAB : Hid (∀ W, Below wr.heap.size wr W → Calls Try.prog 7 #[(.agg #[.int .i64 x1, .bool x2, .slice aa x3.length ac, .int .i64 x4, .int .i64 x5, .slice oa x6.length oc]), (.agg #[.int .i64 y1, .bool y2, .slice ba y3.length bc, .int .i64 y4, .int .i64 y5, .slice pa y6.length pc])] W fun e w' => e = .returned (.bool (rEq (x1, x2, x3, x4, x5, x6) (y1, y2, y3, y4, y5, y6))) ∧ Below W.heap.size W w') := fun W hb => rrSame_is _ _ _ _ W (PA.out W hb) (PB'.out W hb)
      have CBA : Hid (∀ W, Below wr.heap.size wr W → Calls Try.prog 6 #[(.agg #[.int .i64 y1, .bool y2, .slice ba y3.length bc, .int .i64 y4, .int .i64 y5, .slice pa y6.length pc]), (.agg #[.int .i64 x1, .bool x2, .slice aa x3.length ac, .int .i64 x4, .int .i64 x5, .slice oa x6.length oc])] W fun e w' => e = .returned (.bool (rEq (x1, x2, x3, x4, x5, x6) (y1, y2, y3, y4, y5, y6))) ∧ Below W.heap.size W w') := fun W hb => by
        rw [rEq_symm]
        exact rpSame_is _ _ _ _ W (PB'.out W hb) (PA.out W hb)
      have CAC : Hid (∀ W, Below wr.heap.size wr W → Calls Try.prog 6 #[(.agg #[.int .i64 x1, .bool x2, .slice aa x3.length ac, .int .i64 x4, .int .i64 x5, .slice oa x6.length oc]), (.agg #[.int .i64 x1, .bool x2, .slice va x3.length vc, .int .i64 x4, .int .i64 x5, .slice ca x6.length cc])] W fun e w' => e = .returned (.bool true) ∧ Below W.heap.size W w') := fun W hb => by
        have := rpSame_is _ _ _ _ W (PA.out W hb) (PC.out W hb)
        rw [rEq_refl] at this
        exact this
      clear rown ran R2
      go_wp2_with fail
      refine wp_region_ask Try.mixedOrders (by kernel_rfl) (fun val => { tmps := #[_, _, _, _, val 21, _, _, _, _, _, _, _, _, _, _, _, _, _, _, _, _, _, _, _, _, _, _, _, _, _, _, _, val 0, val 1, val 2, val 3, val 4, val 5, val 6, val 7, val 8, val 9, val 10, val 11, val 12, val 13, val 14, val 15, val 16, val 17, val 18, val 19, val 20], defers := [] }) (fun i v _ => match i with | 0 => v = (.agg #[.int .i64 x1, .bool x2, .slice aa x3.length ac, .int .i64 x4, .int .i64 x5, .slice oa x6.length oc]) | 1 => v = (.agg #[.int .i64 y1, .bool y2, .slice ba y3.length bc, .int .i64 y4, .int .i64 y5, .slice pa y6.length pc]) | 2 => v = (.bool (rEq (x1, x2, x3, x4, x5, x6) (y1, y2, y3, y4, y5, y6))) | 3 => v = (.agg #[.int .i64 x1, .bool x2, .slice aa x3.length ac, .int .i64 x4, .int .i64 x5, .slice oa x6.length oc]) | 4 => v = (.agg #[.int .i64 y1, .bool y2, .slice ba y3.length bc, .int .i64 y4, .int .i64 y5, .slice pa y6.length pc]) | 5 => v = (.bool (rEq (x1, x2, x3, x4, x5, x6) (y1, y2, y3, y4, y5, y6))) | 6 => v = (.bool true) | 7 => v = (.bool true) | 8 => v = (.agg #[.int .i64 x1, .bool x2, .slice aa x3.length ac, .int .i64 x4, .int .i64 x5, .slice oa x6.length oc]) | 9 => v = (.agg #[.int .i64 x1, .bool x2, .slice va x3.length vc, .int .i64 x4, .int .i64 x5, .slice ca x6.length cc]) | 10 => v = (.bool true) | 11 => v = (.bool true) | 12 => v = (.bool true) | 13 => v = (.agg #[.int .i64 y1, .bool y2, .slice ba y3.length bc, .int .i64 y4, .int .i64 y5, .slice pa y6.length pc]) | 14 => v = (.agg #[.int .i64 x1, .bool x2, .slice aa x3.length ac, .int .i64 x4, .int .i64 x5, .slice oa x6.length oc]) | 15 => v = (.bool (rEq (x1, x2, x3, x4, x5, x6) (y1, y2, y3, y4, y5, y6))) | 16 => v = (.agg #[.int .i64 x1, .bool x2, .slice aa x3.length ac, .int .i64 x4, .int .i64 x5, .slice oa x6.length oc]) | 17 => v = (.agg #[.int .i64 y1, .bool y2, .slice ba y3.length bc, .int .i64 y4, .int .i64 y5, .slice pa y6.length pc]) | 18 => v = (.bool (rEq (x1, x2, x3, x4, x5, x6) (y1, y2, y3, y4, y5, y6))) | 19 => v = (.bool true) | 20 => v = (.bool true) | 21 => v = (.bool true) | _ => True) (fun i => if i = 21 then _ else undef) rfl (fun i v w w2 hv _ => hv) _ rfl ⟨?_, ?_, ?_, ?_, ?_, ?_, ?_, ?_, ?_, ?_, ?_, ?_, ?_, ?_, ?_, ?_, ?_, ?_, ?_, ?_, ?_, ?_, trivial⟩ ?_
      · refine ask_plain rfl (fun _ _ => rfl) (fun val W hb hd => ?_)
        have d0 := below_cell hb (Z0.out.c 0)
        have d1 := below_cell hb (Z0.out.c 1)
        have d2 := below_cell hb (Z0.out.c 2)
        have d3 := below_cell hb (Z0.out.c 3)
        have d4 := below_cell hb (Z0.out.c 4)
        have d5 := below_cell hb (Z0.out.c 5)
        refine does_value (v := (.agg #[.int .i64 x1, .bool x2, .slice aa x3.length ac, .int .i64 x4, .int .i64 x5, .slice oa x6.length oc])) ?_ rfl
        simp [execOp, Act.eval, go_sem, d0, d1, d2, d3, d4, d5, encR]
      · refine ask_plain rfl (fun _ _ => rfl) (fun val W hb hd => ?_)
        have d0 := below_cell hb (Z1.out.c 0)
        have d1 := below_cell hb (Z1.out.c 1)
        have d2 := below_cell hb (Z1.out.c 2)
        have d3 := below_cell hb (Z1.out.c 3)
        have d4 := below_cell hb (Z1.out.c 4)
        have d5 := below_cell hb (Z1.out.c 5)
        refine does_value (v := (.agg #[.int .i64 y1, .bool y2, .slice ba y3.length bc, .int .i64 y4, .int .i64 y5, .slice pa y6.length pc])) ?_ rfl
        simp [execOp, Act.eval, go_sem, d0, d1, d2, d3, d4, d5, encR]
      · refine ask_plain rfl (fun _ _ => rfl) (fun val W hb hd => ?_)
        have h0 : val 0 = (.agg #[.int .i64 x1, .bool x2, .slice aa x3.length ac, .int .i64 x4, .int .i64 x5, .slice oa x6.length oc]) := depsAll_get hd 0 rfl
        have h1 : val 1 = (.agg #[.int .i64 y1, .bool y2, .slice ba y3.length bc, .int .i64 y4, .int .i64 y5, .slice pa y6.length pc]) := depsAll_get hd 1 rfl
        refine does_call (f := 6) (args := #[(.agg #[.int .i64 x1, .bool x2, .slice aa x3.length ac, .int .i64 x4, .int .i64 x5, .slice oa x6.length oc]), (.agg #[.int .i64 y1, .bool y2, .slice ba y3.length bc, .int .i64 y4, .int .i64 y5, .slice pa y6.length pc])]) ?_ (CAB.out W hb) (fun e w2 h => ⟨_, h.1, rfl, h.2⟩)
        simp [execOp, Act.eval, h0, h1, go_sem]
      · refine ask_plain rfl (fun _ _ => rfl) (fun val W hb hd => ?_)
        have d0 := below_cell hb (Z0.out.c 0)
        have d1 := below_cell hb (Z0.out.c 1)
        have d2 := below_cell hb (Z0.out.c 2)
        have d3 := below_cell hb (Z0.out.c 3)
        have d4 := below_cell hb (Z0.out.c 4)
        have d5 := below_cell hb (Z0.out.c 5)
        refine does_value (v := (.agg #[.int .i64 x1, .bool x2, .slice aa x3.length ac, .int .i64 x4, .int .i64 x5, .slice oa x6.length oc])) ?_ rfl
        simp [execOp, Act.eval, go_sem, d0, d1, d2, d3, d4, d5, encR]
      · refine ask_plain rfl (fun _ _ => rfl) (fun val W hb hd => ?_)
        have d0 := below_cell hb (Z1.out.c 0)
        have d1 := below_cell hb (Z1.out.c 1)
        have d2 := below_cell hb (Z1.out.c 2)
        have d3 := below_cell hb (Z1.out.c 3)
        have d4 := below_cell hb (Z1.out.c 4)
        have d5 := below_cell hb (Z1.out.c 5)
        refine does_value (v := (.agg #[.int .i64 y1, .bool y2, .slice ba y3.length bc, .int .i64 y4, .int .i64 y5, .slice pa y6.length pc])) ?_ rfl
        simp [execOp, Act.eval, go_sem, d0, d1, d2, d3, d4, d5, encR]
      · refine ask_plain rfl (fun _ _ => rfl) (fun val W hb hd => ?_)
        have h0 : val 3 = (.agg #[.int .i64 x1, .bool x2, .slice aa x3.length ac, .int .i64 x4, .int .i64 x5, .slice oa x6.length oc]) := depsAll_get hd 3 rfl
        have h1 : val 4 = (.agg #[.int .i64 y1, .bool y2, .slice ba y3.length bc, .int .i64 y4, .int .i64 y5, .slice pa y6.length pc]) := depsAll_get hd 4 rfl
        refine does_call (f := 7) (args := #[(.agg #[.int .i64 x1, .bool x2, .slice aa x3.length ac, .int .i64 x4, .int .i64 x5, .slice oa x6.length oc]), (.agg #[.int .i64 y1, .bool y2, .slice ba y3.length bc, .int .i64 y4, .int .i64 y5, .slice pa y6.length pc])]) ?_ (DAB.out W hb) (fun e w2 h => ⟨_, h.1, rfl, h.2⟩)
        simp [execOp, Act.eval, h0, h1, go_sem]
      · refine ask_plain rfl (fun _ _ => rfl) (fun val W hb hd => ?_)
        have h0 : val 2 = (.bool (rEq (x1, x2, x3, x4, x5, x6) (y1, y2, y3, y4, y5, y6))) := depsAll_get hd 2 rfl
        have h1 : val 5 = (.bool (rEq (x1, x2, x3, x4, x5, x6) (y1, y2, y3, y4, y5, y6))) := depsAll_get hd 5 rfl
        refine does_value (v := (.bool true)) ?_ rfl
        simp [execOp, Act.eval, h0, h1, go_sem]
      · refine ask_plain rfl (fun _ _ => rfl) (fun val W hb hd => ?_)
        have h0 : val 6 = (.bool true) := depsAll_get hd 6 rfl
        exact does_value rfl h0
      · refine ask_yes 7 true rfl (fun _ _ => rfl) (fun val W hd => by have hj : val 7 = .bool true := depsAll_get hd 7 rfl; simp [yielded, hj]) (fun val W hb hd => ?_)
        have d0 := below_cell hb (Z0.out.c 0)
        have d1 := below_cell hb (Z0.out.c 1)
        have d2 := below_cell hb (Z0.out.c 2)
        have d3 := below_cell hb (Z0.out.c 3)
        have d4 := below_cell hb (Z0.out.c 4)
        have d5 := below_cell hb (Z0.out.c 5)
        refine does_value (v := (.agg #[.int .i64 x1, .bool x2, .slice aa x3.length ac, .int .i64 x4, .int .i64 x5, .slice oa x6.length oc])) ?_ rfl
        simp [execOp, Act.eval, go_sem, d0, d1, d2, d3, d4, d5, encR]
      · refine ask_yes 7 true rfl (fun _ _ => rfl) (fun val W hd => by have hj : val 7 = .bool true := depsAll_get hd 7 rfl; simp [yielded, hj]) (fun val W hb hd => ?_)
        have d0 := below_cell hb (Z2.out.c 0)
        have d1 := below_cell hb (Z2.out.c 1)
        have d2 := below_cell hb (Z2.out.c 2)
        have d3 := below_cell hb (Z2.out.c 3)
        have d4 := below_cell hb (Z2.out.c 4)
        have d5 := below_cell hb (Z2.out.c 5)
        refine does_value (v := (.agg #[.int .i64 x1, .bool x2, .slice va x3.length vc, .int .i64 x4, .int .i64 x5, .slice ca x6.length cc])) ?_ rfl
        simp [execOp, Act.eval, go_sem, d0, d1, d2, d3, d4, d5, encR]
      · refine ask_yes 7 true rfl (fun _ _ => rfl) (fun val W hd => by have hj : val 7 = .bool true := depsAll_get hd 7 rfl; simp [yielded, hj]) (fun val W hb hd => ?_)
        have h0 : val 8 = (.agg #[.int .i64 x1, .bool x2, .slice aa x3.length ac, .int .i64 x4, .int .i64 x5, .slice oa x6.length oc]) := depsAll_get hd 8 rfl
        have h1 : val 9 = (.agg #[.int .i64 x1, .bool x2, .slice va x3.length vc, .int .i64 x4, .int .i64 x5, .slice ca x6.length cc]) := depsAll_get hd 9 rfl
        refine does_call (f := 6) (args := #[(.agg #[.int .i64 x1, .bool x2, .slice aa x3.length ac, .int .i64 x4, .int .i64 x5, .slice oa x6.length oc]), (.agg #[.int .i64 x1, .bool x2, .slice va x3.length vc, .int .i64 x4, .int .i64 x5, .slice ca x6.length cc])]) ?_ (CAC.out W hb) (fun e w2 h => ⟨_, h.1, rfl, h.2⟩)
        simp [execOp, Act.eval, h0, h1, go_sem]
      · refine ask_plain rfl (fun _ _ => rfl) (fun val W hb hd => ?_)
        have h0 : val 7 = (.bool true) := depsAll_get hd 7 rfl
        have h1 : val 10 = (.bool true) := depsAll_get hd 10 rfl
        refine does_value (v := (.bool true)) ?_ rfl
        simp [execOp, Act.eval, h0, h1, go_sem]
      · refine ask_plain rfl (fun _ _ => rfl) (fun val W hb hd => ?_)
        have h0 : val 11 = (.bool true) := depsAll_get hd 11 rfl
        exact does_value rfl h0
      · refine ask_yes 12 true rfl (fun _ _ => rfl) (fun val W hd => by have hj : val 12 = .bool true := depsAll_get hd 12 rfl; simp [yielded, hj]) (fun val W hb hd => ?_)
        have d0 := below_cell hb (Z1.out.c 0)
        have d1 := below_cell hb (Z1.out.c 1)
        have d2 := below_cell hb (Z1.out.c 2)
        have d3 := below_cell hb (Z1.out.c 3)
        have d4 := below_cell hb (Z1.out.c 4)
        have d5 := below_cell hb (Z1.out.c 5)
        refine does_value (v := (.agg #[.int .i64 y1, .bool y2, .slice ba y3.length bc, .int .i64 y4, .int .i64 y5, .slice pa y6.length pc])) ?_ rfl
        simp [execOp, Act.eval, go_sem, d0, d1, d2, d3, d4, d5, encR]
      · refine ask_yes 12 true rfl (fun _ _ => rfl) (fun val W hd => by have hj : val 12 = .bool true := depsAll_get hd 12 rfl; simp [yielded, hj]) (fun val W hb hd => ?_)
        have d0 := below_cell hb (Z0.out.c 0)
        have d1 := below_cell hb (Z0.out.c 1)
        have d2 := below_cell hb (Z0.out.c 2)
        have d3 := below_cell hb (Z0.out.c 3)
        have d4 := below_cell hb (Z0.out.c 4)
        have d5 := below_cell hb (Z0.out.c 5)
        refine does_value (v := (.agg #[.int .i64 x1, .bool x2, .slice aa x3.length ac, .int .i64 x4, .int .i64 x5, .slice oa x6.length oc])) ?_ rfl
        simp [execOp, Act.eval, go_sem, d0, d1, d2, d3, d4, d5, encR]
      · refine ask_yes 12 true rfl (fun _ _ => rfl) (fun val W hd => by have hj : val 12 = .bool true := depsAll_get hd 12 rfl; simp [yielded, hj]) (fun val W hb hd => ?_)
        have h0 : val 13 = (.agg #[.int .i64 y1, .bool y2, .slice ba y3.length bc, .int .i64 y4, .int .i64 y5, .slice pa y6.length pc]) := depsAll_get hd 13 rfl
        have h1 : val 14 = (.agg #[.int .i64 x1, .bool x2, .slice aa x3.length ac, .int .i64 x4, .int .i64 x5, .slice oa x6.length oc]) := depsAll_get hd 14 rfl
        refine does_call (f := 6) (args := #[(.agg #[.int .i64 y1, .bool y2, .slice ba y3.length bc, .int .i64 y4, .int .i64 y5, .slice pa y6.length pc]), (.agg #[.int .i64 x1, .bool x2, .slice aa x3.length ac, .int .i64 x4, .int .i64 x5, .slice oa x6.length oc])]) ?_ (CBA.out W hb) (fun e w2 h => ⟨_, h.1, rfl, h.2⟩)
        simp [execOp, Act.eval, h0, h1, go_sem]
      · refine ask_yes 12 true rfl (fun _ _ => rfl) (fun val W hd => by have hj : val 12 = .bool true := depsAll_get hd 12 rfl; simp [yielded, hj]) (fun val W hb hd => ?_)
        have d0 := below_cell hb (Z0.out.c 0)
        have d1 := below_cell hb (Z0.out.c 1)
        have d2 := below_cell hb (Z0.out.c 2)
        have d3 := below_cell hb (Z0.out.c 3)
        have d4 := below_cell hb (Z0.out.c 4)
        have d5 := below_cell hb (Z0.out.c 5)
        refine does_value (v := (.agg #[.int .i64 x1, .bool x2, .slice aa x3.length ac, .int .i64 x4, .int .i64 x5, .slice oa x6.length oc])) ?_ rfl
        simp [execOp, Act.eval, go_sem, d0, d1, d2, d3, d4, d5, encR]
      · refine ask_yes 12 true rfl (fun _ _ => rfl) (fun val W hd => by have hj : val 12 = .bool true := depsAll_get hd 12 rfl; simp [yielded, hj]) (fun val W hb hd => ?_)
        have d0 := below_cell hb (Z1.out.c 0)
        have d1 := below_cell hb (Z1.out.c 1)
        have d2 := below_cell hb (Z1.out.c 2)
        have d3 := below_cell hb (Z1.out.c 3)
        have d4 := below_cell hb (Z1.out.c 4)
        have d5 := below_cell hb (Z1.out.c 5)
        refine does_value (v := (.agg #[.int .i64 y1, .bool y2, .slice ba y3.length bc, .int .i64 y4, .int .i64 y5, .slice pa y6.length pc])) ?_ rfl
        simp [execOp, Act.eval, go_sem, d0, d1, d2, d3, d4, d5, encR]
      · refine ask_yes 12 true rfl (fun _ _ => rfl) (fun val W hd => by have hj : val 12 = .bool true := depsAll_get hd 12 rfl; simp [yielded, hj]) (fun val W hb hd => ?_)
        have h0 : val 16 = (.agg #[.int .i64 x1, .bool x2, .slice aa x3.length ac, .int .i64 x4, .int .i64 x5, .slice oa x6.length oc]) := depsAll_get hd 16 rfl
        have h1 : val 17 = (.agg #[.int .i64 y1, .bool y2, .slice ba y3.length bc, .int .i64 y4, .int .i64 y5, .slice pa y6.length pc]) := depsAll_get hd 17 rfl
        refine does_call (f := 6) (args := #[(.agg #[.int .i64 x1, .bool x2, .slice aa x3.length ac, .int .i64 x4, .int .i64 x5, .slice oa x6.length oc]), (.agg #[.int .i64 y1, .bool y2, .slice ba y3.length bc, .int .i64 y4, .int .i64 y5, .slice pa y6.length pc])]) ?_ (CAB.out W hb) (fun e w2 h => ⟨_, h.1, rfl, h.2⟩)
        simp [execOp, Act.eval, h0, h1, go_sem]
      · refine ask_yes 12 true rfl (fun _ _ => rfl) (fun val W hd => by have hj : val 12 = .bool true := depsAll_get hd 12 rfl; simp [yielded, hj]) (fun val W hb hd => ?_)
        have h0 : val 15 = (.bool (rEq (x1, x2, x3, x4, x5, x6) (y1, y2, y3, y4, y5, y6))) := depsAll_get hd 15 rfl
        have h1 : val 18 = (.bool (rEq (x1, x2, x3, x4, x5, x6) (y1, y2, y3, y4, y5, y6))) := depsAll_get hd 18 rfl
        refine does_value (v := (.bool true)) ?_ rfl
        simp [execOp, Act.eval, h0, h1, go_sem]
      · refine ask_plain rfl (fun _ _ => rfl) (fun val W hb hd => ?_)
        have h0 : val 12 = (.bool true) := depsAll_get hd 12 rfl
        have h1 : val 19 = (.bool true) := depsAll_get hd 19 rfl
        refine does_value (v := (.bool true)) ?_ rfl
        simp [execOp, Act.eval, h0, h1, go_sem]
      · refine ask_plain rfl (fun _ _ => rfl) (fun val W hb hd => ?_)
        have h0 : val 20 = (.bool true) := depsAll_get hd 20 rfl
        exact does_value rfl h0
      intro val W hbW hR
      have h21 : val 21 = .bool true := hR 21 (by decide)
      go_wp2
      rw [h21]
      go_ret
      exact ⟨rfl, BK.out.1.trans (hbW.mono BK.out.1.size)⟩
end Go.Proofs.Ytampofijmepjjaa
