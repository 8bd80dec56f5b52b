/-
  What assayerplain's Small leaves of transactions, plain, and what its stores do to them in memory.
-/
import Derived.Test.YtnfbcmnlloipiaaT3
namespace Go.Proofs.Ytnfbcmnlloipiaa.Tx
set_option linter.unusedVariables false
set_option linter.unusedSimpArgs false
open Go.RowKit Go.Lib

def cutOp (o : MOp) : MOp := (o.kind, o.key, o.value, o.list.take 40, o.has, o.nl)
def withOps (t : MTxn) (l : List MOp) : MTxn := (t.proc, t.state, t.since, t.till, l)
def cutTxn (t : MTxn) : MTxn := withOps t ((t.ops.take 10).map cutOp)
def smallL (l : List MTxn) : List MTxn := (l.take 40).map cutTxn
/-- The operations of which the first k have been cut. -/
def partL (l : List MOp) (k : Nat) : List MOp := (l.take k).map cutOp ++ l.drop k
theorem partL_zero (l : List MOp) : partL l 0 = l := by simp [partL]
theorem partL_all (l : List MOp) (k : Nat) (h : l.length ≤ k) : partL l k = l.map cutOp := by simp [partL, List.take_of_length_le h, List.drop_of_length_le h]
theorem partL_len (l : List MOp) (k : Nat) : (partL l k).length = l.length := by simp [partL]; omega
theorem partL_at (l : List MOp) (k : Nat) (h : k < l.length) : (partL l k).getD k default = l.getD k default := by
  have e : ((l.take k).map cutOp).length = k := by simp; omega
  simp only [partL, List.getD]
  rw [List.getElem?_append_right (by omega), e]
  simp
theorem partL_succ (l : List MOp) (k : Nat) (h : k < l.length) : partL l (k + 1) = (partL l k).set k (cutOp (l.getD k default)) := by
  have e : ((l.take k).map cutOp).length = k := by simp; omega
  unfold partL
  rw [List.set_append_right _ _ (by omega), e, Nat.sub_self, List.drop_eq_getElem_cons h, List.set_cons_zero, List.take_succ_eq_append_getElem h, List.map_append, List.append_assoc]
  simp [List.getD, h]

/-- The cells of a world hang on its heap alone. -/
theorem cell_of_heap {w w' : World} (h : w'.heap = w.heap) (a : Addr) : w'.cell? a = w.cell? a := World.cell?_of_block (w := w) (by rw [h])
theorem frozen_of_heap {w w' : World} (h : w'.heap = w.heap) (a : Addr) : w'.frozen? a = w.frozen? a := by
  unfold World.frozen?
  simp only [h]
theorem OpsOwn.take {S : Nat → Prop} {w : World} {ao : Option Addr} {c n m : Nat} {l : List MOp} (h : OpsOwn S w (.slice ao n c) l) (hm : m = min n 10) : OpsOwn S w (.slice ao m c) (l.take 10) := by
  obtain ⟨ao', c', hv, hl, hc⟩ := h
  simp only [Value.slice.injEq] at hv
  obtain ⟨rfl, rfl, rfl⟩ := hv
  have el : (l.take 10).length = m := by rw [List.length_take, hm]; omega
  refine ⟨ao, c, by rw [el], ⟨by omega, by omega⟩, fun h0 => ?_⟩
  obtain ⟨b, ha, hS, hf, hj⟩ := hc (by omega)
  refine ⟨b, ha, hS, hf, fun j hjl => ?_⟩
  obtain ⟨cs, h1, h2, h3⟩ := hj j (by omega)
  refine ⟨cs, h1, ?_, h3⟩
  have e : (l.take 10).getD j default = l.getD j default := by
    simp only [List.getD]
    rw [List.getElem?_take_of_lt (by omega)]
  rw [e]
  exact h2

theorem setD {l : List MOp} (k j : Nat) (x : MOp) (hk : k < l.length) : (l.set k x).getD j default = if j = k then x else l.getD j default := by
  simp only [List.getD, List.getElem?_set]
  by_cases h : k = j
  · subst h; simp [hk]
  · rw [if_neg h, if_neg (fun e => h e.symm)]

/-- One list of an operation is cut. -/
theorem OpsOwn.cut {S : Nat → Prop} {w : World} {ov : Value} {l : List MOp} (h : OpsOwn S w ov l) (k : Nat) (hk : k < l.length) :
    ∃ bo c al cl, ov = .slice (some ⟨bo, 0, none⟩) l.length c ∧ S bo ∧ l.length ≤ c ∧ w.cell? ⟨bo, k * 6 + 3, none⟩ = some (.slice al (l.getD k default).list.length cl) ∧ (l.getD k default).list.length ≤ cl ∧ (l.getD k default).list.length * 8 ≤ 140737488355328 ∧ w.frozen? ⟨bo, k * 6 + 3, none⟩ = false ∧
      ∀ w' m, m = min (l.getD k default).list.length 40 → w'.heap = (w.setCell ⟨bo, k * 6 + 3, none⟩ (.slice al m cl)).heap → OpsOwn S w' ov (l.set k (cutOp (l.getD k default))) := by
  obtain ⟨ao, c, hv, hl, hc⟩ := h
  obtain ⟨bo, ha, hS, hf, hj⟩ := hc (by omega)
  subst ha
  obtain ⟨cs, h1, ⟨lv, h2, h4⟩, h3⟩ := hj k hk
  obtain ⟨al, cl, rfl, hll, hlc⟩ := h4
  subst h2
  refine ⟨bo, c, al, cl, hv, hS, hl.2, h3 3 _ rfl, hll.2, hll.1, hf _, fun w' m hm hw => ?_⟩
  have hblk : ∀ x, x ≠ bo → w'.heap[x]? = w.heap[x]? := fun x hx => by rw [hw]; exact Below.heap_setCell _ _ _ _ hx
  have hsz : ∀ x, w'.frozen? ⟨bo, x, none⟩ = false := fun x => by rw [frozen_of_heap hw, World.frozen?_setCell]; exact hf x
  refine ⟨some ⟨bo, 0, none⟩, c, by rw [hv]; simp, by simpa using hl, fun h0 => ⟨bo, rfl, hS, hsz, fun j hjl => ?_⟩⟩
  simp at hjl
  have hother : ∀ i, ¬ (j * 6 + i = k * 6 + 3) → w'.cell? ⟨bo, j * 6 + i, none⟩ = w.cell? ⟨bo, j * 6 + i, none⟩ := fun i hne => by
    exact (cell_of_heap hw _).trans (World.cell?_setCell_other _ _ _ _ (fun e => hne (show k * 6 + 3 = j * 6 + i from congrArg Addr.off e).symm))
  rw [setD k j _ hk]
  by_cases hjk : j = k
  · subst hjk
    rw [if_pos rfl]
    have ec : (cutOp (l.getD j default)).list.length = m := by
      show (List.take 40 (l.getD j default).list).length = m
      rw [List.length_take, hm]
      omega
    refine ⟨[.int .i64 (l.getD j default).kind, .string (l.getD j default).key, .int .i64 (l.getD j default).value, .slice al m cl, .bool (l.getD j default).has, .bool (l.getD j default).nl], rfl, ⟨_, rfl, al, cl, ?_, ⟨?_, ?_⟩, fun h0 => ?_⟩, fun i u hi => ?_⟩
    · rw [ec]
    · rw [ec]; omega
    · rw [ec]; omega
    · rw [ec] at h0
      obtain ⟨b2, off, hb2, hS2, hcc⟩ := hlc (by show 0 < (l.getD j default).list.length; omega)
      refine ⟨b2, off, hb2, ⟨hS2.1, hS2.2.keep (hblk b2 hS2.1.2)⟩, fun q hq => ?_⟩
      rw [ec] at hq
      have e : ((l.getD j default).list.take 40).getD q default = (l.getD j default).list.getD q default := by
        simp only [List.getD]
        rw [List.getElem?_take_of_lt (by omega)]
      show w'.cell? _ = some (.int .i64 (((l.getD j default).list.take 40).getD q default))
      rw [e, World.cell?_of_block (w := w) (hblk b2 hS2.1.2)]
      exact hcc q (by show q < (l.getD j default).list.length; omega)
    · by_cases hi3 : i = 3
      · subst hi3
        simp at hi
        subst hi
        rw [cell_of_heap hw]
        exact World.cell?_setCell_same _ _ _ (h3 3 _ rfl)
      · rw [hother i (by omega)]
        apply h3 i u
        match i, hi3 with
        | 0, _ => exact hi
        | 1, _ => exact hi
        | 2, _ => exact hi
        | 4, _ => exact hi
        | 5, _ => exact hi
        | n + 6, _ => simp at hi
  · rw [if_neg hjk]
    obtain ⟨cs, g1, g2, g3⟩ := hj j hjl
    refine ⟨cs, g1, opSoft_keep _ _ _ _ _ _ g2 (fun x hx _ => hblk x hx.2) (fun _ _ h => h), fun i u hi => ?_⟩
    have hi6 : i < 6 := by rw [← g1]; exact (List.getElem?_eq_some_iff.1 hi).1
    rw [hother i (by omega)]
    exact g3 i u hi

section
variable {B b : Nat} {D : Nat → Nat → Prop} {w w' : World} {n : Nat} {f : Nat → MTxn}
theorem TX.heap (h : TX B b D w n f) (hw : w'.heap = w.heap) : TX B b D w' n f :=
  ⟨h.le, fun o => (frozen_of_heap hw _).trans (h.fz o), h.far, h.dis, fun j hj => by
    obtain ⟨ov, h1, h2⟩ := h.row j hj
    exact ⟨ov, fun i u hi => (cell_of_heap hw _).trans (h1 i u hi), h2.keep (fun _ _ _ => by rw [hw]) (fun _ _ h => h)⟩⟩
theorem TX.congr {f' : Nat → MTxn} (h : TX B b D w n f) (he : ∀ j, j < n → f' j = f j) : TX B b D w n f' :=
  ⟨h.le, h.fz, h.far, h.dis, fun j hj => by rw [he j hj]; exact h.row j hj⟩
/-- The row of operations of one transaction is cut. -/
theorem TX.cutOps (h : TX B b D w n f) (i : Nat) (hi : i < n) :
    ∃ ao c, w.cell? ⟨b, i * 5 + 4, none⟩ = some (.slice ao (f i).ops.length c) ∧ (f i).ops.length ≤ c ∧ (f i).ops.length * 64 ≤ 140737488355328 ∧
      ∀ w' m, m = min (f i).ops.length 10 → w'.heap = (w.setCell ⟨b, i * 5 + 4, none⟩ (.slice ao m c)).heap → TX B b D w' n (fun j => if j = i then withOps (f i) ((f i).ops.take 10) else f j) := by
  obtain ⟨ov, h1, h2⟩ := h.row i hi
  obtain ⟨ao, c, rfl, hl, _⟩ := id h2
  refine ⟨ao, c, h1 4 _ rfl, hl.2, hl.1, fun w' m hm hw => ?_⟩
  have hblk : ∀ x, x ≠ b → w'.heap[x]? = w.heap[x]? := fun x hx => by rw [hw]; exact Below.heap_setCell _ _ _ _ hx
  refine ⟨h.le, fun o => ?_, h.far, h.dis, fun j hj => ?_⟩
  · rw [frozen_of_heap hw, World.frozen?_setCell]; exact h.fz o
  · have hother : ∀ x, ¬ (j * 5 + x = i * 5 + 4) → w'.cell? ⟨b, j * 5 + x, none⟩ = w.cell? ⟨b, j * 5 + x, none⟩ := fun x hne => by
      exact (cell_of_heap hw _).trans (World.cell?_setCell_other _ _ _ _ (fun e => hne (show i * 5 + 4 = j * 5 + x from congrArg Addr.off e).symm))
    by_cases hji : j = i
    · subst hji
      rw [if_pos rfl]
      refine ⟨.slice ao m c, fun x u hx => ?_, (h2.take hm).keep (fun x hx _ => hblk x (h.far j x hx).2) (fun _ _ h => h)⟩
      by_cases h4 : x = 4
      · subst h4
        simp at hx
        subst hx
        rw [cell_of_heap hw]
        exact World.cell?_setCell_same _ _ _ (h1 4 _ rfl)
      · rw [hother x (by omega)]
        apply h1 x u
        match x, h4 with
        | 0, _ => exact hx
        | 1, _ => exact hx
        | 2, _ => exact hx
        | 3, _ => exact hx
        | n + 5, _ => simp at hx
    · rw [if_neg hji]
      obtain ⟨ov', g1, g2⟩ := h.row j hj
      refine ⟨ov', fun x u hx => ?_, g2.keep (fun x hx _ => hblk x (h.far j x hx).2) (fun _ _ h => h)⟩
      have hx5 : x < 5 := by have := (List.getElem?_eq_some_iff.1 hx).1; simpa using this
      rw [hother x (by omega)]
      exact g1 x u hx
/-- The list of one operation of one transaction is cut. -/
theorem TX.cutList (h : TX B b D w n f) (i k : Nat) (hi : i < n) (hk : k < (f i).ops.length) :
    ∃ bo c al cl, w.cell? ⟨b, i * 5 + 4, none⟩ = some (.slice (some ⟨bo, 0, none⟩) (f i).ops.length c) ∧ (f i).ops.length ≤ c ∧ w.cell? ⟨bo, k * 6 + 3, none⟩ = some (.slice al ((f i).ops.getD k default).list.length cl) ∧ ((f i).ops.getD k default).list.length ≤ cl ∧ ((f i).ops.getD k default).list.length * 8 ≤ 140737488355328 ∧ w.frozen? ⟨bo, k * 6 + 3, none⟩ = false ∧ B ≤ bo ∧ bo ≠ b ∧
      ∀ w' m, m = min ((f i).ops.getD k default).list.length 40 → w'.heap = (w.setCell ⟨bo, k * 6 + 3, none⟩ (.slice al m cl)).heap → TX B b D w' n (fun j => if j = i then withOps (f i) ((f i).ops.set k (cutOp ((f i).ops.getD k default))) else f j) := by
  obtain ⟨ov, h1, h2⟩ := h.row i hi
  obtain ⟨bo, c, al, cl, rfl, hS, g0, g1, g2, g3, g4, g5⟩ := h2.cut k hk
  have hfb := h.far i bo hS
  refine ⟨bo, c, al, cl, h1 4 _ rfl, g0, g1, g2, g3, g4, hfb.1, hfb.2, fun w' m hm hw => ?_⟩
  have hblk : ∀ x, x ≠ bo → w'.heap[x]? = w.heap[x]? := fun x hx => by rw [hw]; exact Below.heap_setCell _ _ _ _ hx
  refine ⟨h.le, fun o => ?_, h.far, h.dis, fun j hj => ?_⟩
  · rw [frozen_of_heap hw, World.frozen?_setCell]; exact h.fz o
  · skip
    by_cases hji : j = i
    · subst hji
      rw [if_pos rfl]
      exact ⟨_, fun x u hx => (World.cell?_of_block (w := w) (hblk b (fun e => hfb.2 e.symm))).trans (h1 x u hx), g5 w' m hm hw⟩
    · rw [if_neg hji]
      obtain ⟨ov', q1, q2⟩ := h.row j hj
      exact ⟨ov', fun x u hx => (World.cell?_of_block (w := w) (hblk b (fun e => hfb.2 e.symm))).trans (q1 x u hx), q2.keep (fun x hx _ => hblk x (fun e => hji (h.dis j i x hx (by rw [e]; exact hS)))) (fun _ _ h => h)⟩
end
end Go.Proofs.Ytnfbcmnlloipiaa.Tx
