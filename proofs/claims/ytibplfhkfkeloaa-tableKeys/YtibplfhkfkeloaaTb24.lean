/-
  What may be written, out of what was copied; a table stays beside it.
-/
import Derived.Test.YtibplfhkfkeloaaTb21
import Derived.Test.YtibplfhkfkeloaaTb22
import Derived.Test.YtibplfhkfkeloaaTb23
namespace Go.Proofs.Ytibplfhkfkeloaa
set_option linter.unusedVariables false
set_option linter.unusedSimpArgs false
open Go.RowKit Go.Lib Go.Maps
open Tx (MTxn info_parts flatten_len flatten_get RowsIn.cells RowCells TxnRow TxnsIn TxnsOwn setCell_self cloneInts_any OpsOwn smallL cutTxn cutOp Soft)

theorem Made.kept {B : Nat} {w w' : World} {tb : Nat} {l : List MTxn} {P : Nat → Prop} (h : Made B w tb l) (hg : Gro P w w') (hP : ∀ b, P b → b < B) : Made B w' tb l := by
  obtain ⟨kb, wb, lb, tv, kv, F, D, m, u, h1, h2, ⟨ss, h3, h3b⟩, h4, h5, h6, h7⟩ := h
  refine ⟨kb, wb, lb, tv, kv, F, D, m, u, h1.keep hg (fun b hb c => by have := (h1.flt b hb).1; have := hP b c; omega), h2, ⟨ss, own_same h3 (fun g hgo => hg.block g (own_block h3 hgo).2.1 (fun c => by have := (own_block h3 hgo).1; have := hP _ c; omega)), h3b⟩, h4, fun b hD => ⟨(h5 b hD).1, by have := hg.size; have := (h5 b hD).2.1; omega, (h5 b hD).2.2⟩, h6.keep (fun b hD hl => hg.block b hl (fun c => by have := (h5 b hD).1; have := hP _ c; omega)) (fun _ _ x => x), h7⟩

theorem spo_of {S P : Nat → Prop} {w : World} {v : Value} {l : List MOp} (h : OpsOwn S w v l) (hS : ∀ b, b < w.heap.size → S b → P b) (hl : l.length ≤ 10) (hk : ∀ o ∈ l, o.key.size ≤ 281474976710656) : SpO P w v := by
  obtain ⟨ao, c, rfl, hb, hc⟩ := h
  refine ⟨ao, l.length, c, rfl, hl, hb.2, fun k hk' => ?_⟩
  obtain ⟨b, rfl, hSb, hf, hj⟩ := hc (by omega)
  obtain ⟨cs, h1, ⟨lv, rfl, h2⟩, h3⟩ := hj k hk'
  have hbl := World.block_lt_of_cell? _ _ (h3 1 _ rfl)
  refine ⟨b, _, _, lv, rfl, hS b hbl hSb, hf, h3 1 _ rfl, hk _ (by simp [List.getD, List.getElem?_eq_getElem hk']), h3 2 _ rfl, h3 3 _ rfl, ?_⟩
  obtain ⟨la, lc, rfl, hll, hcc⟩ := h2
  refine ⟨la, _, lc, rfl, by omega, hll.2, fun j hj' => ?_⟩
  obtain ⟨b2, off, rfl, hs2, hx⟩ := hcc (by omega)
  exact ⟨b2, off, _, rfl, hS b2 (World.block_lt_of_cell? _ _ (hx j hj')) hs2.1.1, hs2.2, hx j hj'⟩
theorem spt_of {B : Nat} {w : World} {v : Value} {l : List MTxn} (h : TxnsOwn B w v l) (hl : l.length ≤ 1000) (hten : ∀ t ∈ l, t.ops.length ≤ 10) (hok : ∀ t ∈ l, ∀ o ∈ t.ops, OpOk o) : SpT (fun b => B ≤ b ∧ b < w.heap.size) w v l.length := by
  obtain ⟨ao, c, rfl, hb, hc⟩ := h
  refine ⟨ao, c, rfl, hl, hb.2, fun i hi => ?_⟩
  obtain ⟨b, D, rfl, hT⟩ := hc (by omega)
  obtain ⟨ov, h1, h2⟩ := hT.row i hi
  exact ⟨b, _, ov, rfl, ⟨hT.le, World.block_lt_of_cell? _ _ (h1 1 _ rfl)⟩, hT.fz, h1 1 _ rfl, h1 4 _ rfl, spo_of h2 (fun x hx hD => ⟨(hT.far i x hD).1, hx⟩) (hten _ (getD_mem l i hi)) (fun o ho => (hok _ (getD_mem l i hi) o ho).1)⟩
theorem soft_later {w w' : World} {b o : Nat} {v : Value} (hb : Below w.heap.size w w') (hc : w.cell? ⟨b, o, none⟩ = some v) (h : Soft w b) : Soft w' b := h.keep (hb.block b (World.block_lt_of_cell? _ _ hc))
theorem cell_later {w w' : World} {p : Addr} {v : Value} (hb : Below w.heap.size w w') (hc : w.cell? p = some v) : w'.cell? p = some v := (hb.cell (World.block_lt_of_cell? _ _ hc)).trans hc
theorem SpL.later {P : Nat → Prop} {w w' : World} {v : Value} (h : SpL P w v) (hb : Below w.heap.size w w') : SpL P w' v := by
  obtain ⟨la, m, lc, e, h1, h2, h3⟩ := h
  refine ⟨la, m, lc, e, h1, h2, fun j hj => ?_⟩
  obtain ⟨lb, lo, x, e2, h4, h5, h6⟩ := h3 j hj
  exact ⟨lb, lo, x, e2, h4, soft_later hb h6 h5, cell_later hb h6⟩
theorem SpO.later {P : Nat → Prop} {w w' : World} {v : Value} (h : SpO P w v) (hb : Below w.heap.size w w') : SpO P w' v := by
  obtain ⟨oa, n, oc, e, h1, h2, h3⟩ := h
  refine ⟨oa, n, oc, e, h1, h2, fun j hj => ?_⟩
  obtain ⟨ob, key, val, lv, e2, h4, h5, h6, h7, h8, h9, h10⟩ := h3 j hj
  exact ⟨ob, key, val, lv, e2, h4, soft_later hb h6 h5, cell_later hb h6, h7, cell_later hb h8, cell_later hb h9, h10.later hb⟩
theorem SpT.later {P : Nat → Prop} {w w' : World} {v : Value} {N : Nat} (h : SpT P w v N) (hb : Below w.heap.size w w') : SpT P w' v N := by
  obtain ⟨ta, c, e, h1, h2, h3⟩ := h
  refine ⟨ta, c, e, h1, h2, fun j hj => ?_⟩
  obtain ⟨tb, st, ov, e2, h4, h5, h6, h7, h8⟩ := h3 j hj
  exact ⟨tb, st, ov, e2, h4, soft_later hb h6 h5, cell_later hb h6, cell_later hb h7, h8.later hb⟩
/-- One transaction in a new slice. -/
theorem spt_one {P : Nat → Prop} {w : World} {t : MTxn} {v : Value} (hP : P w.heap.size) (h : SpO P w v) : SpT P (w.alloc (.cells (txC t v) 36)) (.slice (some ⟨w.heap.size, 0, none⟩) 1 1) 1 := by
  refine ⟨_, 1, rfl, by omega, by omega, fun i hi => ?_⟩
  have hi0 : i = 0 := by omega
  subst hi0
  have hh : (w.alloc (.cells (txC t v) 36)).heap[w.heap.size]? = some (.cells (txC t v) 36) := by rw [alloc_at, if_pos rfl]
  exact ⟨w.heap.size, t.state, v, rfl, hP, fun o => Lib.frozen_of_heap hh o, Lib.cell_of_heap hh 1, Lib.cell_of_heap hh 4, h.later (below_box w _)⟩
end Go.Proofs.Ytibplfhkfkeloaa
