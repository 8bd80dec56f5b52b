/-
  The law TableUnique.
-/
import Derived.Test.YtnfbcmnlloipiaaTb8
namespace Go.Proofs.Ytnfbcmnlloipiaa
set_option linter.unusedVariables false
set_option linter.unusedSimpArgs false
open Go.RowKit Go.Lib Go.Maps Go.Sort
open Tx (MTxn info_parts flatten_len flatten_get RowsIn.cells RowCells TxnRow TxnsIn TxnsOwn setCell_self cloneInts_any OpsOwn smallL cutTxn cutOp)

/-- The cells of a transaction. -/
def txC (t : MTxn) (ov : Value) : List Value := [.int .i64 t.proc, .int .i64 t.state, .int .i64 t.since, .int .i64 t.till, ov]
/-- A row more behind those of a clone. -/
theorem rows_more {S : Nat → Prop} {w w4 : World} {B : Nat} {rows : List (List Value)} {l : List MTxn} {x : MTxn} {ov v' : Value} (h1 : rows.length = l.length) (h2 : ∀ r ∈ rows, r.length = 5) (h3 : ∀ j, j < l.length → TxnRow S w (rows.getD j []) (l.getD j default)) (hx : OpsIn S w ov x.ops) (hb : Below w.heap.size w w4) (hn : (l.length + 1) * 56 ≤ 140737488355328)
    (ho : w4.ownsRow B 47 5 v' (l.length + 1) (rows.flatten ++ txC x ov)) : TxnsIn S w4 v' (l ++ [x]) ∨ ¬ (∀ b, S b) := by
  by_cases hS : ∀ b, S b
  · left
    have hR : Rows1 5 47 (TxnRow S w4) B w4 v' (l ++ [x]) := by
      refine ⟨rows ++ [txC x ov], by simp [h1], fun r hr => ?_, fun j hj => ?_, by rw [List.length_append, List.flatten_append]; simpa using ho⟩
      · rcases List.mem_append.1 hr with hr | hr
        · exact h2 r hr
        · obtain rfl : r = txC x ov := by simpa using hr
          rfl
      · by_cases e : j < l.length
        · have e1 : (rows ++ [txC x ov]).getD j [] = rows.getD j [] := by simp [List.getD, List.getElem?_append_left (show j < rows.length by omega)]
          have e2 : (l ++ [x]).getD j default = l.getD j default := by simp [List.getD, List.getElem?_append_left e]
          rw [e1, e2]
          exact (h3 j e).keep (keeps_below hb) (fun _ _ h => h)
        · have ej : j = l.length := by simp at hj; omega
          subst ej
          have e1 : (rows ++ [txC x ov]).getD l.length [] = txC x ov := by rw [← h1]; simp [List.getD]
          have e2 : (l ++ [x]).getD l.length default = x := by simp [List.getD]
          rw [e1, e2]
          exact ⟨ov, rfl, hx.keep (keeps_below hb) (fun _ _ h => h)⟩
    obtain ⟨g, c, hv, hc, _, _, _, hrow⟩ := hR.cell (by simp)
    refine ⟨_, c, hv, ⟨by rw [List.length_append]; exact hn, hc⟩, fun _ => ⟨g, 0, rfl, hS g, fun j hj => ?_⟩⟩
    obtain ⟨cs, q1, q2, q3⟩ := hrow j hj
    exact ⟨cs, q1, q2, fun i u hi => by rw [Nat.zero_add]; exact q3 i u hi⟩
  · exact .inr hS
theorem more_txns {W w6 : World} {B : Nat} {rows : List (List Value)} {l : List MTxn} {x : MTxn} {ov v' : Value} (h1 : rows.length = l.length) (h2 : ∀ r ∈ rows, r.length = 5) (h3 : ∀ j, j < l.length → TxnRow Any W (rows.getD j []) (l.getD j default)) (hx : OpsIn Any W ov x.ops) (hb : Below W.heap.size W w6) (hn : l.length ≤ 1000)
    (ho : w6.ownsRow B 47 5 v' (l.length + 1) (rows.flatten ++ txC x ov)) : TxnsIn Any w6 v' (l ++ [x]) :=
  (rows_more h1 h2 h3 hx hb (by omega) ho).resolve_right (fun c => c (fun _ => trivial))
end Go.Proofs.Ytnfbcmnlloipiaa
