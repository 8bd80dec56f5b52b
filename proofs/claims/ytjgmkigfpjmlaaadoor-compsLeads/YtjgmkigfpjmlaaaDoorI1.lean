/-
  Equal lists of edges.
-/
import Derived.Test.YtjgmkigfpjmlaaaDoorH4
namespace Go.Proofs.YtjgmkigfpjmlaaaDoor
set_option linter.unusedVariables false
set_option linter.unusedSimpArgs false
open Go.RowKit

/-- A slice of edges that can be read. -/
def ArgE (w : World) (ao : Option Addr) (es : List (Int × Int × Int)) : Prop :=
  ∀ j, j < es.length → ∃ b off, ao = some ⟨b, off, none⟩ ∧ w.cell? ⟨b, off + j * 3, none⟩ = some (.int .i64 (es.getD j (0, 0, 0)).1) ∧ w.cell? ⟨b, off + j * 3 + 1, none⟩ = some (.int .i64 (es.getD j (0, 0, 0)).2.1) ∧ w.cell? ⟨b, off + j * 3 + 2, none⟩ = some (.int .i64 (es.getD j (0, 0, 0)).2.2)
theorem ArgE.later {w w' : World} {ao : Option Addr} {es : List (Int × Int × Int)} (h : ArgE w ao es) (hb : Below w.heap.size w w') : ArgE w' ao es := fun j hj => by
  obtain ⟨b, off, e, h0, h1, h2⟩ := h j hj
  exact ⟨b, off, e, (hb.cell (p := ⟨b, off + j * 3, none⟩) (World.block_lt_of_cell? _ _ h0)).trans h0, (hb.cell (p := ⟨b, off + j * 3 + 1, none⟩) (World.block_lt_of_cell? _ _ h1)).trans h1, (hb.cell (p := ⟨b, off + j * 3 + 2, none⟩) (World.block_lt_of_cell? _ _ h2)).trans h2⟩
def intE (e : Nat × Nat × Nat) : Int × Int × Int := (e.1, e.2.1, e.2.2)
theorem edgesV_at (l : List (Nat × Nat × Nat)) (j : Nat) (hj : j < l.length) : (edgesV l)[3 * j]? = some (.int .i64 (l.getD j (0, 0, 0)).1) ∧ (edgesV l)[3 * j + 1]? = some (.int .i64 (l.getD j (0, 0, 0)).2.1) ∧ (edgesV l)[3 * j + 2]? = some (.int .i64 (l.getD j (0, 0, 0)).2.2) := by
  induction l generalizing j with
  | nil => simp at hj
  | cons e l ih =>
    have e0 : edgesV (e :: l) = edgeV e ++ edgesV l := by unfold edgesV; simp
    rw [e0]
    cases j with
    | zero => simp [edgeV]
    | succ j =>
      have hl : (edgeV e).length = 3 := rfl
      obtain ⟨h0, h1, h2⟩ := ih j (by simp at hj; omega)
      have a0 : 3 * (j + 1) = (edgeV e).length + 3 * j := by omega
      have a1 : 3 * (j + 1) + 1 = (edgeV e).length + (3 * j + 1) := by omega
      have a2 : 3 * (j + 1) + 2 = (edgeV e).length + (3 * j + 2) := by omega
      rw [a0]
      rw [a0] at a1 a2
      rw [a1, a2]
      simp only [List.getElem?_append_right (Nat.le_add_right _ _), Nat.add_sub_cancel_left]
      simpa using ⟨h0, h1, h2⟩
theorem EdgesIn.arg {B : Nat} {w : World} {v : Value} {l : List (Nat × Nat × Nat)} (h : EdgesIn B w v l) : ∃ ao c, v = .slice ao (l.map intE).length c ∧ ArgE w ao (l.map intE) := by
  rcases h.2 with ⟨hv, hn⟩ | ⟨g, cap, cur, hv, hB, hg, hnc, hm, hs, ht⟩
  · refine ⟨none, 0, by rw [hv, List.length_map, hn], fun j hj => ?_⟩
    rw [List.length_map] at hj
    omega
  · refine ⟨_, _, by rw [hv, List.length_map], fun j hj => ⟨g, 0, rfl, ?_⟩⟩
    rw [List.length_map] at hj
    obtain ⟨h0, h1, h2⟩ := edgesV_at l j hj
    have eg : (l.map intE).getD j (0, 0, 0) = intE (l.getD j (0, 0, 0)) := by
      simp [List.getD, hj]
    rw [eg]
    rw [← ht, List.getElem?_take] at h0 h1 h2
    split at h0
    · split at h1
      · split at h2
        · refine ⟨?_, ?_, ?_⟩
          · rw [Nat.zero_add, Lib.cell_of_heap hg]
            simpa [Nat.mul_comm, intE] using h0
          · rw [Nat.zero_add, Lib.cell_of_heap hg]
            simpa [Nat.mul_comm, intE] using h1
          · rw [Nat.zero_add, Lib.cell_of_heap hg]
            simpa [Nat.mul_comm, intE] using h2
        · cases h2
      · cases h1
    · cases h0
end Go.Proofs.YtjgmkigfpjmlaaaDoor
