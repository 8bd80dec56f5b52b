/-
  Pairs that are handed in, as cells; a part of a slice; what a slice of pairs that was handed in is.
-/
import Derived.Test.YtmnfmilgpglfcaaDoorL1
import Derived.Laws.AppendOwnNone
namespace Go.Proofs.YtmnfmilgpglfcaaDoor
set_option linter.unusedVariables false
set_option linter.unusedSimpArgs false
open Go.RowKit

theorem Tryd.info28 : (Tryd.prog.info? 28).map (fun i => (i.zero, i.size, i.bytes)) = some (some (.agg #[.int .i64 0, .int .i64 0, .bool false]), 3, 24) := by kernel_rfl
/-- Edges as cells. -/
def eV (e : Int × Int × Bool) : List Value := [.int .i64 e.1, .int .i64 e.2.1, .bool e.2.2]
def esV (l : List (Int × Int × Bool)) : List Value := l.flatMap eV
theorem esV_len (l : List (Int × Int × Bool)) : (esV l).length = l.length * 3 := by
  induction l with
  | nil => rfl
  | cons e l ih =>
    have : esV (e :: l) = eV e ++ esV l := by unfold esV; simp
    rw [this, List.length_append, ih]
    simp [eV]
    omega
theorem esV_app (l l' : List (Int × Int × Bool)) : esV (l ++ l') = esV l ++ esV l' := by unfold esV; simp
theorem esV_at (l : List (Int × Int × Bool)) (j : Nat) (hj : j < l.length) : (esV l)[j * 3]? = some (.int .i64 (l.getD j (0, 0, false)).1) ∧ (esV l)[j * 3 + 1]? = some (.int .i64 (l.getD j (0, 0, false)).2.1) ∧ (esV l)[j * 3 + 2]? = some (.bool (l.getD j (0, 0, false)).2.2) := by
  induction l generalizing j with
  | nil => simp at hj
  | cons e l ih =>
    have e0 : esV (e :: l) = eV e ++ esV l := by unfold esV; simp
    rw [e0]
    cases j with
    | zero => simp [eV]
    | succ j =>
      have hl : (eV e).length = 3 := rfl
      obtain ⟨h0, h1, h2⟩ := ih j (by simp at hj; omega)
      have a0 : (j + 1) * 3 = (eV e).length + j * 3 := by omega
      have a1 : (j + 1) * 3 + 1 = (eV e).length + (j * 3 + 1) := by omega
      have a2 : (j + 1) * 3 + 2 = (eV e).length + (j * 3 + 2) := by omega
      rw [a0]
      rw [a0] at a1 a2
      rw [a1, a2]
      simp only [List.getElem?_append_right (Nat.le_add_right _ _), Nat.add_sub_cancel_left]
      simpa using ⟨h0, h1, h2⟩
theorem esV_one (l : List (Int × Int × Bool)) (u : Value) (h : u ∈ esV l) : u.oneCell' = true := by
  unfold esV at h
  obtain ⟨e, _, hu⟩ := List.mem_flatMap.1 h
  simp only [eV, List.mem_cons, List.not_mem_nil, or_false] at hu
  rcases hu with rfl | rfl | rfl <;> rfl
/-- A cell of the list is one of an edge's three. -/
theorem esV_cell {w : World} {b off : Nat} {l : List (Int × Int × Bool)} (h : ArgP w (some ⟨b, off, none⟩) l) (j : Nat) (u : Value) (hj : (esV l)[j]? = some u) : w.cell? ⟨b, off + j, none⟩ = some u := by
  have hlt : j < l.length * 3 := by rw [← esV_len]; exact (List.getElem?_eq_some_iff.1 hj).1
  obtain ⟨b', off', e, h0, h1, h2⟩ := h (j / 3) (by omega)
  cases e
  obtain ⟨k0, k1, k2⟩ := esV_at l (j / 3) (by omega)
  have hr : j % 3 = 0 ∨ j % 3 = 1 ∨ j % 3 = 2 := by omega
  rcases hr with r | r | r
  · have e : j = j / 3 * 3 := by omega
    rw [← e] at h0 k0
    rw [hj] at k0
    cases k0
    exact h0
  · have e : j = j / 3 * 3 + 1 := by omega
    rw [Nat.add_assoc, ← e] at h1
    rw [← e] at k1
    rw [hj] at k1
    cases k1
    exact h1
  · have e : j = j / 3 * 3 + 2 := by omega
    rw [Nat.add_assoc, ← e] at h2
    rw [← e] at k2
    rw [hj] at k2
    cases k2
    exact h2
/-- A row of edges of one's own can be read. -/
theorem own_arg {B : Nat} {w : World} {v : Value} {l : List (Int × Int × Bool)} (h : w.ownsRow B 28 3 v l.length (esV l)) : ∃ ao c, v = .slice ao l.length c ∧ ArgP w ao l := by
  rcases h.2 with ⟨hv, hn⟩ | ⟨g, cap, cur, hv, hB, hg, hnc, hm, hs, ht⟩
  · exact ⟨none, 0, by rw [hv, hn], fun j hj => by omega⟩
  · refine ⟨_, _, hv, fun j hj => ⟨g, 0, rfl, ?_⟩⟩
    obtain ⟨h0, h1, h2⟩ := esV_at l j hj
    rw [← ht, List.getElem?_take] at h0 h1 h2
    rw [if_pos (by omega)] at h0 h1 h2
    refine ⟨?_, ?_, ?_⟩
    · rw [Nat.zero_add, Lib.cell_of_heap hg]; simpa using h0
    · rw [Nat.zero_add, Lib.cell_of_heap hg]; simpa using h1
    · rw [Nat.zero_add, Lib.cell_of_heap hg]; simpa using h2
theorem ArgP.take {w : World} {ao : Option Addr} {zs : List (Int × Int × Bool)} (h : ArgP w ao zs) (m : Nat) : ArgP w ao (zs.take m) := fun j hj => by
  have hj2 : j < zs.length := by rw [List.length_take] at hj; omega
  have hj3 : j < m := by rw [List.length_take] at hj; omega
  obtain ⟨b, off, e, h0⟩ := h j hj2
  refine ⟨b, off, e, ?_⟩
  have eg : (zs.take m).getD j (0, 0, false) = zs.getD j (0, 0, false) := by simp [List.getD, List.getElem?_take, hj3]
  rw [eg]
  exact h0
theorem own_one28 (w : World) (B : Nat) (hB : B ≤ w.heap.size) (x y : Int) (z : Bool) : (w.alloc (.cells #[.int .i64 x, .int .i64 y, .bool z] 28)).ownsRow B 28 3 (.slice (some ⟨w.heap.size, 0, none⟩) 1 1) 1 (esV [(x, y, z)]) :=
  ⟨rfl, .inr ⟨w.heap.size, 1, #[.int .i64 x, .int .i64 y, .bool z], rfl, hB, heap_alloc_new w _, Nat.le_refl _, by simp [maxLen], rfl, rfl⟩⟩
end Go.Proofs.YtmnfmilgpglfcaaDoor
