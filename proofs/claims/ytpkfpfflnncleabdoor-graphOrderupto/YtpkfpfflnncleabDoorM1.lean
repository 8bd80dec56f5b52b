/-
  Plain: the labels that a list of edges makes, whatever its order; a list of edges in cells.
-/
import Derived.Test.YtpkfpfflnncleabDoorJ9
namespace Go.Proofs.YtpkfpfflnncleabDoor
set_option linter.unusedVariables false
set_option linter.unusedSimpArgs false
open Go.RowKit

/-- An edge as it was handed in is added, or refused. -/
def stepI (n : Nat) (L : Nat → Nat → Nat) (e : Int × Int × Int) : Nat → Nat → Nat := if addWhy n e.1 e.2.1 e.2.2 = 0 then addL L e.1.toNat e.2.1.toNat e.2.2.toNat 4 else L
theorem stepI_bit (n : Nat) (L : Nat → Nat → Nat) (e : Int × Int × Int) (f t i : Nat) :
    (stepI n L e f t).testBit i = true ↔ (L f t).testBit i = true ∨ (addWhy n e.1 e.2.1 e.2.2 = 0 ∧ e.1.toNat = f ∧ e.2.1.toNat = t ∧ i < 4 ∧ e.2.2.toNat.testBit i = true) := by
  unfold stepI
  by_cases h : addWhy n e.1 e.2.1 e.2.2 = 0
  · rw [if_pos h, addL_bit]
    simp only [h, true_and, Bool.or_eq_true, Bool.and_eq_true, decide_eq_true_eq]
    constructor
    · rintro (a | ⟨⟨b, c, d⟩, x⟩)
      · exact .inl a
      · exact .inr ⟨b.symm, c.symm, d, x⟩
    · rintro (a | ⟨b, c, d, x⟩)
      · exact .inl a
      · exact .inr ⟨⟨b.symm, c.symm, d⟩, x⟩
  · rw [if_neg h]
    simp [h]
theorem foldI_bit (n : Nat) (l : List (Int × Int × Int)) (L : Nat → Nat → Nat) (f t i : Nat) :
    ((l.foldl (stepI n) L) f t).testBit i = true ↔ (L f t).testBit i = true ∨ ∃ e, e ∈ l ∧ addWhy n e.1 e.2.1 e.2.2 = 0 ∧ e.1.toNat = f ∧ e.2.1.toNat = t ∧ i < 4 ∧ e.2.2.toNat.testBit i = true := by
  induction l generalizing L with
  | nil => simp
  | cons e l ih =>
    rw [List.foldl_cons, ih, stepI_bit]
    constructor
    · rintro ((a | b) | ⟨e', m, b⟩)
      · exact .inl a
      · exact .inr ⟨e, List.mem_cons_self .., b⟩
      · exact .inr ⟨e', List.mem_cons_of_mem _ m, b⟩
    · rintro (a | ⟨e', m, b⟩)
      · exact .inl (.inl a)
      · rcases List.mem_cons.1 m with rfl | m
        · exact .inl (.inr b)
        · exact .inr ⟨e', m, b⟩
theorem foldI_same (n : Nat) (l l' : List (Int × Int × Int)) (L : Nat → Nat → Nat) (h : ∀ e, e ∈ l ↔ e ∈ l') : l.foldl (stepI n) L = l'.foldl (stepI n) L := by
  funext f t
  apply Nat.eq_of_testBit_eq
  intro i
  rw [Bool.eq_iff_iff, foldI_bit, foldI_bit]
  simp only [h]
theorem stepI_ok (n : Nat) (L : Nat → Nat → Nat) (F T X : Nat) (h : addWhy n (F : Int) (T : Int) (X : Int) = 0) : stepI n L ((F : Int), (T : Int), (X : Int)) = addL L F T X 4 := by
  unfold stepI
  rw [if_pos h]
  rfl
theorem stepI_no (n : Nat) (L : Nat → Nat → Nat) (x y z : Int) (h : ¬ addWhy n x y z = 0) : stepI n L (x, y, z) = L := by
  unfold stepI
  rw [if_neg h]

/-- Edges as cells. -/
def eV (e : Int × Int × Int) : List Value := [.int .i64 e.1, .int .i64 e.2.1, .int .i64 e.2.2]
def esV (l : List (Int × Int × Int)) : List Value := l.flatMap eV
theorem esV_len (l : List (Int × Int × Int)) : (esV l).length = l.length * 3 := by
  induction l with
  | nil => rfl
  | cons e l ih =>
    have : esV (e :: l) = eV e ++ esV l := by unfold esV; simp
    rw [this, List.length_append, ih]
    simp [eV]
    omega
theorem esV_app (l l' : List (Int × Int × Int)) : esV (l ++ l') = esV l ++ esV l' := by unfold esV; simp
theorem esV_at (l : List (Int × Int × Int)) (j : Nat) (hj : j < l.length) : (esV l)[j * 3]? = some (.int .i64 (l.getD j (0, 0, 0)).1) ∧ (esV l)[j * 3 + 1]? = some (.int .i64 (l.getD j (0, 0, 0)).2.1) ∧ (esV l)[j * 3 + 2]? = some (.int .i64 (l.getD j (0, 0, 0)).2.2) := by
  induction l generalizing j with
  | nil => simp at hj
  | cons e l ih =>
    have e0 : esV (e :: l) = eV e ++ esV l := by unfold esV; simp
    rw [e0]
    cases j with
    | zero => simp [eV]
    | succ j =>
      have hl : (eV e).length = 3 := rfl
      obtain ⟨h0, h1, h2⟩ := ih j (by simp at hj; omega)
      have a0 : (j + 1) * 3 = (eV e).length + j * 3 := by omega
      have a1 : (j + 1) * 3 + 1 = (eV e).length + (j * 3 + 1) := by omega
      have a2 : (j + 1) * 3 + 2 = (eV e).length + (j * 3 + 2) := by omega
      rw [a0]
      rw [a0] at a1 a2
      rw [a1, a2]
      simp only [List.getElem?_append_right (Nat.le_add_right _ _), Nat.add_sub_cancel_left]
      simpa using ⟨h0, h1, h2⟩
theorem esV_one (l : List (Int × Int × Int)) (u : Value) (h : u ∈ esV l) : u.oneCell' = true := by
  unfold esV at h
  obtain ⟨e, _, hu⟩ := List.mem_flatMap.1 h
  simp only [eV, List.mem_cons, List.not_mem_nil, or_false] at hu
  rcases hu with rfl | rfl | rfl <;> rfl
/-- A cell of the list is one of an edge's three. -/
theorem esV_cell {w : World} {b off : Nat} {l : List (Int × Int × Int)} (h : ArgE w (some ⟨b, off, none⟩) l) (j : Nat) (u : Value) (hj : (esV l)[j]? = some u) : w.cell? ⟨b, off + j, none⟩ = some u := by
  have hlt : j < l.length * 3 := by rw [← esV_len]; exact (List.getElem?_eq_some_iff.1 hj).1
  obtain ⟨b', off', e, h0, h1, h2⟩ := h (j / 3) (by omega)
  cases e
  obtain ⟨k0, k1, k2⟩ := esV_at l (j / 3) (by omega)
  have hr : j % 3 = 0 ∨ j % 3 = 1 ∨ j % 3 = 2 := by omega
  rcases hr with r | r | r
  · have e : j = j / 3 * 3 := by omega
    rw [← e] at h0 k0
    rw [hj] at k0
    cases k0
    exact h0
  · have e : j = j / 3 * 3 + 1 := by omega
    rw [Nat.add_assoc, ← e] at h1
    rw [← e] at k1
    rw [hj] at k1
    cases k1
    exact h1
  · have e : j = j / 3 * 3 + 2 := by omega
    rw [Nat.add_assoc, ← e] at h2
    rw [← e] at k2
    rw [hj] at k2
    cases k2
    exact h2
/-- A row of edges of one's own can be read. -/
theorem own_arg {B : Nat} {w : World} {v : Value} {l : List (Int × Int × Int)} (h : w.ownsRow B 41 3 v l.length (esV l)) : ∃ ao c, v = .slice ao l.length c ∧ ArgE w ao l := by
  rcases h.2 with ⟨hv, hn⟩ | ⟨g, cap, cur, hv, hB, hg, hnc, hm, hs, ht⟩
  · exact ⟨none, 0, by rw [hv, hn], fun j hj => by omega⟩
  · refine ⟨_, _, hv, fun j hj => ⟨g, 0, rfl, ?_⟩⟩
    obtain ⟨h0, h1, h2⟩ := esV_at l j hj
    rw [← ht, List.getElem?_take] at h0 h1 h2
    rw [if_pos (by omega)] at h0 h1 h2
    refine ⟨?_, ?_, ?_⟩
    · rw [Nat.zero_add, Lib.cell_of_heap hg]; simpa using h0
    · rw [Nat.zero_add, Lib.cell_of_heap hg]; simpa using h1
    · rw [Nat.zero_add, Lib.cell_of_heap hg]; simpa using h2
end Go.Proofs.YtpkfpfflnncleabDoor
