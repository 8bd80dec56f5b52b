/-
  slices.Reverse of ints.
-/
import Derived.Test.YtjgmkigfpjmlaaaDoorP3
namespace Go.Proofs.YtjgmkigfpjmlaaaDoor
set_option linter.unusedVariables false
set_option linter.unusedSimpArgs false
open Go.RowKit

/-- A list with its first and its last i swapped. -/
def swp (l : List Int) (i j : Nat) : Int := if j < i ∨ l.length ≤ j + i then l.getD (l.length - 1 - j) 0 else l.getD j 0
/-- A row of numbers in block g. -/
def Lay1 (w : World) (g : Nat) (N n : Nat) (f : Nat → Int) : Prop := ∃ cur : Array Value, w.heap[g]? = some (.cells cur 3) ∧ (cur.size = N ∧ n ≤ N) ∧ ∀ j, j < n → cur[j]? = some (.int .i64 (f j))
theorem Lay1.put {w : World} {g N n : Nat} {f : Nat → Int} (h : Lay1 w g N n f) (i : Nat) (x : Int) (hi : i < n) : Lay1 (w.setCell ⟨g, i, none⟩ (.int .i64 x)) g N n (fun j => if j = i then x else f j) := by
  obtain ⟨cur, h1, h2, h3⟩ := h
  refine ⟨cur.setIfInBounds i (.int .i64 x), Go.Joins.block_setCell h1 _, by simpa using h2, fun j hj => ?_⟩
  by_cases e : j = i
  · subst e
    rw [Array.getElem?_setIfInBounds_self_of_lt (by omega)]
    simp
  · rw [Array.getElem?_setIfInBounds_ne (fun e' => e e'.symm), h3 j hj]
    simp [e]
theorem Lay1.congr {w : World} {g N n : Nat} {f f' : Nat → Int} (h : Lay1 w g N n f) (he : ∀ j, j < n → f j = f' j) : Lay1 w g N n f' := by
  obtain ⟨cur, h1, h2, h3⟩ := h
  exact ⟨cur, h1, h2, fun j hj => by rw [← he j hj]; exact h3 j hj⟩
theorem Lay1.cell {w : World} {g N n : Nat} {f : Nat → Int} (h : Lay1 w g N n f) (j : Nat) (hj : j < n) : w.cell? ⟨g, j, none⟩ = some (.int .i64 (f j)) ∧ w.frozen? ⟨g, j, none⟩ = false := by
  obtain ⟨cur, h1, h2, h3⟩ := h
  exact ⟨(Lib.cell_of_heap h1 j).trans (h3 j hj), Lib.frozen_of_heap h1 j⟩
theorem swp_step (l : List Int) (i : Nat) (h : 2 * i + 1 < l.length) (j : Nat) (hj : j < l.length) :
    (if j = l.length - 1 - i then l.getD i 0 else if j = i then l.getD (l.length - 1 - i) 0 else swp l i j) = swp l (i + 1) j := by
  unfold swp
  by_cases e1 : j = l.length - 1 - i
  · rw [if_pos e1, if_pos (by omega)]
    congr 1
    omega
  · rw [if_neg e1]
    by_cases e2 : j = i
    · rw [if_pos e2, if_pos (by omega), e2]
    · rw [if_neg e2]
      by_cases e3 : j < i ∨ l.length ≤ j + i
      · rw [if_pos e3, if_pos (by omega)]
      · rw [if_neg e3, if_neg (by omega)]
theorem swp_end (l : List Int) (i : Nat) (h : ¬ 2 * i + 1 < l.length) (j : Nat) (hj : j < l.length) (hi : 2 * i ≤ l.length) : swp l i j = l.reverse.getD j 0 := by
  have e : l.reverse.getD j 0 = l.getD (l.length - 1 - j) 0 := by
    simp [List.getD, List.getElem?_reverse hj]
  unfold swp
  rw [e]
  by_cases e3 : j < i ∨ l.length ≤ j + i
  · rw [if_pos e3]
  · rw [if_neg e3]
    congr 1
    omega
end Go.Proofs.YtjgmkigfpjmlaaaDoor
