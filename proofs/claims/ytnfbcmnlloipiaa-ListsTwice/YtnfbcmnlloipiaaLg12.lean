/-
  The anomalies of a look, plain; its reads in memory.
-/
import Derived.Test.YtnfbcmnlloipiaaLg11
namespace Go.Proofs.Ytnfbcmnlloipiaa
set_option linter.unusedVariables false
set_option linter.unusedSimpArgs false
open Go.RowKit Go.Lib Go.Maps

/-- A read with its list. -/
abbrev MRx := Nat × Nat × List Int
def oneA (K : Knw) (s : ByteArray) (i : Nat) (r : MRx) : List MAn := match findM K r.1 r.2.1 r.2.2 i with
  | none => []
  | some a => [(a.1, (r.1 : Int), (r.2.1 : Int), a.2.1, s, a.2.2)]
def rowA (K : Knw) (s : ByteArray) (RX : List MRx) (i : Nat) : List MAn := RX.flatMap (oneA K s i)
/-- What the finds below i tell of all reads, and the find i of the first k. -/
def uptoA (K : Knw) (s : ByteArray) (RX : List MRx) (i k : Nat) : List MAn := (List.range i).flatMap (rowA K s RX) ++ (RX.take k).flatMap (oneA K s i)
theorem oneA_len (K : Knw) (s : ByteArray) (i : Nat) (r : MRx) : (oneA K s i r).length ≤ 1 := by
  unfold oneA
  split <;> simp
theorem uptoA_zero (K : Knw) (s : ByteArray) (RX : List MRx) : uptoA K s RX 0 0 = [] := by simp [uptoA]
theorem uptoA_next (K : Knw) (s : ByteArray) (RX : List MRx) (i k : Nat) (hk : k < RX.length) : uptoA K s RX i (k + 1) = uptoA K s RX i k ++ oneA K s i (RX.getD k default) := by
  unfold uptoA
  rw [List.take_add_one, List.flatMap_append, List.getElem?_eq_getElem hk, ← List.append_assoc]
  simp [List.getD, List.getElem?_eq_getElem hk]
theorem uptoA_row (K : Knw) (s : ByteArray) (RX : List MRx) (i : Nat) : uptoA K s RX i RX.length = uptoA K s RX (i + 1) 0 := by
  unfold uptoA
  simp [List.range_succ, rowA]
theorem flat_le {α : Type} (g : α → List MAn) (h : ∀ x, (g x).length ≤ 1) : ∀ l : List α, (l.flatMap g).length ≤ l.length
  | [] => by simp
  | x :: l => by
    have := flat_le g h l
    have := h x
    simp only [List.flatMap_cons, List.length_append, List.length_cons]
    omega
theorem flat_le2 {α : Type} (g : α → List MAn) (n : Nat) (h : ∀ x, (g x).length ≤ n) : ∀ l : List α, (l.flatMap g).length ≤ l.length * n
  | [] => by simp
  | x :: l => by
    have := flat_le2 g n h l
    have := h x
    simp only [List.flatMap_cons, List.length_append, List.length_cons, Nat.add_mul]
    omega
theorem uptoA_len (K : Knw) (s : ByteArray) (RX : List MRx) (i k : Nat) (hk : k ≤ RX.length) : (uptoA K s RX i k).length ≤ i * RX.length + k := by
  unfold uptoA
  rw [List.length_append]
  have h1 := flat_le2 (rowA K s RX) RX.length (fun i => flat_le _ (oneA_len K s i) RX) (List.range i)
  have h2 := flat_le _ (oneA_len K s i) (RX.take k)
  simp only [List.length_range, List.length_take] at h1 h2
  omega
/-- The reads of a look, with their lists in memory. -/
structure Rds (w : World) (R : List MRd) (RX : List MRx) : Prop where
  len : R.length = RX.length
  at' : ∀ j, j < R.length → ∃ a c, R.getD j default = ((RX.getD j default).1, (RX.getD j default).2.1, a, (RX.getD j default).2.2.length, c) ∧ IntsIn Any w (.slice a (RX.getD j default).2.2.length c) (RX.getD j default).2.2 ∧ ∀ x ∈ (RX.getD j default).2.2, (Lit.int .i64 x).wf = true
theorem Rds.later {w w' : World} {R : List MRd} {RX : List MRx} (h : Rds w R RX) (hb : Below w.heap.size w w') : Rds w' R RX := ⟨h.len, fun j hj => by
  obtain ⟨a, c, h1, h2, h3⟩ := h.at' j hj
  exact ⟨a, c, h1, h2.below hb, h3⟩⟩
theorem rdC_at : ∀ (R : List MRd) (j i : Nat), j < R.length → i < 3 → (rdC R)[j * 3 + i]? = (rdVs (R.getD j default))[i]?
  | [], j, i, h, _ => by simp at h
  | a :: l, 0, i, _, hi => by
    show (rdVs a ++ rdC l)[0 * 3 + i]? = _
    rw [Nat.zero_mul, Nat.zero_add, List.getElem?_append_left (by simp [rdVs]; omega)]
    rfl
  | a :: l, j + 1, i, h, hi => by
    show (rdVs a ++ rdC l)[(j + 1) * 3 + i]? = _
    rw [List.getElem?_append_right (by simp [rdVs]; omega)]
    rw [show (j + 1) * 3 + i - (rdVs a).length = j * 3 + i from by simp [rdVs]; omega]
    exact rdC_at l j i (by simpa using h) hi
end Go.Proofs.Ytnfbcmnlloipiaa
