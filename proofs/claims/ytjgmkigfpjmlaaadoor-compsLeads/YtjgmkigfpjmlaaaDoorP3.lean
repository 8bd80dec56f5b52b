/-
  What the search holds in memory.
-/
import Derived.Test.YtjgmkigfpjmlaaaDoorP2
namespace Go.Proofs.YtjgmkigfpjmlaaaDoor
set_option linter.unusedVariables false
set_option linter.unusedSimpArgs false
open Go.RowKit

/-- The edges that count. -/
def edge (L : Nat → Nat → Nat) (labels : Int) : Nat → Nat → Bool := fun u v => endsF L u labels 4 v
theorem first_hit (f : Nat → Bool) (t : Nat) : ∀ d, (∃ m, t ≤ m ∧ m < t + d ∧ f m = true ∧ ∀ k, t ≤ k → k < m → f k = false) ∨ (∀ k, t ≤ k → k < t + d → f k = false) := by
  intro d
  induction d with
  | zero => exact .inr fun k h1 h2 => by omega
  | succ d ih =>
    rcases ih with ⟨m, h1, h2, h3⟩ | h
    · exact .inl ⟨m, h1, by omega, h3⟩
    · cases hf : f (t + d) with
      | true => exact .inl ⟨t + d, by omega, by omega, hf, h⟩
      | false =>
        refine .inr fun k h1 h2 => ?_
        by_cases e : k = t + d
        · rw [e]; exact hf
        · exact h k h1 (by omega)
theorem lst_next (f : Nat → Bool) (n t j : Nat) (ht : t ≤ n) (h : lst f t = (lst f n).take j) (hj : j < (lst f n).length) :
    t ≤ (lst f n).getD j 0 ∧ (lst f n).getD j 0 < n ∧ f ((lst f n).getD j 0) = true ∧ (∀ k, t ≤ k → k < (lst f n).getD j 0 → f k = false) ∧ lst f ((lst f n).getD j 0 + 1) = (lst f n).take (j + 1) := by
  have hlen : (lst f t).length = j := by rw [h, List.length_take]; omega
  rcases first_hit f t (n - t) with ⟨m, h1, h2, h3, h4⟩ | h0
  · have hm : m < n := by omega
    have e1 := lst_step f t m h1 h3 h4
    obtain ⟨r, e2⟩ := lst_prefix f (m + 1) n (by omega)
    rw [e1] at e2
    have e3 : (lst f n).getD j 0 = m := by
      rw [e2, List.append_assoc]
      simp [List.getD, ← hlen]
    rw [e3]
    refine ⟨h1, hm, h3, h4, ?_⟩
    rw [e1, e2, List.append_assoc, ← hlen, List.take_length_add_append]
    simp
  · have := lst_gap f t n ht (fun k k1 k2 => h0 k k1 (by omega))
    rw [this] at hj
    omega
theorem lst_end (f : Nat → Bool) (n t j : Nat) (ht : t ≤ n) (h : lst f t = (lst f n).take j) (hj : ¬ j < (lst f n).length) : ∀ k, t ≤ k → k < n → f k = false := by
  rcases first_hit f t (n - t) with ⟨m, h1, h2, h3, h4⟩ | h0
  · exfalso
    have e1 := lst_step f t m h1 h3 h4
    obtain ⟨r, e2⟩ := lst_prefix f (m + 1) n (by omega)
    rw [List.take_of_length_le (by omega)] at h
    rw [e1, ← h] at e2
    have := congrArg List.length e2
    simp at this
  · exact fun k k1 k2 => h0 k k1 (by omega)

/-- The blocks of the queue: behind HQ, but not o. -/
def QP (HQ o : Nat) : Nat → Prop := fun g => HQ ≤ g ∧ g ≠ o
/-- A list of ints that was handed out, in block o. -/
def RowO (HQ : Nat) (w : World) (ao : Option Addr) (o : Nat) (l : List Nat) : Prop := ∀ j, j < l.length → ao = some ⟨o, 0, none⟩ ∧ HQ ≤ o ∧ ∃ cur, w.heap[o]? = some (.cells cur 3) ∧ cur[j]? = some (.int .i64 (l.getD j 0))
theorem RowO.keep {HQ : Nat} {w w' : World} {ao : Option Addr} {o : Nat} {l : List Nat} (h : RowO HQ w ao o l) (hk : HQ ≤ o → ∀ cs, w.heap[o]? = some (.cells cs 3) → w'.heap[o]? = some (.cells cs 3)) : RowO HQ w' ao o l := by
  intro j hj
  obtain ⟨h1, h2, cur, h3, h4⟩ := h j hj
  exact ⟨h1, h2, cur, hk h2 cur h3, h4⟩
theorem Ints.rowO {B HQ : Nat} {w : World} {v : Value} {l : List Nat} (h : Ints B w v l) (hB : HQ ≤ B) : ∃ ao cap o, v = .slice ao l.length cap ∧ RowO HQ w ao o l ∧ (B ≤ o ∨ o = 0) := by
  rcases h.2 with ⟨rfl, hn⟩ | ⟨g, cap, cur, hv, hb, hg, h1, h2, h3, h4⟩
  · exact ⟨none, 0, 0, by rw [hn], fun j hj => by omega, .inr rfl⟩
  · refine ⟨_, cap, g, hv, fun j hj => ⟨rfl, by omega, cur, hg, ?_⟩, .inl hb⟩
    have e : cur.toList[j]? = (cur.toList.take (l.length * 1))[j]? := by rw [List.getElem?_take, if_pos (by omega)]
    rw [← Array.getElem?_toList, e, h4]
    simp [intsV, List.getElem?_map, List.getD, hj]
theorem cnt_put (cd : Nat → Nat) (m c : Nat) (hc : c ≠ 0) (h0 : cd m = 0) : ∀ n, Pop.cnt (fun v => decide ((if v = m then c else cd v) = 0)) n + (if m < n then 1 else 0) = Pop.cnt (fun v => decide (cd v = 0)) n := by
  intro n
  induction n with
  | zero => simp [Pop.cnt]
  | succ n ih =>
    simp only [Pop.cnt]
    by_cases e : n = m
    · subst e
      rw [if_neg (by omega)] at ih
      rw [← ih]
      simp [hc, h0]
    · rw [if_neg e]
      by_cases hm : m < n
      · rw [if_pos hm] at ih
        rw [if_pos (by omega), ← ih]
        omega
      · rw [if_neg hm] at ih
        rw [if_neg (by omega), ← ih]
        omega
end Go.Proofs.YtjgmkigfpjmlaaaDoor
