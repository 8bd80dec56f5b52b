/-
  Which writes are a transaction's last ones of their keys: plain; the table's Final, the document's Final.
-/
import Derived.Test.YtnfbcmnlloipiaaTb8
namespace Go.Proofs.Ytnfbcmnlloipiaa
set_option linter.unusedVariables false
set_option linter.unusedSimpArgs false
open Go.RowKit Go.Lib Go.Maps Go.Sort
open Tx (MTxn info_parts flatten_len flatten_get RowsIn.cells RowCells TxnRow TxnsIn TxnsOwn setCell_self cloneInts_any OpsOwn smallL cutTxn cutOp)

/-- The operation at a place is a write, the last one of its key. -/
def finT (T : List MOp) (i : Nat) : Prop := i < T.length ∧ isW (T.getD i default).kind = true ∧ ∀ j, i < j → j < T.length → ¬ (isW (T.getD j default).kind = true ∧ (T.getD j default).key = (T.getD i default).key)
def finL (l : List MTxn) (t i : Int) : Prop := 0 ≤ t ∧ t < l.length ∧ 0 ≤ i ∧ finT (l.getD t.toNat default).ops i.toNat
/-- The last write of a key among the first k operations of a transaction. -/
theorem last_take (t : Nat) (T : List MOp) (s : ByteArray) : ∀ k, k ≤ T.length → ∀ i, lastN ((notesT t T).take k) t s = some i ↔ (i < k ∧ isW (T.getD i default).kind = true ∧ (T.getD i default).key = s ∧ ∀ j, i < j → j < k → ¬ (isW (T.getD j default).kind = true ∧ (T.getD j default).key = s))
  | 0, _, i => by simp [lastN]
  | k + 1, hk, i => by
    rw [notesT_take t T k (by omega), last_snoc]
    have ih := last_take t T s k (by omega) i
    by_cases h : hitL t s (t, k, T.getD k default) = true
    · rw [if_pos h]
      unfold hitL at h
      simp only [Bool.and_eq_true, decide_eq_true_eq] at h
      constructor
      · intro e
        have e' : k = i := Option.some.inj e
        subst e'
        exact ⟨by omega, h.1.1, h.2, fun j h1 h2 => by omega⟩
      · rintro ⟨h1, h2, h3, h4⟩
        by_cases e : i = k
        · rw [e]
        · exact absurd ⟨h.1.1, h.2⟩ (h4 k (by omega) (by omega))
    · rw [if_neg h, ih]
      have hn : ¬ (isW (T.getD k default).kind = true ∧ (T.getD k default).key = s) := fun c => h (by
        unfold hitL
        simp only [Bool.and_eq_true, decide_eq_true_eq]
        exact ⟨⟨c.1, trivial⟩, c.2⟩)
      constructor
      · rintro ⟨h1, h2, h3, h4⟩
        exact ⟨by omega, h2, h3, fun j a b => by
          by_cases e : j = k
          · rw [e]; exact hn
          · exact h4 j a (by omega)⟩
      · rintro ⟨h1, h2, h3, h4⟩
        have hik : i ≠ k := fun e => hn (by rw [← e]; exact ⟨h2, h3⟩)
        exact ⟨by omega, h2, h3, fun j a b => h4 j a (by omega)⟩
theorem last_append (N M : List MN) (t : Nat) (s : ByteArray) (h : ∀ x ∈ M, x.1 ≠ t) : lastN (N ++ M) t s = lastN N t s := by
  unfold lastN
  rw [List.filter_append]
  have e : M.filter (hitL t s) = [] := by
    rw [List.filter_eq_nil_iff]
    intro x hx
    have := h x hx
    simp [hitL, this]
  rw [e, List.append_nil]
theorem last_front (N M : List MN) (t : Nat) (s : ByteArray) (h : ∀ x ∈ N, x.1 ≠ t) : lastN (N ++ M) t s = lastN M t s := by
  unfold lastN
  rw [List.filter_append]
  have e : N.filter (hitL t s) = [] := by
    rw [List.filter_eq_nil_iff]
    intro x hx
    have := h x hx
    simp [hitL, this]
  rw [e, List.nil_append]
theorem notes_fst (l : List MTxn) : ∀ n x, x ∈ notes l n → x.1 < n
  | 0, x, h => by simp [notes] at h
  | n + 1, x, h => by
    rw [notes] at h
    rcases List.mem_append.1 h with h | h
    · have := notes_fst l n x h
      omega
    · obtain ⟨j, _, rfl⟩ := List.mem_map.1 h
      exact Nat.lt_succ_self _
theorem last_notes (l : List MTxn) (t : Nat) (s : ByteArray) : ∀ n, t < n → lastN (notes l n) t s = lastN (notesT t (l.getD t default).ops) t s
  | 0, h => absurd h (Nat.not_lt_zero _)
  | n + 1, h => by
    rw [notes]
    by_cases e : t = n
    · subst e
      exact last_front _ _ _ _ (fun x hx => by have := notes_fst l t x hx; omega)
    · rw [last_append _ _ _ _ (fun x hx => by
        obtain ⟨j, _, rfl⟩ := List.mem_map.1 hx
        exact fun c => e c.symm)]
      exact last_notes l t s n (by omega)
theorem lastN_is (l : List MTxn) (t : Nat) (ht : t < l.length) (s : ByteArray) (i : Nat) : lastN (notes l l.length) t s = some i ↔ (i < (l.getD t default).ops.length ∧ isW ((l.getD t default).ops.getD i default).kind = true ∧ ((l.getD t default).ops.getD i default).key = s ∧ ∀ j, i < j → j < (l.getD t default).ops.length → ¬ (isW ((l.getD t default).ops.getD j default).kind = true ∧ ((l.getD t default).ops.getD j default).key = s)) := by
  rw [last_notes l t s l.length ht]
  have := last_take t (l.getD t default).ops s (l.getD t default).ops.length (Nat.le_refl _) i
  rw [List.take_of_length_le (by rw [notesT_len]; exact Nat.le_refl _)] at this
  exact this
/-- A write's key has a last write, and it is this one just if no later one writes the key. -/
theorem last_fin (l : List MTxn) (t : Nat) (ht : t < l.length) (i : Nat) (hi : i < (l.getD t default).ops.length) (hw : isW ((l.getD t default).ops.getD i default).kind = true) : (((lastN (notes l l.length) t ((l.getD t default).ops.getD i default).key).getD 0 : Nat) = i) ↔ finT (l.getD t default).ops i := by
  generalize hT : (l.getD t default).ops = T at *
  constructor
  · intro h
    refine ⟨hi, hw, ?_⟩
    cases hl : lastN (notes l l.length) t (T.getD i default).key with
    | some m =>
      rw [hl] at h
      have hm : m = i := h
      have h2 := (lastN_is l t ht (T.getD i default).key m).1 hl
      rw [hT, hm] at h2
      exact h2.2.2.2
    | none =>
      exfalso
      have hex : ∃ m, lastN (notes l l.length) t (T.getD i default).key = some m := by
        rw [last_notes l t _ l.length ht, hT]
        unfold lastN
        have hmem : (t, i, T.getD i default) ∈ (notesT t T).filter (hitL t (T.getD i default).key) := List.mem_filter.2 ⟨List.mem_map.2 ⟨i, by simpa using hi, rfl⟩, by simp only [hitL, Bool.and_eq_true, decide_eq_true_eq]; exact ⟨⟨hw, trivial⟩, trivial⟩⟩
        cases hg : ((notesT t T).filter (hitL t (T.getD i default).key)).getLast? with
        | none =>
          rw [List.getLast?_eq_none_iff] at hg
          rw [hg] at hmem
          simp at hmem
        | some y => exact ⟨_, rfl⟩
      obtain ⟨m, hm⟩ := hex
      rw [hl] at hm
      cases hm
  · intro h
    have := (lastN_is l t ht (T.getD i default).key i).2 (by rw [hT]; exact ⟨hi, hw, rfl, h.2.2⟩)
    rw [this]
    rfl
end Go.Proofs.Ytnfbcmnlloipiaa
