/-
  The walk of the law BitsGoes.
-/
import Derived.Test.YtgmneohngadpeaaGreatDoorB11
namespace Go.Proofs.YtgmneohngadpeaaGreatDoor
set_option linter.unusedVariables false
set_option linter.unusedSimpArgs false
open Go.RowKit

theorem lst_prefix (f : Nat → Bool) (p q : Nat) (h : p ≤ q) : ∃ r, lst f q = lst f p ++ r := by
  obtain ⟨m, rfl⟩ : ∃ m, q = p + m := ⟨q - p, by omega⟩
  clear h
  induction m with
  | zero => exact ⟨[], by simp⟩
  | succ m ih =>
    obtain ⟨r, hr⟩ := ih
    refine ⟨r ++ [p + m].filter f, ?_⟩
    unfold lst at *
    rw [← Nat.add_assoc, List.range_succ, List.filter_append, hr, List.append_assoc]
theorem lst_one (f : Nat → Bool) (k : Nat) : lst f (k + 1) = if f k then lst f k ++ [k] else lst f k := by
  unfold lst
  rw [List.range_succ, List.filter_append]
  cases h : f k <;> simp [h]
/-- Where a beginning of the list is what lies below p, the next one is what Next tells from p on. -/
theorem goes_step (f : Nat → Bool) (N p j : Nat) (r : Int) (t : Bool) (ht : ∀ i, N ≤ i → f i = false) (hp : p ≤ N) (hj : j < (lst f N).length) (he : lst f p = (lst f N).take j) (hn : NextIs f p r t) :
    t = true ∧ r = ((lst f N).getD j 0 : Nat) ∧ (lst f N).getD j 0 + 1 ≤ N ∧ lst f ((lst f N).getD j 0 + 1) = (lst f N).take (j + 1) := by
  have hlen : (lst f p).length = j := by rw [he, List.length_take]; omega
  rcases hn with ⟨rfl, x, rfl, hpx, hfx, hgap⟩ | ⟨rfl, rfl, hgap⟩
  · have hx : x < N := by
      rcases Nat.lt_or_ge x N with h | h
      · exact h
      · rw [ht x h] at hfx; cases hfx
    have h1 := lst_step f p x hpx hfx hgap
    obtain ⟨q, hq⟩ := lst_prefix f (x + 1) N (by omega)
    have h2 : (lst f N).getD j 0 = x := by
      rw [hq, h1, List.append_assoc, List.getD_eq_getElem?_getD, List.getElem?_append_right (by omega)]
      simp [hlen]
    rw [h2]
    refine ⟨rfl, rfl, by omega, ?_⟩
    rw [h1, hq, h1]
    have : j + 1 = (lst f p ++ [x]).length := by simp [hlen]
    rw [this, List.take_left]
  · exfalso
    have := lst_gap f p N hp (fun k h1 _ => hgap k h1)
    rw [this] at hj
    omega
theorem goes_end (f : Nat → Bool) (N p : Nat) (r : Int) (t : Bool) (ht : ∀ i, N ≤ i → f i = false) (hp : p ≤ N) (he : lst f p = lst f N) (hn : NextIs f p r t) : t = false := by
  rcases hn with ⟨rfl, x, rfl, hpx, hfx, hgap⟩ | ⟨rfl, rfl, hgap⟩
  · exfalso
    have hx : x < N := by
      rcases Nat.lt_or_ge x N with h | h
      · exact h
      · rw [ht x h] at hfx; cases hfx
    have h1 := lst_step f p x hpx hfx hgap
    obtain ⟨q, hq⟩ := lst_prefix f (x + 1) N (by omega)
    have h2 := congrArg List.length (hq.trans (by rw [h1, he]))
    simp at h2
  · rfl
theorem hits_none (N : Nat) (zs : List Int) (hN : 1 ≤ N) (hN2 : N ≤ 4096) : (zs.length = 0) ↔ ((lst (hits N zs) N).length = 0) := by
  constructor
  · intro h
    have : zs = [] := List.length_eq_zero_iff.1 h
    subst this
    have := lst_gap (hits N []) 0 N (by omega) (fun k _ _ => rfl)
    rw [this]
    rfl
  · intro h
    cases zs with
    | nil => rfl
    | cons z zs =>
      exfalso
      obtain ⟨M, hM, hz⟩ := u64_tmod z N (by omega) (by omega)
      have h1 : M ∈ lst (hits N (z :: zs)) N := by
        unfold lst hits
        rw [List.mem_filter]
        exact ⟨List.mem_range.2 hM, by simp [hz]⟩
      have : lst (hits N (z :: zs)) N = [] := List.length_eq_zero_iff.1 h
      rw [this] at h1
      cases h1

theorem is_zero (n : Nat) (h : n = 0) : ((n : Int) == 0) = true := by subst h; rfl
theorem not_zero (n : Nat) (h : n ≠ 0) : ((n : Int) == 0) = false := by simp; omega
end Go.Proofs.YtgmneohngadpeaaGreatDoor
