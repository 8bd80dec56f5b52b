/-
  What is reached by pairs, round by round; what the sparse pairs and the full ones reach. Plain.
-/
import Derived.Test.YtbcegdiabnapkaaR5
namespace Go.Proofs.Ytbcegdiabnapkaa
set_option linter.unusedVariables false
set_option linter.unusedSimpArgs false

/-- What is reached by pairs with all between below k. -/
def war (R : Nat → Nat → Bool) : Nat → Nat → Nat → Bool
  | 0, x, y => R x y
  | k + 1, x, y => war R k x y || (war R k x k && war R k k y)
theorem war_le (R : Nat → Nat → Bool) (x y : Nat) (h : R x y = true) : ∀ k, war R k x y = true
  | 0 => h
  | k + 1 => by simp [war, war_le R x y h k]
theorem war_goes (R : Nat → Nat → Bool) : ∀ k z, z < k → ∀ x y, war R k x z = true → war R k z y = true → war R k x y = true
  | 0, z, h, _, _, _, _ => by omega
  | k + 1, z, hz, x, y, h1, h2 => by
    simp only [war, Bool.or_eq_true, Bool.and_eq_true] at h1 h2 ⊢
    by_cases hzk : z = k
    · subst hzk
      exact .inr ⟨h1.elim id (·.1), h2.elim id (·.2)⟩
    · have hz' : z < k := by omega
      rcases h1 with h1 | ⟨a1, a2⟩ <;> rcases h2 with h2 | ⟨b1, b2⟩
      · exact .inl (war_goes R k z hz' x y h1 h2)
      · exact .inr ⟨war_goes R k z hz' x k h1 b1, b2⟩
      · exact .inr ⟨a1, war_goes R k z hz' k y a2 h2⟩
      · exact .inr ⟨a1, b2⟩
/-- Whatever comes behind is reached by the sparse pairs. -/
theorem sparse_reach (f : Nat → LT) (n : Nat) (hR : ∀ j, j < n → Rt (f j)) : ∀ (d : Nat) (x y : Nat), x < n → y < n → ((f y).since - (f x).till).toNat ≤ d → pbef f x y = true → war (psp f n) n x y = true
  | d, x, y, hx, hy, hd, hb => by
    by_cases hs : psp f n x y = true
    · exact war_le _ _ _ hs n
    · have hb' : bef (f x) (f y) = true := hb
      have hw : btw f n x y = true := by
        unfold psp at hs
        rw [hb'] at hs
        simpa using hs
      obtain ⟨c, hc, h1, h2⟩ := (btw_iff f n x y).1 hw
      have r1 := hR c hc
      have b0 := (bef_iff _ _).1 hb'
      have b1 := (bef_iff _ _).1 h1
      have b2 := (bef_iff _ _).1 h2
      unfold Rt at r1
      match d, hd with
      | 0, hd => omega
      | d + 1, hd =>
        exact war_goes _ n c hc x y (sparse_reach f n hR d x c hx hc (by omega) h1) (sparse_reach f n hR d c y hc hy (by omega) h2)
theorem psp_le (f : Nat → LT) (n x y : Nat) (h : psp f n x y = true) : pbef f x y = true := by
  unfold psp at h
  simp only [Bool.and_eq_true] at h
  exact h.1
theorem getD_mem {α : Type} [Inhabited α] (l : List α) (j : Nat) (h : j < l.length) : l.getD j default ∈ l := by
  have e : l.getD j default = l[j] := by simp only [List.getD, List.getElem?_eq_getElem h, Option.getD_some]
  rw [e]
  exact List.getElem_mem h
theorem mem_getD {α : Type} [Inhabited α] (l : List α) (x : α) (h : x ∈ l) : ∃ j, j < l.length ∧ l.getD j default = x := by
  obtain ⟨j, hj, e⟩ := List.getElem_of_mem h
  exact ⟨j, hj, by simp only [List.getD, List.getElem?_eq_getElem hj, Option.getD_some]; exact e⟩
/-- The pairs of a relation, read one by one. -/
theorem pairs_read (p : Nat → Nat → Bool) (n t : Nat) (ht : t < (allL (fun i => (List.range n).filter (p i)) n).length) : ∃ x y : Nat, x < n ∧ y < n ∧ (allL (fun i => (List.range n).filter (p i)) n).getD t default = ((x : Int), (y : Int)) ∧ p x y = true := by
  have hm := getD_mem _ t ht
  simp only [allL, List.mem_flatMap, List.mem_range, List.mem_map, List.mem_filter] at hm
  obtain ⟨i, hi, y, ⟨hy, hp⟩, e⟩ := hm
  exact ⟨i, y, hi, hy, e.symm, hp⟩
theorem pairs_have (p : Nat → Nat → Bool) (n x y : Nat) (hx : x < n) (hy : y < n) (h : p x y = true) : ∃ t, t < (allL (fun i => (List.range n).filter (p i)) n).length ∧ (allL (fun i => (List.range n).filter (p i)) n).getD t default = ((x : Int), (y : Int)) := by
  refine mem_getD _ _ ?_
  simp only [allL, List.mem_flatMap, List.mem_range, List.mem_map, List.mem_filter]
  exact ⟨x, hx, y, ⟨hy, h⟩, rfl⟩
/-- There are no more sparse pairs than full ones. -/
theorem sparse_fewer (f : Nat → LT) (n : Nat) : ∀ k, (allL (sparseRow f n) k).length ≤ (allL (fullRow f n) k).length
  | 0 => Nat.le_refl _
  | k + 1 => by
    rw [allL_succ, allL_succ, List.length_append, List.length_append, List.length_map, List.length_map]
    have h1 := sparse_fewer f n k
    have h2 : (sparseRow f n k).length ≤ (fullRow f n k).length := by
      unfold sparseRow fullRow
      rw [← List.countP_eq_length_filter, ← List.countP_eq_length_filter]
      refine List.countP_mono_left (fun x _ h => ?_)
      simp only [Bool.and_eq_true] at h
      exact h.1
    omega
end Go.Proofs.Ytbcegdiabnapkaa
