/-
  A ring of nodes: plain.
-/
import Derived.Test.YtjgmkigfpjmlaacDoorP9
namespace Go.Proofs.YtjgmkigfpjmlaacDoor
set_option linter.unusedVariables false
set_option linter.unusedSimpArgs false
open Go.RowKit

/-- The labels of a ring of n nodes, of which k edges are drawn. -/
def ringL (n k : Nat) : Nat → Nat → Nat := fun f t => if f < k ∧ t = (f + 1) % n then 4 else 0
theorem ringL_small (n k f t : Nat) : ringL n k f t < 16 := by unfold ringL; split <;> decide
theorem low_44 : low 4 4 = 4 := by decide
theorem ringL_step (n k : Nat) : addL (ringL n k) k ((k + 1) % n) 4 4 = ringL n (k + 1) := by
  funext f t
  unfold addL ringL
  rw [low_44]
  by_cases h1 : f = k ∧ t = (k + 1) % n
  · obtain ⟨rfl, rfl⟩ := h1
    rw [if_pos ⟨rfl, rfl⟩, if_neg (by omega), if_pos ⟨by omega, rfl⟩]
    decide
  · rw [if_neg h1]
    by_cases h2 : f < k ∧ t = (f + 1) % n
    · rw [if_pos h2, if_pos ⟨by omega, h2.2⟩]
    · rw [if_neg h2, if_neg]
      rintro ⟨h3, h4⟩
      by_cases h5 : f = k
      · subst h5; exact h1 ⟨rfl, h4⟩
      · exact h2 ⟨by omega, h4⟩
theorem any4 : ((List.range 4).any fun i => lbit 4 i && (4 : Nat).testBit i) = true := by decide +kernel
theorem any0 (m : Int) : ((List.range 4).any fun i => lbit m i && (0 : Nat).testBit i) = false := by simp
theorem any3 : ((List.range 4).any fun i => lbit 3 i && (4 : Nat).testBit i) = false := by decide +kernel
theorem ring_edge (n u v : Nat) (hu : u < n) : edge (ringL n n) 4 u v = true ↔ v = (u + 1) % n := by
  unfold edge endsF ringL
  by_cases h : v = (u + 1) % n
  · rw [if_pos ⟨hu, h⟩]
    exact ⟨fun _ => h, fun _ => any4⟩
  · rw [if_neg (fun c => h c.2)]
    constructor
    · intro c; rw [any0] at c; cases c
    · intro c; exact absurd c h
theorem ring_none (n u v : Nat) : edge (ringL n n) 3 u v = false := by
  unfold edge endsF ringL
  split
  · exact any3
  · exact any0 3
theorem mod_step (n a : Nat) : (a % n + 1) % n = (a + 1) % n := by rw [Nat.mod_add_mod]
theorem ring_walk (n : Nat) : ∀ (r : List Nat) (s t : Nat), s < n → Wl (edge (ringL n n) 4) n s r t → (∀ i, i < r.length → r.getD i 0 = (s + 1 + i) % n) ∧ t = (s + r.length) % n := by
  intro r
  induction r with
  | nil => intro s t hs h; exact ⟨fun i hi => by simp at hi, by have e : s = t := h; rw [← e]; simp [Nat.mod_eq_of_lt hs]⟩
  | cons m r ih =>
    rintro s t hs ⟨h1, h2, h3⟩
    have hm := (ring_edge n s m hs).1 h1
    obtain ⟨k1, k2⟩ := ih m t h2 h3
    constructor
    · intro i hi
      cases i with
      | zero => simpa using hm
      | succ i =>
        have := k1 i (by simpa using hi)
        have e : (m :: r).getD (i + 1) 0 = r.getD i 0 := by simp [List.getD]
        rw [e, this, hm, show (s + 1) % n + 1 + i = (s + 1) % n + (1 + i) from by omega, Nat.mod_add_mod]
        congr 1
        omega
    · rw [k2, hm, Nat.mod_add_mod, List.length_cons]
      congr 1
      omega
theorem ring_way (n : Nat) (hn : 0 < n) : ∀ (k s : Nat), s < n → ∃ r, r.length = k ∧ Wl (edge (ringL n n) 4) n s r ((s + k) % n) := by
  intro k
  induction k with
  | zero => intro s hs; exact ⟨[], rfl, (Nat.mod_eq_of_lt hs).symm⟩
  | succ k ih =>
    intro s hs
    obtain ⟨r, h1, h2⟩ := ih ((s + 1) % n) (Nat.mod_lt _ hn)
    refine ⟨(s + 1) % n :: r, by simp [h1], (ring_edge n s _ hs).2 rfl, Nat.mod_lt _ hn, ?_⟩
    rw [Nat.mod_add_mod, show s + 1 + k = s + (k + 1) from by omega] at h2
    exact h2
/-- How far it is along the ring. -/
def ringD (n s t : Nat) : Nat := if (t + n - s) % n = 0 then n else (t + n - s) % n
theorem ringD_pos (n s t : Nat) (hn : 0 < n) : 1 ≤ ringD n s t ∧ ringD n s t ≤ n := by
  unfold ringD
  have := Nat.mod_lt (t + n - s) hn
  split <;> omega
theorem ringD_mod (n s t : Nat) (hs : s < n) (ht : t < n) : (s + ringD n s t) % n = t := by
  unfold ringD
  have e : (s + (t + n - s) % n) % n = t := by
    rw [Nat.add_mod_mod, show s + (t + n - s) = t + n from by omega, Nat.add_mod_right, Nat.mod_eq_of_lt ht]
  split
  · rename_i h
    rw [h, Nat.add_zero] at e
    rw [Nat.add_mod_right]
    exact e
  · exact e
theorem ring_dst (n s t : Nat) (hs : s < n) (ht : t < n) : Dst (edge (ringL n n) 4) n t s (ringD n s t) := by
  obtain ⟨h1, h2⟩ := ringD_pos n s t (by omega)
  refine ⟨h1, ?_, ?_⟩
  · obtain ⟨r, k1, k2⟩ := ring_way n (by omega) (ringD n s t) s hs
    rw [ringD_mod n s t hs ht] at k2
    exact ⟨r, k1, k2⟩
  · rintro j hj ⟨r, rfl, hw⟩
    have e := (ring_walk n r s t hs hw).2
    refine Nat.le_of_not_lt fun hlt => ?_
    have e2 : (s + ringD n s t) % n = (s + r.length) % n := by rw [ringD_mod n s t hs ht]; exact e
    have e3 := Nat.sub_mod_eq_zero_of_mod_eq e2
    rw [show s + ringD n s t - (s + r.length) = ringD n s t - r.length from by omega, Nat.mod_eq_of_lt (by omega)] at e3
    omega
theorem ring_far (n s t : Nat) (hs : s < n) (ht : t < n) : IsFar (edge (ringL n n) 4) n s t (ringD n s t) := .inl ⟨s, t, ringD n s t, rfl, hs, rfl, ht, rfl, ring_dst n s t hs ht⟩
theorem none_far (n : Nat) (s t : Int) : IsFar (edge (ringL n n) 3) n s t (-1) := by
  refine .inr ⟨rfl, ?_⟩
  rintro S T _ _ _ r hr hw
  cases r with
  | nil => exact hr rfl
  | cons m r =>
    have := hw.1
    rw [ring_none] at this
    cases this
end Go.Proofs.YtjgmkigfpjmlaacDoor
