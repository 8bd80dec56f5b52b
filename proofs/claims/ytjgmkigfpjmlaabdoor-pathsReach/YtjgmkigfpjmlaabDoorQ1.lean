/-
  The document's distances: plain.
-/
import Derived.Test.YtjgmkigfpjmlaabDoorP9
namespace Go.Proofs.YtjgmkigfpjmlaabDoor
set_option linter.unusedVariables false
set_option linter.unusedSimpArgs false
open Go.RowKit

/-- A distance as a number: -1 without. -/
def dI (dv : Nat → Nat) (v : Nat) : Int := if dv v = 0 then -1 else (dv v : Int)
theorem dI_neg (dv : Nat → Nat) (v : Nat) (h : dv v = 0) : dI dv v = -1 := if_pos h
theorem dI_pos (dv : Nat → Nat) (v : Nat) (h : dv v ≠ 0) : dI dv v = (dv v : Int) := if_neg h
/-- A node of the next layer. -/
def hitF (E : Nat → Nat → Bool) (dv : Nat → Nat) (Ly : List Nat) (v : Nat) : Bool := decide (dv v = 0) && Ly.any (E v)
def hk (E : Nat → Nat → Bool) (dv : Nat → Nat) (Ly : List Nat) (k j : Nat) : Bool := decide (dv k = 0) && (Ly.take j).any (E k)
theorem hk_zero (E : Nat → Nat → Bool) (dv : Nat → Nat) (Ly : List Nat) (k : Nat) : hk E dv Ly k 0 = false := by simp [hk]
theorem hk_all (E : Nat → Nat → Bool) (dv : Nat → Nat) (Ly : List Nat) (k j : Nat) (hj : ¬ j < Ly.length) : hk E dv Ly k j = hitF E dv Ly k := by
  unfold hk hitF
  rw [List.take_of_length_le (by omega)]
theorem hk_succ (E : Nat → Nat → Bool) (dv : Nat → Nat) (Ly : List Nat) (k j : Nat) (hj : j < Ly.length) : hk E dv Ly k (j + 1) = (hk E dv Ly k j || (decide (dv k = 0) && E k (Ly.getD j 0))) := by
  unfold hk
  rw [List.take_succ_eq_append_getElem hj, List.any_append]
  have e : Ly.getD j 0 = Ly[j] := by simp [List.getD, hj]
  rw [e]
  cases decide (dv k = 0) <;> simp
/-- The distances while node k is in hand. -/
def dq (E : Nat → Nat → Bool) (dv : Nat → Nat) (Ly : List Nat) (d k : Nat) (hb : Bool) : Nat → Nat := fun v => if v < k ∧ hitF E dv Ly v = true then d else if v = k ∧ hb = true then d else dv v
theorem dq_at (E : Nat → Nat → Bool) (dv : Nat → Nat) (Ly : List Nat) (d k : Nat) (hb : Bool) : dq E dv Ly d k hb k = if hb = true then d else dv k := by
  unfold dq
  rw [if_neg (by omega)]
  cases hb <;> simp
theorem dq_zero (E : Nat → Nat → Bool) (dv : Nat → Nat) (Ly : List Nat) (d : Nat) : dq E dv Ly d 0 false = dv := by
  funext v
  unfold dq
  simp
theorem dq_next (E : Nat → Nat → Bool) (dv : Nat → Nat) (Ly : List Nat) (d k : Nat) : dq E dv Ly d k (hitF E dv Ly k) = dq E dv Ly d (k + 1) false := by
  funext v
  unfold dq
  by_cases h1 : v < k
  · have h2 : v < k + 1 := by omega
    have h3 : ¬ v = k := by omega
    simp [h1, h2, h3]
  · by_cases h2 : v = k
    · subst h2
      cases hitF E dv Ly v <;> simp
    · have h3 : ¬ v < k + 1 := by omega
      simp [h1, h2, h3]
theorem dq_set (E : Nat → Nat → Bool) (dv : Nat → Nat) (Ly : List Nat) (d k : Nat) (hd : d ≠ 0) (v : Nat) : (if v = k then (d : Int) else dI (dq E dv Ly d k false) v) = dI (dq E dv Ly d k true) v := by
  by_cases h : v = k
  · subst h
    rw [if_pos rfl]
    unfold dI
    rw [dq_at, if_pos rfl, if_neg hd]
  · rw [if_neg h]
    unfold dI dq
    simp [h]
theorem lay_round {E : Nat → Nat → Bool} {n T d : Nat} {dv : Nat → Nat} {Ly : List Nat} (h : Lay E n T d dv Ly) (hT : T < n) : Lay E n T (d + 1) (dq E dv Ly d n false) (lst (hitF E dv Ly) n) := by
  refine h.round hT (fun v hv => ?_) (fun v => ?_)
  · have hiff : hitF E dv Ly v = true ↔ dv v = 0 ∧ ∃ m ∈ Ly, E v m = true := by unfold hitF; simp
    unfold dq
    by_cases hc : dv v = 0 ∧ ∃ m ∈ Ly, E v m = true
    · rw [if_pos ⟨hv, hiff.2 hc⟩, if_pos hc]
    · rw [if_neg (fun c => hc (hiff.1 c.2)), if_neg hc, if_neg (by simp)]
  · unfold lst hitF
    simp [List.mem_filter]
/-- What is left: how many nodes have no distance, and whether there is a layer. -/
def left2 (n : Nat) (dv : Nat → Nat) (Ly : List Nat) : Nat := Pop.cnt (fun v => decide (dv v = 0)) n + (if Ly = [] then 0 else 1)
theorem left_less (E : Nat → Nat → Bool) (n d : Nat) (dv : Nat → Nat) (Ly : List Nat) (hd : d ≠ 0) (hne : Ly ≠ []) : left2 n (dq E dv Ly d n false) (lst (hitF E dv Ly) n) + 1 ≤ left2 n dv Ly := by
  unfold left2
  rw [if_neg hne]
  have hle : ∀ k, k < n → decide (dq E dv Ly d n false k = 0) = true → decide (dv k = 0) = true := by
    intro k hk h
    simp only [decide_eq_true_eq] at h ⊢
    unfold dq at h
    by_cases h1 : k < n ∧ hitF E dv Ly k = true
    · rw [if_pos h1] at h; exact absurd h hd
    · rw [if_neg h1] at h; simpa using h
  by_cases h0 : lst (hitF E dv Ly) n = []
  · rw [if_pos h0]
    have := cnt_mono _ _ n hle
    omega
  · rw [if_neg h0]
    obtain ⟨m, hm⟩ := List.exists_mem_of_ne_nil _ h0
    unfold lst at hm
    simp only [List.mem_filter, List.mem_range] at hm
    have h1 : dv m = 0 := by have := hm.2; unfold hitF at this; simp at this; exact this.1
    have := cnt_more _ _ m n hm.1 hle (by simp; unfold dq; rw [if_pos hm]; exact hd) (by simp [h1])
    omega
theorem Lay.node {E : Nat → Nat → Bool} {n T d : Nat} {dv : Nat → Nat} {Ly : List Nat} (h : Lay E n T d dv Ly) (hT : T < n) (j : Nat) (hj : j < Ly.length) : Ly.getD j 0 < n := by
  have e : Ly.getD j 0 ∈ Ly := by simp [List.getD, hj]
  rcases (h.layer _).1 e with ⟨_, h1⟩ | ⟨_, h1, _⟩
  · rw [h1]; exact hT
  · exact h1
theorem Part.cell {P : Nat → Prop} {w : World} {v : Value} {l : List Int} (h : Part P w v l) (j : Nat) (hj : j < l.length) : ∃ g off cap, v = .slice (some ⟨g, off, none⟩) l.length cap ∧ w.cell? ⟨g, off + j, none⟩ = some (.int .i64 (l.getD j 0)) := by
  rcases h with ⟨_, rfl⟩ | ⟨g, off, cap, cur, h1, h2, h3, h4, h5, h6, h7⟩
  · simp at hj
  · exact ⟨g, off, cap, h1, (Lib.cell_of_heap h3 _).trans (h7 j hj)⟩
theorem Part.mono {P Q : Nat → Prop} {w : World} {v : Value} {l : List Int} (h : Part P w v l) (hn : ∀ k, k < w.heap.size → P k → Q k) : Part Q w v l := by
  rcases h with h | ⟨g, off, cap, cur, h1, h2, h3, h4⟩
  · exact .inl h
  · exact .inr ⟨g, off, cap, cur, h1, hn g (blt h3) h2, h3, h4⟩
theorem Part.later {P : Nat → Prop} {w w' : World} {v : Value} {l : List Int} (h : Part P w v l) (hb : Below w.heap.size w w') : Part P w' v l :=
  h.gro (Gro.of_below (P := fun _ => False) hb) (fun _ _ h => h)
theorem Lay1.gro {P : Nat → Prop} {w w' : World} {g N n : Nat} {f : Nat → Int} (h : Lay1 w g N n f) (hg : Gro P w w') (hn : ¬ P g) : Lay1 w' g N n f := by
  obtain ⟨cur, h1, h2⟩ := h
  exact ⟨cur, hg.at h1 hn, h2⟩
end Go.Proofs.YtjgmkigfpjmlaabDoor
