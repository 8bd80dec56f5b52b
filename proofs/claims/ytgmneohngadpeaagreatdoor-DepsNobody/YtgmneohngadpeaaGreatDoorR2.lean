/-
  The document's sets: List, Next, Same, Copy.
-/
import Derived.Test.YtgmneohngadpeaaGreatDoorR1
import Derived.Test.YtgmneohngadpeaaGreatDoorB12
namespace Go.Proofs.YtgmneohngadpeaaGreatDoor
set_option linter.unusedVariables false
set_option linter.unusedSimpArgs false
open Go.RowKit

theorem Ref.blt {w : World} {b n c : Nat} {f : Nat → Bool} (h : Ref w b n c f) : b < w.heap.size ∧ c < w.heap.size := by
  obtain ⟨cur, h1, h2, h3, h4⟩ := h.ex
  exact ⟨Go.Proofs.YtgmneohngadpeaaGreatDoor.blt h1, Go.Proofs.YtgmneohngadpeaaGreatDoor.blt h2⟩
theorem NextIs.unique {f : Nat → Bool} {i : Nat} {r r' : Int} {t t' : Bool} (h : NextIs f i r t) (h' : NextIs f i r' t') : r = r' ∧ t = t' := by
  rcases h with ⟨rfl, j, rfl, h1, h2, h3⟩ | ⟨rfl, rfl, h3⟩
  · rcases h' with ⟨rfl, k, rfl, k1, k2, k3⟩ | ⟨rfl, rfl, k3⟩
    · have : j = k := by
        rcases Nat.lt_trichotomy j k with h | h | h
        · have := k3 j h1 h
          rw [h2] at this
          cases this
        · exact h
        · have := h3 k k1 h
          rw [k2] at this
          cases this
      exact ⟨by rw [this], rfl⟩
    · have := k3 j h1
      rw [h2] at this
      cases this
  · rcases h' with ⟨rfl, k, rfl, k1, k2, k3⟩ | ⟨rfl, rfl, k3⟩
    · have := h3 k k1
      rw [k2] at this
      cases this
    · exact ⟨rfl, rfl⟩

/-- A row's cells. -/
def boolsV (f : Nat → Bool) (n : Nat) : List Value := (List.range n).map fun j => Value.bool (f j)
end Go.Proofs.YtgmneohngadpeaaGreatDoor
