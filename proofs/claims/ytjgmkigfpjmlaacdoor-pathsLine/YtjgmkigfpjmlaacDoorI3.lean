/-
  drawn: two graphs of the same edges.
-/
import Derived.Test.YtjgmkigfpjmlaacDoorG4
namespace Go.Proofs.YtjgmkigfpjmlaacDoor
set_option linter.unusedVariables false
set_option linter.unusedSimpArgs false
open Go.RowKit

theorem Graph.words {w : World} {b n r : Nat} {bk ck : Nat → Nat} {L : Nat → Nat → Nat} (h : Graph w b n r bk ck L) (k : Nat) (hk : k < 4 * n) : ∃ cs, w.heap[ck k]? = some (.cells cs 51) := by
  obtain ⟨ws, s1, s2⟩ := (h.sets k hk).ex
  exact ⟨_, s1.row⟩
/-- What is no block of words stays when words are written. -/
theorem Save.at {w w' : World} {b n r : Nat} {bk ck : Nat → Nat} {L : Nat → Nat → Nat} {f : Nat} (h : Graph w b n r bk ck L) (hf : f < n) (hs : Save (fun c => ∃ i, i < 4 ∧ c = ck (4 * f + i)) w w') {x : Nat} {cs : Array Value} {t : TypeId} (hx : w.heap[x]? = some (.cells cs t)) (ht : t ≠ 51) : w'.heap[x]? = some (.cells cs t) := by
  refine (hs.block x (blt hx) ?_).trans hx
  rintro ⟨i, hi, rfl⟩
  obtain ⟨cs', h1⟩ := h.words (4 * f + i) (by omega)
  exact tags hx h1 ht rfl
theorem addWhy_0 {n : Nat} {f t x : Int} (h : addWhy n f t x = 0) : ∃ F T X : Nat, f = F ∧ t = T ∧ x = X ∧ F < n ∧ T < n ∧ 1 ≤ X ∧ X < 16 ∧ F ≠ T := by
  unfold addWhy at h
  split at h
  · cases h
  · split at h
    · cases h
    · exact ⟨f.toNat, t.toNat, x.toNat, by omega, by omega, by omega, by omega, by omega, by omega, by omega, by omega⟩

end Go.Proofs.YtjgmkigfpjmlaacDoor
