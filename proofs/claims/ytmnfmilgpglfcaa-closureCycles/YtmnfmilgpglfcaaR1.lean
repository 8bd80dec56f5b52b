/-
  The document's sets: what they look like in memory; New, Add, Drop, Has.
-/
import Derived.Test.YtmnfmilgpglfcaaB10
namespace Go.Proofs.Ytmnfmilgpglfcaa
set_option linter.unusedVariables false
set_option linter.unusedSimpArgs false
open Go.RowKit

/-- Blocks of other types are others. -/
theorem tags {w : World} {a b : Nat} {c1 c2 : Array Value} {t1 t2 : TypeId} (h1 : w.heap[a]? = some (.cells c1 t1)) (h2 : w.heap[b]? = some (.cells c2 t2)) (ht : t1 ≠ t2) : a ≠ b := by
  rintro rfl
  have e := h1.symm.trans h2
  injection e with e
  injection e with e1 e2
  exact ht e2
theorem Is.beside_set {w w' : World} {b n c : Nat} {f : Nat → Bool} (h : Is w b n c f) {b' n' c' : Nat} {g : Nat → Bool} (hs : Is w b' n' c' g) (hc : c ≠ c') (hb : Beside c' w w') : Is w' b n c f := by
  obtain ⟨ws, s1, s2⟩ := h.ex
  obtain ⟨vs, v1, v2⟩ := hs.ex
  exact h.beside hb (tags s1.box v1.row (by decide)) hc
theorem made_bools (m : Nat) : madeCells #[Value.bool false] m = Array.replicate m (Value.bool false) := by
  apply Array.ext
  · simp [madeCells]
  · intro i h1 h2
    have h0 : i % 1 = 0 := by omega
    simp [madeCells, h0]
end Go.Proofs.Ytmnfmilgpglfcaa
