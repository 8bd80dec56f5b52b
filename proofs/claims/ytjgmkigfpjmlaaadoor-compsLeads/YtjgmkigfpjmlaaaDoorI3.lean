/-
  drawn: two graphs of the same edges.
-/
import Derived.Test.YtjgmkigfpjmlaaaDoorI1
namespace Go.Proofs.YtjgmkigfpjmlaaaDoor
set_option linter.unusedVariables false
set_option linter.unusedSimpArgs false
open Go.RowKit

/-- A graph of the program and one of the document, alike, in blocks from H on. -/
def Both (H : Nat) (w : World) (b n b2 : Nat) : Prop :=
  ∃ r bk ck v rw' L, Graph w b n r bk ck L ∧ RefG w b2 n v rw' L ∧ (∀ k, k < 4 * n → H ≤ ck k) ∧ (∀ i, i < n → H ≤ rw' i)
theorem Both.later {H : Nat} {w w' : World} {b n b2 : Nat} (h : Both H w b n b2) (hb : Below w.heap.size w w') : Both H w' b n b2 := by
  obtain ⟨r, bk, ck, v, rw', L, h1, h2, h3⟩ := h
  exact ⟨r, bk, ck, v, rw', L, h1.later hb, h2.later hb, h3⟩
theorem Graph.words {w : World} {b n r : Nat} {bk ck : Nat → Nat} {L : Nat → Nat → Nat} (h : Graph w b n r bk ck L) (k : Nat) (hk : k < 4 * n) : ∃ cs, w.heap[ck k]? = some (.cells cs 102) := by
  obtain ⟨ws, s1, s2⟩ := (h.sets k hk).ex
  exact ⟨_, s1.row⟩
/-- What is no block of words stays when words are written. -/
theorem Save.at {w w' : World} {b n r : Nat} {bk ck : Nat → Nat} {L : Nat → Nat → Nat} {f : Nat} (h : Graph w b n r bk ck L) (hf : f < n) (hs : Save (fun c => ∃ i, i < 4 ∧ c = ck (4 * f + i)) w w') {x : Nat} {cs : Array Value} {t : TypeId} (hx : w.heap[x]? = some (.cells cs t)) (ht : t ≠ 102) : w'.heap[x]? = some (.cells cs t) := by
  refine (hs.block x (blt hx) ?_).trans hx
  rintro ⟨i, hi, rfl⟩
  obtain ⟨cs', h1⟩ := h.words (4 * f + i) (by omega)
  exact tags hx h1 ht rfl
theorem RefG.save {w w' : World} {b n r : Nat} {bk ck : Nat → Nat} {L : Nat → Nat → Nat} {f : Nat} (h : Graph w b n r bk ck L) (hf : f < n) (hs : Save (fun c => ∃ i, i < 4 ∧ c = ck (4 * f + i)) w w') {b2 : Nat} {v : Value} {rw' : Nat → Nat} {L' : Nat → Nat → Nat} (h2 : RefG w b2 n v rw' L') : RefG w' b2 n v rw' L' := by
  refine ⟨Save.at h hf hs h2.box (by decide), ⟨h2.rows.1, ?_⟩, fun i hi => ?_, h2.apart, h2.small, h2.bound⟩
  · rcases h2.rows.2 with h1 | ⟨g, cap, cur, h1, h3, h4, h5⟩
    · exact .inl h1
    · exact .inr ⟨g, cap, cur, h1, h3, Save.at h hf hs h4 (by decide), h5⟩
  · obtain ⟨cur, h1, h3⟩ := h2.each i hi
    exact ⟨cur, Save.at h hf hs h1 (by decide), h3⟩
/-- A row of the document's graph is written: what is no block of ints stays. -/
theorem RefG.at {w w' : World} {b2 n : Nat} {v : Value} {rw' : Nat → Nat} {L : Nat → Nat → Nat} {f : Nat} (h : RefG w b2 n v rw' L) (hf : f < n) (hs : Beside (rw' f) w w') {x : Nat} {cs : Array Value} {t : TypeId} (hx : w.heap[x]? = some (.cells cs t)) (ht : t ≠ 3) : w'.heap[x]? = some (.cells cs t) := by
  obtain ⟨cur, h1, _⟩ := h.each f hf
  exact (hs.block x (blt hx) (tags hx h1 ht)).trans hx
theorem Graph.beside_row {w w' : World} {b2 n : Nat} {v : Value} {rw' : Nat → Nat} {L : Nat → Nat → Nat} {f : Nat} (h : RefG w b2 n v rw' L) (hf : f < n) (hs : Beside (rw' f) w w') {b r : Nat} {bk ck : Nat → Nat} {L' : Nat → Nat → Nat} (h2 : Graph w b n r bk ck L') : Graph w' b n r bk ck L' := by
  obtain ⟨cur, h3, h4⟩ := h2.row
  refine ⟨h.at hf hs h2.box (by decide), ⟨cur, h.at hf hs h3 (by decide), h4⟩, fun k hk => ?_, h2.apart, h2.small, h2.bound⟩
  obtain ⟨ws, s1, s2⟩ := (h2.sets k hk).ex
  exact ⟨⟨ws, ⟨h.at hf hs s1.box (by decide), h.at hf hs s1.row (by decide), s1.len, s1.small, s1.bound⟩, s2⟩, (h2.sets k hk).top⟩
theorem addWhy_0 {n : Nat} {f t x : Int} (h : addWhy n f t x = 0) : ∃ F T X : Nat, f = F ∧ t = T ∧ x = X ∧ F < n ∧ T < n ∧ 1 ≤ X ∧ X < 16 ∧ F ≠ T := by
  unfold addWhy at h
  split at h
  · cases h
  · split at h
    · cases h
    · exact ⟨f.toNat, t.toNat, x.toNat, by omega, by omega, by omega, by omega, by omega, by omega, by omega, by omega⟩
end Go.Proofs.YtjgmkigfpjmlaaaDoor
