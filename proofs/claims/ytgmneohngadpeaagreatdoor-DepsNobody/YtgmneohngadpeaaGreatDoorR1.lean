/-
  The document's sets: what they look like in memory; New, Add, Drop, Has.
-/
import Derived.Test.YtgmneohngadpeaaGreatDoorB10
namespace Go.Proofs.YtgmneohngadpeaaGreatDoor
set_option linter.unusedVariables false
set_option linter.unusedSimpArgs false
open Go.RowKit

theorem Tryz.info4 : (Tryz.prog.info? 4).map (fun i => (i.zero, i.size, i.bytes)) = some (some (.bool false), 1, 1) := by kernel_rfl
/-- The document's set of the numbers below n that f tells, in block b, its row in block c. -/
structure Ref (w : World) (b n c : Nat) (f : Nat → Bool) : Prop where
  ex : ∃ cur : Array Value, w.heap[b]? = some (.cells #[.slice (some ⟨c, 0, none⟩) n cur.size] 47) ∧ w.heap[c]? = some (.cells cur 4) ∧ n ≤ cur.size ∧ ∀ j, j < n → cur[j]? = some (.bool (f j))
  top : ∀ i, n ≤ i → f i = false
  bound : n ≤ 4096
/-- Blocks of other types are others. -/
theorem tags {w : World} {a b : Nat} {c1 c2 : Array Value} {t1 t2 : TypeId} (h1 : w.heap[a]? = some (.cells c1 t1)) (h2 : w.heap[b]? = some (.cells c2 t2)) (ht : t1 ≠ t2) : a ≠ b := by
  rintro rfl
  have e := h1.symm.trans h2
  injection e with e
  injection e with e1 e2
  exact ht e2
theorem Ref.later {w w' : World} {b n c : Nat} {f : Nat → Bool} (h : Ref w b n c f) (hb : Below w.heap.size w w') : Ref w' b n c f := by
  obtain ⟨cur, h1, h2, h3, h4⟩ := h.ex
  exact ⟨⟨cur, (hb.block b (blt h1)).trans h1, (hb.block c (blt h2)).trans h2, h3, h4⟩, h.top, h.bound⟩
theorem Ref.drewN {w : World} {b n c : Nat} {f : Nat → Bool} (h : Ref w b n c f) (q : Nat) : Ref (w.drewN q) b n c f := h.later (below_drewN (Below.refl _ _) q)
/-- A store into a set's words leaves the document's set. -/
theorem Ref.beside_set {w w' : World} {b n c : Nat} {f : Nat → Bool} (h : Ref w b n c f) {b' n' c' : Nat} {g : Nat → Bool} (hs : Is w b' n' c' g) (hb : Beside c' w w') : Ref w' b n c f := by
  obtain ⟨cur, h1, h2, h3, h4⟩ := h.ex
  obtain ⟨ws, s1, s2⟩ := hs.ex
  exact ⟨⟨cur, (hb.block b (blt h1) (tags h1 s1.row (by decide))).trans h1, (hb.block c (blt h2) (tags h2 s1.row (by decide))).trans h2, h3, h4⟩, h.top, h.bound⟩
theorem Is.beside_ref {w w' : World} {b n c : Nat} {f : Nat → Bool} (h : Is w b n c f) {b' n' c' : Nat} {g : Nat → Bool} (hs : Ref w b' n' c' g) (hb : Beside c' w w') : Is w' b n c f := by
  obtain ⟨cur, h1, h2, h3, h4⟩ := hs.ex
  obtain ⟨ws, s1, s2⟩ := h.ex
  exact h.beside hb (tags s1.box h2 (by decide)) (tags s1.row h2 (by decide))
theorem Is.beside_set {w w' : World} {b n c : Nat} {f : Nat → Bool} (h : Is w b n c f) {b' n' c' : Nat} {g : Nat → Bool} (hs : Is w b' n' c' g) (hc : c ≠ c') (hb : Beside c' w w') : Is w' b n c f := by
  obtain ⟨ws, s1, s2⟩ := h.ex
  obtain ⟨vs, v1, v2⟩ := hs.ex
  exact h.beside hb (tags s1.box v1.row (by decide)) hc
theorem Ref.beside_ref {w w' : World} {b n c : Nat} {f : Nat → Bool} (h : Ref w b n c f) {b' n' c' : Nat} {g : Nat → Bool} (hs : Ref w b' n' c' g) (hc : c ≠ c') (hb : Beside c' w w') : Ref w' b n c f := by
  obtain ⟨cur, h1, h2, h3, h4⟩ := h.ex
  obtain ⟨cur2, k1, k2, k3, k4⟩ := hs.ex
  exact ⟨⟨cur, (hb.block b (blt h1) (tags h1 k2 (by decide))).trans h1, (hb.block c (blt h2) hc).trans h2, h3, h4⟩, h.top, h.bound⟩

theorem made_bools (m : Nat) : madeCells #[Value.bool false] m = Array.replicate m (Value.bool false) := by
  apply Array.ext
  · simp [madeCells]
  · intro i h1 h2
    have h0 : i % 1 = 0 := by omega
    simp [madeCells, h0]
/-- What a walk reads of the document's set. -/
theorem Ref.cells {w : World} {b n c : Nat} {f : Nat → Bool} (h : Ref w b n c f) : ∃ cap, n ≤ cap ∧ w.cell? ⟨b, 0, none⟩ = some (.slice (some ⟨c, 0, none⟩) n cap) ∧ (∀ j, j < n → w.cell? ⟨c, j, none⟩ = some (.bool (f j))) ∧ ∀ j, w.frozen? ⟨c, j, none⟩ = false := by
  obtain ⟨cur, h1, h2, h3, h4⟩ := h.ex
  exact ⟨cur.size, h3, Lib.cell_of_heap h1 0, fun j hj => (Lib.cell_of_heap h2 j).trans (h4 j hj), fun j => Lib.frozen_of_heap h2 j⟩
theorem Ref.put {w : World} {b n c : Nat} {f : Nat → Bool} (h : Ref w b n c f) (j : Nat) (t : Bool) (hj : j < n) : Ref (w.setCell ⟨c, j, none⟩ (.bool t)) b n c (fun k => if k = j then t else f k) := by
  obtain ⟨cur, h1, h2, h3, h4⟩ := h.ex
  refine ⟨⟨cur.setIfInBounds j (.bool t), ?_, Go.Joins.block_setCell h2 _, by simpa using h3, fun k hk => ?_⟩, fun k hk => ?_, h.bound⟩
  · rw [Below.heap_setCell _ _ _ _ (tags h1 h2 (by decide))]
    simpa using h1
  · rw [Array.getElem?_setIfInBounds]
    by_cases e : j = k
    · subst e
      simp
      omega
    · rw [if_neg e, if_neg (fun e' => e e'.symm)]
      exact h4 k hk
  · rw [if_neg (by omega)]
    exact h.top k hk
end Go.Proofs.YtgmneohngadpeaaGreatDoor
