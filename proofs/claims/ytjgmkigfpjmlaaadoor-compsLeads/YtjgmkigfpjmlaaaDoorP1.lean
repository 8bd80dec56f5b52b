/-
  The queue of the search: put and take.
-/
import Derived.Test.YtjgmkigfpjmlaaaDoorI3
import Derived.Test.YtjgmkigfpjmlaaaDoorDist
import Derived.ArgAppend
import Derived.Lib.Walk
namespace Go.Proofs.YtjgmkigfpjmlaaaDoor
set_option linter.unusedVariables false
set_option linter.unusedSimpArgs false
open Go.RowKit

/-- w' is w but for blocks of P and new ones. -/
structure Gro (P : Nat → Prop) (w w' : World) : Prop where
  os : w'.os = w.os
  tape : w'.tape = w.tape
  output : w'.output = w.output
  size : w.heap.size ≤ w'.heap.size
  block : ∀ k, k < w.heap.size → ¬ P k → w'.heap[k]? = w.heap[k]?
theorem Gro.refl (P : Nat → Prop) (w : World) : Gro P w w := ⟨rfl, rfl, rfl, Nat.le_refl _, fun _ _ _ => rfl⟩
theorem Gro.trans {P : Nat → Prop} {w w1 w2 : World} (h : Gro P w w1) (h2 : Gro P w1 w2) : Gro P w w2 :=
  ⟨h2.os.trans h.os, h2.tape.trans h.tape, h2.output.trans h.output, Nat.le_trans h.size h2.size, fun k hk hn => (h2.block k (Nat.lt_of_lt_of_le hk h.size) hn).trans (h.block k hk hn)⟩
theorem Gro.at {P : Nat → Prop} {w w' : World} (h : Gro P w w') {x : Nat} {cs : Array Value} {t : TypeId} {fr : Nat × Nat} (hx : w.heap[x]? = some (.cells cs t fr)) (hn : ¬ P x) : w'.heap[x]? = some (.cells cs t fr) :=
  (h.block x (blt hx) hn).trans hx
theorem Gro.below {P : Nat → Prop} {w w' : World} (h : Gro P w w') (H : Nat) (hH : ∀ k, P k → H ≤ k) (hs : H ≤ w.heap.size) : Below H w w' :=
  ⟨h.os, h.tape, h.output, h.size, fun k hk => h.block k (by omega) (fun hp => by have := hH k hp; omega)⟩
theorem Gro.of_below {P : Nat → Prop} {w w' : World} (h : Below w.heap.size w w') : Gro P w w' := ⟨h.os, h.tape, h.output, h.size, fun k hk _ => h.block k hk⟩

/-- A slice of numbers, not from its block's beginning on, in a block of P. -/
def Part (P : Nat → Prop) (w : World) (v : Value) (l : List Int) : Prop :=
  (v = .slice none 0 0 ∧ l = []) ∨ ∃ g off cap cur, v = .slice (some ⟨g, off, none⟩) l.length cap ∧ P g ∧ w.heap[g]? = some (.cells cur 3) ∧ l.length ≤ cap ∧ cap ≤ maxLen ∧ off + cap ≤ cur.size ∧ ∀ j, j < l.length → cur[off + j]? = some (.int .i64 (l.getD j 0))
theorem Part.gro {P Q : Nat → Prop} {w w' : World} {v : Value} {l : List Int} (h : Part P w v l) (hg : Gro Q w w') (hn : ∀ k, P k → ¬ Q k) : Part P w' v l := by
  rcases h with h | ⟨g, off, cap, cur, h1, h2, h3, h4⟩
  · exact .inl h
  · exact .inr ⟨g, off, cap, cur, h1, h2, hg.at h3 (hn g h2), h4⟩
theorem Tryd.info3i : (Tryd.prog.info? 3).map (fun i => (i.zero, i.size, i.bytes)) = some (some (.int .i64 0), 1, 8) := by kernel_rfl
end Go.Proofs.YtjgmkigfpjmlaaaDoor
