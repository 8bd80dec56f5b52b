/-
  Out of a graph: gather at numbers.
-/
import Derived.Test.YtbcegdiabnapkabDoorG3
namespace Go.Proofs.YtbcegdiabnapkabDoor
set_option linter.unusedVariables false
set_option linter.unusedSimpArgs false
open Go.RowKit

theorem ints_mono {B B' : Nat} {w : World} {v : Value} {l : List Nat} (h : Ints B w v l) (hb : B' ≤ B) : Ints B' w v l := by
  refine ⟨h.1, ?_⟩
  rcases h.2 with h1 | ⟨g, cap, cur, h1, h2, h3⟩
  · exact .inl h1
  · exact .inr ⟨g, cap, cur, h1, Nat.le_trans hb h2, h3⟩
/-- The label i is among some. -/
def lbit (labels : Int) (i : Nat) : Bool := bits BinOp.and IntKind.i64 (labels / 2 ^ i) 1 == 1
/-- One of the first k labels is among some, and an edge's. -/
def endsF (L : Nat → Nat → Nat) (f : Nat) (labels : Int) (k : Nat) : Nat → Bool := fun t => (List.range k).any fun i => lbit labels i && (L f t).testBit i
theorem endsF_succ (L : Nat → Nat → Nat) (f : Nat) (labels : Int) (k t : Nat) : endsF L f labels (k + 1) t = (endsF L f labels k t || (lbit labels k && (L f t).testBit k)) := by
  unfold endsF
  rw [List.range_succ, List.any_append]
  simp
theorem Graph.setAt {w : World} {b n r : Nat} {bk ck : Nat → Nat} {L : Nat → Nat → Nat} (h : Graph w b n r bk ck L) (f k : Nat) (hf : f < n) (hk : k < 4) : Is w (bk (4 * f + k)) n (ck (4 * f + k)) (fun t => (L f t).testBit k) := by
  have hs := h.sets (4 * f + k) (by omega)
  have e1 : (4 * f + k) / 4 = f := by omega
  have e2 : (4 * f + k) % 4 = k := by omega
  rw [e1, e2] at hs
  exact hs
end Go.Proofs.YtbcegdiabnapkabDoor
