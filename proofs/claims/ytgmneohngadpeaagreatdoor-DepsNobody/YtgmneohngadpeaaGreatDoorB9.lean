/-
  List: a set's numbers, rising.
-/
import Derived.Test.YtgmneohngadpeaaGreatDoorB8
import Derived.Deep.AppendLies
namespace Go.Proofs.YtgmneohngadpeaaGreatDoor
set_option linter.unusedVariables false
set_option linter.unusedSimpArgs false
open Go.RowKit

theorem Tryz.info3 : (Tryz.prog.info? 3).map (fun i => (i.zero, i.size, i.bytes)) = some (some (.int .i64 0), 1, 8) := by kernel_rfl
/-- The numbers below n that f tells, rising. -/
def lst (f : Nat → Bool) (n : Nat) : List Nat := (List.range n).filter f
theorem lst_len (f : Nat → Bool) (n : Nat) : (lst f n).length = Pop.cnt f n := by
  induction n with
  | zero => rfl
  | succ n ih =>
    unfold lst at *
    rw [List.range_succ, List.filter_append, List.length_append, ih]
    show _ = Pop.cnt f n + (f n).toNat
    congr 1
    cases h : f n
    · rw [List.filter_cons_of_neg (by simp [h])]; rfl
    · rw [List.filter_cons_of_pos h]; rfl
theorem lst_le (f : Nat → Bool) (n : Nat) : (lst f n).length ≤ n := by rw [lst_len]; exact Pop.cnt_le f n
theorem lst_gap (f : Nat → Bool) (p q : Nat) (h : p ≤ q) (hn : ∀ k, p ≤ k → k < q → f k = false) : lst f q = lst f p := by
  obtain ⟨m, rfl⟩ : ∃ m, q = p + m := ⟨q - p, by omega⟩
  clear h
  induction m with
  | zero => rfl
  | succ m ih =>
    have h1 := ih fun k h1 h2 => hn k h1 (by omega)
    have h2 := hn (p + m) (by omega) (by omega)
    unfold lst at *
    rw [← Nat.add_assoc, List.range_succ, List.filter_append, h1]
    simp [h2]
theorem lst_step (f : Nat → Bool) (p j : Nat) (h : p ≤ j) (hj : f j = true) (hn : ∀ k, p ≤ k → k < j → f k = false) : lst f (j + 1) = lst f p ++ [j] := by
  have h1 := lst_gap f p j h hn
  unfold lst at *
  rw [List.range_succ, List.filter_append, h1]
  simp [hj]

/-- Numbers as cells. -/
def intsV (l : List Nat) : List Value := l.map fun x : Nat => Value.int .i64 x
/-- A slice of numbers of one's own, in blocks from B on. -/
def Ints (B : Nat) (w : World) (v : Value) (l : List Nat) : Prop := w.ownsRow B 3 1 v l.length (intsV l)
theorem Ints.later {B : Nat} {w w' : World} {v : Value} {l : List Nat} (h : Ints B w v l) (hb : Below w.heap.size w w') : Ints B w' v l :=
  World.ownsRow.kept (row := none) h ⟨hb.os, hb.tape, hb.output, hb.size, fun k hk _ => hb.block k hk⟩ (by cases hq : v.ownBlock with | none => exact .inl rfl | some g => exact .inr (by simp))
end Go.Proofs.YtgmneohngadpeaaGreatDoor
