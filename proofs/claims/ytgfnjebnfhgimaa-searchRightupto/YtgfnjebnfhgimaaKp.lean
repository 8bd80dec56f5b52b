/-
  Times along an order, plain: what keepsTime knows behind k rounds.
-/
import Derived.Test.YtgfnjebnfhgimaaSr
import Derived.Test.YtgfnjebnfhgimaaBi
namespace Go.Proofs.Ytgfnjebnfhgimaa
set_option linter.unusedVariables false
set_option linter.unusedSimpArgs false
open Go.RowKit Go.Lib Go.Maps Go.Shelf
open Tx (MTxn TxnsIn TxnRow)

abbrev atO (l : List MTxn) (ord : List Int) (i : Nat) : MTxn := txO l (ord.getD i 0)
/-- Among the last k, none stands behind what it ended ahead of. -/
def noA (l : List MTxn) (ord : List Int) (k : Nat) : Prop := ∀ q i, ord.length - k ≤ i → i < q → q < ord.length → aheadM (atO l ord q) (atO l ord i) = false
/-- The one of the last k that ended first. -/
def best (l : List MTxn) (ord : List Int) (k : Nat) (f : Int) : Prop :=
  (f = -1 ∧ ∀ i, ord.length - k ≤ i → i < ord.length → endM (atO l ord i) = false) ∨
  (∃ q, ord.length - k ≤ q ∧ q < ord.length ∧ f = ord.getD q 0 ∧ endM (atO l ord q) = true ∧ ∀ i, ord.length - k ≤ i → i < ord.length → endM (atO l ord i) = true → (atO l ord q).till ≤ (atO l ord i).till)
theorem ahead_end (a b : MTxn) : aheadM a b = (endM a && decide (a.till < b.since)) := rfl
theorem noA_next {l : List MTxn} {ord : List Int} {k j0 : Nat} (hk : k < ord.length) (hj : ord.length - 1 - k = j0) (h : noA l ord k) (hq : ∀ q, j0 < q → q < ord.length → aheadM (atO l ord q) (atO l ord j0) = false) : noA l ord (k + 1) := fun q i h1 h2 h3 => by
  by_cases e : i = j0
  · rw [e]; exact hq q (by omega) h3
  · exact h q i (by omega) h2 h3
theorem none_free {l : List MTxn} {ord : List Int} {k j0 : Nat} (hk : k < ord.length) (hj : ord.length - 1 - k = j0) (h : ∀ i, ord.length - k ≤ i → i < ord.length → endM (atO l ord i) = false) : ∀ q, j0 < q → q < ord.length → aheadM (atO l ord q) (atO l ord j0) = false := fun q h1 h2 => by
  rw [ahead_end, h q (by omega) h2]; rfl
theorem some_free {l : List MTxn} {ord : List Int} {k j0 q0 : Nat} (hk : k < ord.length) (hj : ord.length - 1 - k = j0) (he : endM (atO l ord q0) = true) (h : ∀ i, ord.length - k ≤ i → i < ord.length → endM (atO l ord i) = true → (atO l ord q0).till ≤ (atO l ord i).till)
    (ha : aheadM (atO l ord q0) (atO l ord j0) = false) : ∀ q, j0 < q → q < ord.length → aheadM (atO l ord q) (atO l ord j0) = false := fun q h1 h2 => by
  rw [ahead_end] at ha ⊢
  rw [he, Bool.true_and, decide_eq_false_iff_not] at ha
  cases hE : endM (atO l ord q) with
  | false => rfl
  | true =>
    have := h q (by omega) h2 hE
    rw [Bool.true_and, decide_eq_false_iff_not]
    omega
theorem best_skip {l : List MTxn} {ord : List Int} {k j0 : Nat} {f : Int} (hk : k < ord.length) (hj : ord.length - 1 - k = j0) (h : best l ord k f) (he : endM (atO l ord j0) = false) : best l ord (k + 1) f := by
  rcases h with ⟨h1, h2⟩ | ⟨q, h1, h2, h3, h4, h5⟩
  · refine .inl ⟨h1, fun i a b => ?_⟩
    by_cases e : i = j0
    · rw [e]; exact he
    · exact h2 i (by omega) b
  · refine .inr ⟨q, by omega, h2, h3, h4, fun i a b c => ?_⟩
    by_cases e : i = j0
    · rw [e, he] at c; cases c
    · exact h5 i (by omega) b c
theorem best_first {l : List MTxn} {ord : List Int} {k j0 : Nat} (hk : k < ord.length) (hj : ord.length - 1 - k = j0) (h : ∀ i, ord.length - k ≤ i → i < ord.length → endM (atO l ord i) = false) (he : endM (atO l ord j0) = true) : best l ord (k + 1) (ord.getD j0 0) := by
  refine .inr ⟨j0, by omega, by omega, rfl, he, fun i a b c => ?_⟩
  by_cases e : i = j0
  · rw [e]; exact Int.le_refl _
  · rw [h i (by omega) b] at c; cases c
theorem best_less {l : List MTxn} {ord : List Int} {k j0 q0 : Nat} (hk : k < ord.length) (hj : ord.length - 1 - k = j0) (h : ∀ i, ord.length - k ≤ i → i < ord.length → endM (atO l ord i) = true → (atO l ord q0).till ≤ (atO l ord i).till) (he : endM (atO l ord j0) = true) (hlt : (atO l ord j0).till < (atO l ord q0).till) : best l ord (k + 1) (ord.getD j0 0) := by
  refine .inr ⟨j0, by omega, by omega, rfl, he, fun i a b c => ?_⟩
  by_cases e : i = j0
  · rw [e]; exact Int.le_refl _
  · have := h i (by omega) b c; omega
theorem best_more {l : List MTxn} {ord : List Int} {k j0 q0 : Nat} (hk : k < ord.length) (hj : ord.length - 1 - k = j0) (h1 : ord.length - k ≤ q0) (h2 : q0 < ord.length) (h4 : endM (atO l ord q0) = true) (h : ∀ i, ord.length - k ≤ i → i < ord.length → endM (atO l ord i) = true → (atO l ord q0).till ≤ (atO l ord i).till) (hlt : ¬ (atO l ord j0).till < (atO l ord q0).till) : best l ord (k + 1) (ord.getD q0 0) := by
  refine .inr ⟨q0, by omega, h2, rfl, h4, fun i a b c => ?_⟩
  by_cases e : i = j0
  · rw [e]; omega
  · exact h i (by omega) b c
/-- The blocks of keepsTime's answer and of its first. -/
def PF (s b : Nat) : Prop := b = s + 1 ∨ b = s + 2
structure KJ (s : Nat) (w4 : World) (l : List MTxn) (ord : List Int) (k : Nat) (f : Int) (W : World) : Prop where
  fst : W.heap[s + 2]? = some (.cells #[.int .i64 f] 3)
  ans : W.heap[s + 1]? = some (.cells #[.bool false] 4)
  bst : best l ord k f
  non : noA l ord k
  kp : KeepP (PF s) (s + 4) w4 W
section
variable {s k k' : Nat} {w4 W V : World} {l : List MTxn} {ord : List Int} {f f' : Int}
theorem keepP_below (hb : Below W.heap.size W V) (hs : s + 4 ≤ W.heap.size) : KeepP (PF s) (s + 4) W V := ⟨hb.os, hb.tape, hb.output, hb.size, fun b hb' _ => hb.block b (by omega)⟩
theorem keepP_set (v : Value) (i : Nat) (hi : PF s i) : KeepP (PF s) (s + 4) V (V.setCell ⟨i, 0, none⟩ v) := ⟨rfl, rfl, rfl, by unfold World.setCell; simp, fun b hb' hn => Below.heap_setCell _ _ _ _ (fun e => hn (by have e' : b = i := e; rw [e']; exact hi))⟩
theorem keepsFrom_below {B : Nat} (hb : Below W.heap.size W V) : KeepsFrom B W V := ⟨hb.size, fun k o _ hk _ => (hb.block k (blt hk)).trans hk⟩
theorem KJ.keep (h : KJ s w4 l ord k f W) (hb : Below W.heap.size W V) (hs : s + 4 ≤ W.heap.size) (hB : best l ord k' f) (hn : noA l ord k') : KJ s w4 l ord k' f V :=
  ⟨(hb.block _ (by omega)).trans h.fst, (hb.block _ (by omega)).trans h.ans, hB, hn, h.kp.trans (keepP_below hb hs)⟩
theorem KJ.set (h : KJ s w4 l ord k f W) (hb : Below W.heap.size W V) (hs : s + 4 ≤ W.heap.size) (hB : best l ord k' f') (hn : noA l ord k') : KJ s w4 l ord k' f' (V.setCell ⟨s + 2, 0, none⟩ (.int .i64 f')) :=
  ⟨by rw [Go.Joins.block_setCell ((hb.block _ (by omega)).trans h.fst)]; rfl, (Below.heap_setCell _ _ _ _ (by show s + 1 ≠ s + 2; omega)).trans ((hb.block _ (by omega)).trans h.ans), hB, hn, (h.kp.trans (keepP_below hb hs)).trans (keepP_set _ _ (.inr rfl))⟩
theorem KJ.put (h : KJ s w4 l ord k f W) (r : Nat) (o : Obj) (hr : s + 4 ≤ r) : KJ s w4 l ord k f (W.putObj r o) :=
  ⟨(World.putObj_heap_other (by omega)).trans h.fst, (World.putObj_heap_other (by omega)).trans h.ans, h.bst, h.non, h.kp.trans (KeepP.put W r o hr)⟩
theorem cell_at {w : World} (hs : w.heap.size = s) (hb : Below s w w4) (hk : KeepP (PF s) (s + 4) w4 W) {b i : Nat} {v : Value} (h : w.cell? ⟨b, i, none⟩ = some v) : W.cell? ⟨b, i, none⟩ = some v := by
  have hlt : b < s := by have := World.block_lt_of_cell? _ _ h; rw [← hs]; exact this
  exact hk.cell (by omega) (fun c => by rcases c with c | c <;> omega) ((hb.cell (p := ⟨b, i, none⟩) hlt).trans h)
end
end Go.Proofs.Ytgfnjebnfhgimaa
