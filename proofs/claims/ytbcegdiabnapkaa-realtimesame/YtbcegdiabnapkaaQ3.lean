/-
  The order of beginnings: plain, and the sort of none.
-/
import Derived.Test.YtbcegdiabnapkaaQ2
import Derived.Shelf.SlSortCmp.NoneTotal
namespace Go.Proofs.Ytbcegdiabnapkaa
set_option linter.unusedVariables false
set_option linter.unusedSimpArgs false
open Go.RowKit Go.Lib

/-- The transactions that are ok. -/
def okL (f : Nat → LT) (n : Nat) : List Nat := (List.range n).filter (fun j => decide ((f j).state = 1))
theorem okL_succ (f : Nat → LT) (n : Nat) : okL f (n + 1) = okL f n ++ (if (f n).state = 1 then [n] else []) := by
  unfold okL
  rw [List.range_succ, List.filter_append]
  by_cases h : (f n).state = 1 <;> simp [h]
theorem okL_mem (f : Nat → LT) (n j : Nat) : j ∈ okL f n ↔ j < n ∧ (f j).state = 1 := by simp [okL]
theorem okL_len (f : Nat → LT) (n : Nat) : (okL f n).length ≤ n := by
  have := List.length_filter_le (fun j => decide ((f j).state = 1)) (List.range n)
  simpa [okL] using this

/-- Of those from i on the one that ends first; -1: none ends. -/
def Fst (f : Nat → LT) (q : Nat) (t : Nat → Nat) (i : Nat) (x : Int) : Prop := (x = -1 ∧ ∀ j, i ≤ j → j < q → (f (t j)).till < 0) ∨ (∃ j, i ≤ j ∧ j < q ∧ x = (t j : Int) ∧ 0 ≤ (f (t j)).till ∧ ∀ k, i ≤ k → k < q → 0 ≤ (f (t k)).till → (f (t j)).till ≤ (f (t k)).till)
section
variable {f : Nat → LT} {q : Nat} {t : Nat → Nat} {i : Nat} {x : Int}
theorem Fst.none (f : Nat → LT) (q : Nat) (t : Nat → Nat) : Fst f q t q (-1) := .inl ⟨rfl, fun j h1 h2 => by omega⟩
theorem Fst.keep (h : Fst f q t (i + 1) x) (hn : (f (t i)).till < 0) : Fst f q t i x := by
  rcases h with ⟨rfl, h⟩ | ⟨j, h1, h2, h3, h4, h5⟩
  · refine .inl ⟨rfl, fun j h1 h2 => ?_⟩
    by_cases e : j = i
    · subst e; exact hn
    · exact h j (by omega) h2
  · refine .inr ⟨j, by omega, h2, h3, h4, fun k h6 h7 h8 => ?_⟩
    by_cases e : k = i
    · subst e; omega
    · exact h5 k (by omega) h7 h8
theorem Fst.new (h : Fst f q t (i + 1) (-1)) (hi : i < q) (hn : 0 ≤ (f (t i)).till) : Fst f q t i (t i) := by
  rcases h with ⟨_, h⟩ | ⟨j, h1, h2, h3, h4, h5⟩
  · refine .inr ⟨i, Nat.le_refl _, hi, rfl, hn, fun k h6 h7 h8 => ?_⟩
    by_cases e : k = i
    · subst e; exact Int.le_refl _
    · have := h k (by omega) h7; omega
  · omega
theorem Fst.less {j : Nat} (h : Fst f q t (i + 1) (j : Int)) (hi : i < q) (hn : 0 ≤ (f (t i)).till) (hl : (f (t i)).till < (f j).till) : Fst f q t i (t i) := by
  rcases h with ⟨h, _⟩ | ⟨j', h1, h2, h3, h4, h5⟩
  · omega
  · have e : j = t j' := by omega
    subst e
    refine .inr ⟨i, Nat.le_refl _, hi, rfl, hn, fun k h6 h7 h8 => ?_⟩
    by_cases e : k = i
    · subst e; exact Int.le_refl _
    · have := h5 k (by omega) h7 h8; omega
theorem Fst.stay {j : Nat} (h : Fst f q t (i + 1) (j : Int)) (hl : ¬ (f (t i)).till < (f j).till) : Fst f q t i (j : Int) := by
  rcases h with ⟨h, _⟩ | ⟨j', h1, h2, h3, h4, h5⟩
  · omega
  · have e : j = t j' := by omega
    subst e
    refine .inr ⟨j', by omega, h2, rfl, h4, fun k h6 h7 h8 => ?_⟩
    by_cases e : k = i
    · subst e; omega
    · exact h5 k (by omega) h7 h8
/-- It is none, or a transaction. -/
theorem Fst.cases (h : Fst f q t i x) : x = -1 ∨ ∃ j, i ≤ j ∧ j < q ∧ x = (t j : Int) := by
  rcases h with ⟨h, _⟩ | ⟨j, h1, h2, h3, _⟩
  · exact .inl h
  · exact .inr ⟨j, h1, h2, h3⟩
end
/-- The order of beginnings. -/
structure Sts (f : Nat → LT) (n q : Nat) (t : Nat → Nat) (fs : Nat → Int) : Prop where
  perm : ((List.range q).map t).Perm (okL f n)
  sorted : ∀ i j, i < j → j < q → (f (t i)).since ≤ (f (t j)).since
  first : ∀ i, i < q → Fst f q t i (fs i)
/-- Starts in a slice. -/
def Ls (w : World) (ao : Option Addr) (q : Nat) (h : Nat → Int × Int) : Prop := ∀ i, i < q → ∃ b o, ao = some ⟨b, o, none⟩ ∧ b < w.heap.size ∧ w.cell? ⟨b, o + i * 2, none⟩ = some (.int .i64 (h i).1) ∧ w.cell? ⟨b, o + i * 2 + 1, none⟩ = some (.int .i64 (h i).2)
theorem Ls.later {w w' : World} {ao : Option Addr} {q : Nat} {h : Nat → Int × Int} (H : Ls w ao q h) (hb : Below w.heap.size w w') : Ls w' ao q h := fun i hi => by
  obtain ⟨b, o, h1, h2, h3, h4⟩ := H i hi
  exact ⟨b, o, h1, Nat.lt_of_lt_of_le h2 hb.size, (hb.cell (p := ⟨b, o + i * 2, none⟩) h2).trans h3, (hb.cell (p := ⟨b, o + i * 2 + 1, none⟩) h2).trans h4⟩
/-- What 'starts' comes to. -/
def StartsPost (f : Nat → LT) (n : Nat) (w : World) (e : Ending) (w' : World) : Prop := ∃ ao q c t fs, e = .returned (.slice ao q c) ∧ q ≤ c ∧ q ≤ n ∧ Sts f n q t fs ∧ Ls w' ao q (fun i => ((t i : Int), fs i)) ∧ Below w.heap.size w w'

set_option maxHeartbeats 1000000 in
/-- slices.SortStableFunc of none. -/
theorem sort_none (fv : Value) (w : World) : Calls Try.prog 38 #[.slice none 0 0, fv] w fun e w' => e = .returned (.tuple #[]) ∧ w = w' := by
  have C : ∀ W, Calls Try.prog 57 #[.slice none 0 0, .int .i64 0, .int .i64 0, fv] W fun e w' => e = .returned (.tuple #[]) ∧ W = w' := fun W => (AnyF.insertionSortCmpFunc_none Try.ins57 none 0 fv W).mono fun _ _ ⟨h1, h2⟩ => ⟨h1, h2.symm⟩
  have D : Calls Try.prog 46 #[.slice none 0 0, .int .i64 0, fv] w fun e w' => e = .returned (.tuple #[]) ∧ w = w' := by
    go_enter Try.func46, Try.ntmps46
    go_wp2_with fail
    go_loopg [7, 8] 1 (fun kx s7 s8 wr => s7 = .int .i64 0 ∧ s8 = .int .i64 20 ∧ w = wr)
    case atStart => exact ⟨rfl, rfl, rfl⟩
    case round =>
      obtain ⟨rfl, rfl, rfl⟩ := hrel
      go_wp2_with (go_at_call 57; refine (C _).mono ?_; rintro e w' ⟨rfl, rfl⟩)
      go_loopg [6, 7, 8, 9] 1 (fun kx s6 s7 s8 s9 wr2 => s6 = .int .i64 20 ∧ w = wr2)
      case atStart => exact ⟨rfl, rfl⟩
      case round =>
        obtain ⟨rfl, rfl⟩ := hrel
        go_wp2_with fail
        go_end0
        exact ⟨rfl, rfl⟩
  go_enter Try.func38, Try.ntmps38
  go_wp2_with (go_at_call 46; refine D.mono ?_; rintro e w' ⟨rfl, rfl⟩)
  go_end0
  exact ⟨rfl, rfl⟩
end Go.Proofs.Ytbcegdiabnapkaa
