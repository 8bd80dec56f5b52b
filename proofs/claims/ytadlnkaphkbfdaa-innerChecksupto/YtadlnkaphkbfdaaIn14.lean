/-
  The document's words of an operation: like, by a walk in the order of the text.
-/
import Derived.Test.YtadlnkaphkbfdaaIn10b
import Derived.Shelf.SlSortCmp.QuietGrown
namespace Go.Proofs.Ytadlnkaphkbfdaa
set_option linter.unusedVariables false
set_option linter.unusedSimpArgs false
open Go.RowKit Go.Lib Go.Sort

theorem alloc_grow (w : World) (o : Obj) : w.alloc o = grow (w.drewN 0) #[o] := by
  unfold grow World.alloc World.drewN
  simp
theorem write_g (k : Int) (s : ByteArray) (x : Int) (lv : Value) (h n : Bool) (w : World) : Calls Try.prog 42 #[.agg #[.int .i64 k, .string s, .int .i64 x, lv, .bool h, .bool n]] w fun e w' => e = .returned (.bool (k == 1 || k == 3)) ∧ ∃ q os, w' = grow (w.drewN q) os := by
  by_cases h1 : k = 1
  · subst h1
    go_enter Try.func42, Try.ntmps42
    go_wp2_with fail
    go_ret
    exact ⟨rfl, 0, #[_], alloc_grow w _⟩
  · have e1 : (k == 1) = false := by simp [h1]
    rw [e1, Bool.false_or]
    by_cases h2 : k = 3
    · subst h2
      go_enter Try.func42, Try.ntmps42
      go_wp2_with fail
      go_ret
      exact ⟨rfl, 0, #[_], alloc_grow w _⟩
    · have e2 : (k == 3) = false := by simp [h2]
      clear h1 h2
      rw [e2]
      go_enter Try.func42, Try.ntmps42
      go_wp2_with fail
      go_ret
      exact ⟨rfl, 0, #[_], alloc_grow w _⟩
theorem isList_g (k : Int) (s : ByteArray) (x : Int) (lv : Value) (h n : Bool) (w : World) : Calls Try.prog 71 #[.agg #[.int .i64 k, .string s, .int .i64 x, lv, .bool h, .bool n]] w fun e w' => e = .returned (.bool (k == 1 || k == 2)) ∧ ∃ q os, w' = grow (w.drewN q) os := by
  by_cases h1 : k = 1
  · subst h1
    go_enter Try.func71, Try.ntmps71
    go_wp2_with fail
    go_ret
    exact ⟨rfl, 0, #[_], alloc_grow w _⟩
  · have e1 : (k == 1) = false := by simp [h1]
    rw [e1, Bool.false_or]
    by_cases h2 : k = 2
    · subst h2
      go_enter Try.func71, Try.ntmps71
      go_wp2_with fail
      go_ret
      exact ⟨rfl, 0, #[_], alloc_grow w _⟩
    · have e2 : (k == 2) = false := by simp [h2]
      clear h1 h2
      rw [e2]
      go_enter Try.func71, Try.ntmps71
      go_wp2_with fail
      go_ret
      exact ⟨rfl, 0, #[_], alloc_grow w _⟩

theorem Try.mixed : Try.prog.follows .mixedOrders = true := by kernel_rfl
theorem grow_cell {w : World} {b : Nat} {cs : Array Value} {t : TypeId} (h : w.heap[b]? = some (.cells cs t (0, 0))) (i : Nat) (v : Value) (hv : cs[i]? = some v) (n : Nat) (os : Array Obj) : (grow (w.drewN n) os).cell? ⟨b, i, none⟩ = some v := by
  refine cell_grown (by exact (Array.getElem?_eq_some_iff.1 h).1) ?_ n os
  rw [cell_of_row w b i cs t (0, 0) h]
  exact hv
theorem two_grow {w W : World} {a b : Obj} (h : (w.alloc a).alloc b = W) (n : Nat) (os : Array Obj) : grow (W.drewN n) os = grow (w.drewN n) (#[a, b] ++ os) := by
  subst h
  rw [← grow_grow]
  have e : ((w.alloc a).alloc b).drewN n = grow (w.drewN n) #[a, b] := by
    unfold grow World.alloc World.drewN
    simp
    apply Array.ext'
    simp
  rw [e]
theorem below_grow (w : World) (n : Nat) (os : Array Obj) : Below w.heap.size w (grow (w.drewN n) os) :=
  ⟨rfl, rfl, rfl, by show w.heap.size ≤ (w.heap ++ os).size; simp, fun k hk => heap_grow_old (w.drewN n) os hk⟩
end Go.Proofs.Ytadlnkaphkbfdaa
