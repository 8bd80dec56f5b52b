/-
  The small functions of the package inner: Thing, of, reads.
-/
import Derived.Test.YtadlnkaphkbfdaaIn1
import Derived.Test.YtadlnkaphkbfdaaProg
import Derived.Deep.AppendLies
import Derived.Lib.SliceRun
import Derived.Lib.Walk
import Derived.Deep.RegionHeld3
import Derived.Deep.RegionWith
import Derived.Deep.CutRange
import Derived.Deep.DrawnRows
namespace Go.Proofs.Ytadlnkaphkbfdaa
set_option linter.unusedVariables false
set_option linter.unusedSimpArgs false
open Go.RowKit

theorem below_box (w : World) (o : Obj) : Below w.heap.size w (w.alloc o) := (Below.refl _ _).alloc (Nat.le_refl _) _
theorem blt {w : World} {b : Nat} {o : Obj} (h : w.heap[b]? = some o) : b < w.heap.size := (Array.getElem?_eq_some_iff.1 h).1
/-- Blocks outside P stay. -/
structure Gro (P : Nat → Prop) (w w' : World) : Prop where
  os : w'.os = w.os
  tape : w'.tape = w.tape
  output : w'.output = w.output
  size : w.heap.size ≤ w'.heap.size
  block : ∀ b, b < w.heap.size → ¬ P b → w'.heap[b]? = w.heap[b]?
theorem Gro.refl (P : Nat → Prop) (w : World) : Gro P w w := ⟨rfl, rfl, rfl, Nat.le_refl _, fun _ _ _ => rfl⟩
/-- The value of an operation. -/
def opV (o : MOp) (lv : Value) : Value := .agg #[.int .i64 o.kind, .string o.key, .int .i64 o.value, lv, .bool o.has, .bool o.nl]
def knV (k : Kn) (sl : Value) : Value := .agg #[.bool k.whole, sl, .bool k.none, .int .i64 k.value]
def thV (t : Int) (s : ByteArray) : Value := .agg #[.int .i64 t, .string s]

theorem thing_is (k : Int) (w : World) : Calls Try.prog 68 #[.int .i64 k] w fun e w' => e = .returned (.int .i64 (thg k)) ∧ w = w' := by
  unfold thg
  by_cases h1 : k = 1
  · subst h1
    go_enter Try.func68, Try.ntmps68
    go_wp2_with fail
    go_ret
    exact ⟨rfl, rfl⟩
  · by_cases h2 : k = 2
    · subst h2
      go_enter Try.func68, Try.ntmps68
      go_wp2_with fail
      go_ret
      exact ⟨rfl, rfl⟩
    · by_cases h3 : k = 3
      · subst h3
        go_enter Try.func68, Try.ntmps68
        go_wp2_with fail
        go_ret
        exact ⟨rfl, rfl⟩
      · by_cases h4 : k = 4
        · subst h4
          go_enter Try.func68, Try.ntmps68
          go_wp2_with fail
          go_ret
          exact ⟨rfl, rfl⟩
        · have e1 : (k == 1) = false := by simp [h1]
          have e2 : (k == 2) = false := by simp [h2]
          have e3 : (k == 3) = false := by simp [h3]
          have e4 : (k == 4) = false := by simp [h4]
          rw [if_neg (by omega), if_neg (by omega)]
          clear h1 h2 h3 h4
          go_enter Try.func68, Try.ntmps68
          go_wp2_with fail
          go_ret
          exact ⟨rfl, rfl⟩

theorem reads_is (o : MOp) (lv : Value) (w : World) : Calls Try.prog 33 #[opV o lv] w fun e w' => e = .returned (.bool (rds o)) ∧ Below w.heap.size w w' := by
  obtain ⟨k, s, x, l, h, n⟩ := o
  unfold opV rds
  simp only [MOp.kind, MOp.key, MOp.value, MOp.list, MOp.has, MOp.nl]
  cases h with
  | false =>
    go_enter Try.func33, Try.ntmps33
    go_wp2_with fail
    go_ret
    exact ⟨rfl, below_box w _⟩
  | true =>
    by_cases h2 : k = 2
    · subst h2
      go_enter Try.func33, Try.ntmps33
      go_wp2_with fail
      go_ret
      exact ⟨rfl, below_box w _⟩
    · have e2 : (k == 2) = false := by simp [h2]
      rw [e2]
      by_cases h4 : k = 4
      · subst h4
        go_enter Try.func33, Try.ntmps33
        go_wp2_with fail
        go_ret
        exact ⟨rfl, below_box w _⟩
      · have e4 : (k == 4) = false := by simp [h4]
        rw [e4]
        clear h2 h4
        go_enter Try.func33, Try.ntmps33
        go_wp2_with fail
        go_ret
        exact ⟨rfl, below_box w _⟩

theorem of_is (o : MOp) (lv : Value) (w : World) : Calls Try.prog 32 #[opV o lv] w fun e w' => e = .returned (thV (thg o.kind) o.key) ∧ Below w.heap.size w w' := by
  obtain ⟨k, s, x, l, h, n⟩ := o
  unfold opV thV
  simp only [MOp.kind, MOp.key, MOp.value, MOp.list, MOp.has, MOp.nl]
  go_enter Try.func32, Try.ntmps32
  go_wp2_with fail
  go_region_held3 (fun w' => w'.cell? ⟨w.heap.size, 0, none⟩ = some (.int .i64 k) ∧ w'.cell? ⟨w.heap.size, 1, none⟩ = some (.string s)) (go_keep) (first
    | (go_at_call 68; refine (thing_is k _).mono ?_; rintro e w5 ⟨rfl, rfl⟩))
  all_goals (try go_wp2_with fail)
  refine bodyPost_ret (v := .agg #[.int .i64 (thg k), .string s]) (by simp [results, Try.results32, go_sem]) rfl ⟨rfl, ((below_box w _).trans ((below_box _ _).mono (by simp))).drew⟩
end Go.Proofs.Ytadlnkaphkbfdaa
