/-
  The document's words of an operation: write, isList, Read, like.
-/
import Derived.Test.YtadlnkaphkbfdaaIn6
namespace Go.Proofs.Ytadlnkaphkbfdaa
set_option linter.unusedVariables false
set_option linter.unusedSimpArgs false
open Go.RowKit Go.Lib

theorem write_raw (k : Int) (s : ByteArray) (x : Int) (lv : Value) (h n : Bool) (w : World) : Calls Try.prog 42 #[.agg #[.int .i64 k, .string s, .int .i64 x, lv, .bool h, .bool n]] w fun e w' => e = .returned (.bool (k == 1 || k == 3)) ∧ Below w.heap.size w w' := by
  by_cases h1 : k = 1
  · subst h1
    go_enter Try.func42, Try.ntmps42
    go_wp2_with fail
    go_ret
    exact ⟨rfl, below_box w _⟩
  · have e1 : (k == 1) = false := by simp [h1]
    rw [e1, Bool.false_or]
    by_cases h2 : k = 3
    · subst h2
      go_enter Try.func42, Try.ntmps42
      go_wp2_with fail
      go_ret
      exact ⟨rfl, below_box w _⟩
    · have e2 : (k == 3) = false := by simp [h2]
      clear h1 h2
      rw [e2]
      go_enter Try.func42, Try.ntmps42
      go_wp2_with fail
      go_ret
      exact ⟨rfl, below_box w _⟩
theorem isList_raw (k : Int) (s : ByteArray) (x : Int) (lv : Value) (h n : Bool) (w : World) : Calls Try.prog 71 #[.agg #[.int .i64 k, .string s, .int .i64 x, lv, .bool h, .bool n]] w fun e w' => e = .returned (.bool (k == 1 || k == 2)) ∧ Below w.heap.size w w' := by
  by_cases h1 : k = 1
  · subst h1
    go_enter Try.func71, Try.ntmps71
    go_wp2_with fail
    go_ret
    exact ⟨rfl, below_box w _⟩
  · have e1 : (k == 1) = false := by simp [h1]
    rw [e1, Bool.false_or]
    by_cases h2 : k = 2
    · subst h2
      go_enter Try.func71, Try.ntmps71
      go_wp2_with fail
      go_ret
      exact ⟨rfl, below_box w _⟩
    · have e2 : (k == 2) = false := by simp [h2]
      clear h1 h2
      rw [e2]
      go_enter Try.func71, Try.ntmps71
      go_wp2_with fail
      go_ret
      exact ⟨rfl, below_box w _⟩
theorem rread_is (o : MOp) (lv : Value) (w : World) : Calls Try.prog 36 #[opV o lv] w fun e w' => e = .returned (.bool (rds o)) ∧ Below w.heap.size w w' := by
  obtain ⟨k, s, x, l, h, n⟩ := o
  unfold opV rds
  simp only [MOp.kind, MOp.key, MOp.value, MOp.list, MOp.has, MOp.nl]
  by_cases h2 : k = 2
  · subst h2
    rw [show (h && ((2 : Int) == 2 || (2 : Int) == 4)) = h by simp]
    go_enter Try.func36, Try.ntmps36
    go_wp2_with fail
    go_ret
    exact ⟨rfl, below_box w _⟩
  · have e2 : (k == 2) = false := by simp [h2]
    by_cases h4 : k = 4
    · subst h4
      rw [show (h && ((4 : Int) == 2 || (4 : Int) == 4)) = h by simp]
      go_enter Try.func36, Try.ntmps36
      go_wp2_with fail
      go_ret
      exact ⟨rfl, below_box w _⟩
    · have e4 : (k == 4) = false := by simp [h4]
      rw [e2, e4, show (h && (false || false)) = false by simp]
      clear h2 h4
      go_enter Try.func36, Try.ntmps36
      go_wp2_with fail
      go_ret
      exact ⟨rfl, below_box w _⟩
/-- Two boxes stand. -/
def TB (w0 : World) (o1 o2 : Obj) (w' : World) : Prop := Below w0.heap.size w0 w' ∧ w'.heap[w0.heap.size]? = some o1 ∧ w'.heap[w0.heap.size + 1]? = some o2
theorem TB.later {w0 w' w'' : World} {o1 o2 : Obj} (h : TB w0 o1 o2 w') (hb : Below w'.heap.size w' w'') : TB w0 o1 o2 w'' :=
  ⟨h.1.trans (hb.mono h.1.size), (hb.block _ (blt h.2.1)).trans h.2.1, (hb.block _ (blt h.2.2)).trans h.2.2⟩
theorem TB.made (w : World) (o1 o2 : Obj) : TB w o1 o2 ((w.alloc o1).alloc o2) := by
  refine ⟨two_box w o1 o2, ?_, ?_⟩
  · rw [alloc_at, alloc_size, if_neg (by omega), alloc_at, if_pos rfl]
  · rw [alloc_at, alloc_size, if_pos rfl]
theorem key_beq' (a b : ByteArray) : (a.toList == b.toList) = decide (a = b) := by
  rw [Lib.toList_data, Lib.toList_data]
  by_cases h : a = b
  · subst h; simp
  · rw [decide_eq_false h]
    simp only [beq_eq_false_iff_ne, ne_eq]
    exact fun c => h (WideShapes.bytes_inj c)

end Go.Proofs.Ytadlnkaphkbfdaa
