/-
  bits.New, and what a set looks like in memory.
-/
import Derived.Test.YtgmneohngadpeaaGreatDoorB1
import Derived.Deep.OwnRows
namespace Go.Proofs.YtgmneohngadpeaaGreatDoor
set_option linter.unusedVariables false
set_option linter.unusedSimpArgs false
open Go.RowKit

theorem Tryz.info68 : (Tryz.prog.info? 130).map (fun i => (i.zero, i.size, i.bytes)) = some (some (.int .u64 0), 1, 8) := by kernel_rfl

theorem cut_any (a : Addr) (m : Nat) (w : World) (hm : m ≤ 4096) : Calls Tryz.prog 49 #[.slice (some a) m m] w fun e w' => e = .returned (.slice (some a) m m) ∧ w = w' := by
  go_enter Tryz.func49, Tryz.ntmps49
  go_wp2
  go_ret
  exact ⟨rfl, rfl⟩

/-- Words as cells. -/
def wordsV (ws : List Nat) : Array Value := (ws.map fun x : Nat => Value.int .u64 x).toArray
/-- A set of bound n in block b, its words in block c. -/
structure SetAt (w : World) (b n c : Nat) (ws : List Nat) : Prop where
  box : w.heap[b]? = some (.cells #[.bool true, .int .i64 n, .slice (some ⟨c, 0, none⟩) ws.length ws.length] 129)
  row : w.heap[c]? = some (.cells (wordsV ws) 130)
  len : ws.length = (n + 63) / 64
  small : ∀ x, x ∈ ws → x < 18446744073709551616
  bound : n ≤ 4096

theorem made_words (m : Nat) : madeCells #[Value.int .u64 0] m = wordsV (List.replicate m 0) := by
  apply Array.ext
  · simp [madeCells, wordsV]
  · intro i h1 h2
    have h0 : i % 1 = 0 := by omega
    simp [madeCells, wordsV, h0]

theorem new_ok (n : Nat) (hn : n ≤ 4096) (w : World) : Calls Tryz.prog 28 #[.int .i64 n] w fun e w' => e = .returned (.tuple #[.pointer (some ⟨w.heap.size + 1, 0, none⟩), .int .i64 0]) ∧ w' = (w.alloc (.cells (wordsV (List.replicate ((n + 63) / 64) 0)) 130)).alloc (.cells #[.bool true, .int .i64 n, .slice (some ⟨w.heap.size, 0, none⟩) ((n + 63) / 64) ((n + 63) / 64)] 129) := by
  have hmk := run_make_row' (P := Tryz.prog) 126 130 (.int .u64 0) 8 Tryz.underlying126 Tryz.info68 rfl .i64 .i64 ((n + 63) / 64) (by omega) (by omega)
  have h0 : (0 : Int) ≤ n := by omega
  have h1 : (n : Int) ≤ 4096 := by omega
  have e1 : (((n + 63) / 64 : Nat) : Int) = ((n : Int) + 64 - 1) / 64 := by omega
  have hm : (n + 63) / 64 ≤ 4096 := by omega
  rw [e1, made_words] at hmk
  clear e1
  generalize (n + 63) / 64 = m at *
  go_enter Tryz.func28, Tryz.ntmps28
  go_wp2_with (go_at_call 49; refine (cut_any _ _ _ hm).mono ?_; rintro e w' ⟨rfl, rfl⟩)
  go_ret2
  exact ⟨rfl, rfl⟩
theorem new_no (n : Int) (hn : n < 0 ∨ 4096 < n) (w : World) : Calls Tryz.prog 28 #[.int .i64 n] w fun e w' => e = .returned (.tuple #[.pointer none, .int .i64 1]) ∧ w = w' := by
  rcases hn with h | h
  · go_enter Tryz.func28, Tryz.ntmps28
    go_wp2
    go_ret2
    exact ⟨rfl, rfl⟩
  · have h0 : ¬ n < 0 := by omega
    go_enter Tryz.func28, Tryz.ntmps28
    go_wp2
    go_ret2
    exact ⟨rfl, rfl⟩

theorem new_set (n : Nat) (hn : n ≤ 4096) (w : World) : Calls Tryz.prog 28 #[.int .i64 n] w fun e w' => e = .returned (.tuple #[.pointer (some ⟨w.heap.size + 1, 0, none⟩), .int .i64 0]) ∧ SetAt w' (w.heap.size + 1) n w.heap.size (List.replicate ((n + 63) / 64) 0) ∧ Below w.heap.size w w' ∧ w'.heap.size = w.heap.size + 2 := by
  refine (new_ok n hn w).mono ?_
  rintro e w' ⟨rfl, rfl⟩
  refine ⟨rfl, ⟨?_, ?_, by simp, ?_, hn⟩, ((below_box w _).alloc (by simp) _), by simp⟩
  · rw [List.length_replicate]
    have := heap_alloc_new (w.alloc (.cells (wordsV (List.replicate ((n + 63) / 64) 0)) 130)) (.cells #[.bool true, .int .i64 n, .slice (some ⟨w.heap.size, 0, none⟩) ((n + 63) / 64) ((n + 63) / 64)] 129)
    simpa using this
  · rw [Lib.alloc_old _ _ w.heap.size (by simp)]
    exact heap_alloc_new w _
  · intro x hx
    rw [List.mem_replicate] at hx
    omega
end Go.Proofs.YtgmneohngadpeaaGreatDoor
