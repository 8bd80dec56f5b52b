/-
  What the finds say of an empty read.
-/
import Derived.Test.YtnfbcmnlloipiaaLs0
namespace Go.Proofs.Ytnfbcmnlloipiaa
set_option linter.unusedVariables false
set_option linter.unusedSimpArgs false
open Go.RowKit Go.Lib Go.Maps

/-- A look at a key of which one read, of nothing, is known. -/
structure Lk (w : World) (kb : Nat) (s : ByteArray) (rs : Value) (sb : Nat) : Prop where
  c0 : w.cell? ⟨kb, 0, none⟩ = some (.string s)
  c1 : w.cell? ⟨kb, 1, none⟩ = some rs
  c2 : w.cell? ⟨kb, 2, none⟩ = some (.int .i64 0)
  c3 : w.cell? ⟨kb, 3, none⟩ = some (.int .i64 0)
  c4 : w.cell? ⟨kb, 4, none⟩ = some (.slice none 0 0)
  c5 : w.cell? ⟨kb, 5, none⟩ = some (.map (some sb))
theorem Lk.later {w w' : World} {kb sb : Nat} {s : ByteArray} {rs : Value} (h : Lk w kb s rs sb) (hb : Below w.heap.size w w') : Lk w' kb s rs sb := by
  have hlt : kb < w.heap.size := World.block_lt_of_cell? _ _ h.c0
  exact ⟨(hb.cell (p := ⟨kb, 0, none⟩) hlt).trans h.c0, (hb.cell (p := ⟨kb, 1, none⟩) hlt).trans h.c1, (hb.cell (p := ⟨kb, 2, none⟩) hlt).trans h.c2, (hb.cell (p := ⟨kb, 3, none⟩) hlt).trans h.c3, (hb.cell (p := ⟨kb, 4, none⟩) hlt).trans h.c4, (hb.cell (p := ⟨kb, 5, none⟩) hlt).trans h.c5⟩
theorem below_drewN {B : Nat} {w w' : World} (h : Below B w w') (q : Nat) : Below B w (w'.drewN q) := ⟨h.os, h.tape, h.output, h.size, h.block⟩
/-- An empty read. -/
abbrev rd0 (la : Option Addr) (lc : Nat) : Value := .agg #[.int .i64 0, .int .i64 0, .slice la 0 lc]
/-- No anomaly. -/
abbrev an0 : Value := .agg #[.int .i64 0, .int .i64 0, .int .i64 0, .int .i64 0, .string ⟨#[]⟩, .int .i64 0, .slice none 0 0, .bool false, .int .i64 0]
theorem last_0 (la : Option Addr) (lc : Nat) (w : World) : Calls Try.prog 78 #[.slice la 0 lc] w fun e w' => e = .returned (.tuple #[.int .i64 0, .bool false]) ∧ w = w' := by
  go_enter Try.func78, Try.ntmps78
  go_wp2
  go_ret2
  exact ⟨rfl, rfl⟩
set_option maxHeartbeats 2000000 in
set_option maxRecDepth 100000 in
theorem middle_0 (kb : Nat) (la : Option Addr) (lc : Nat) (w : World) : Calls Try.prog 73 #[.pointer (some ⟨kb, 0, none⟩), rd0 la lc] w fun e w' => e = .returned (.tuple #[an0, .bool false]) ∧ Below w.heap.size w w' := by
  go_enter Try.func73, Try.ntmps73
  go_wp2_with (go_at_call 78; refine (last_0 _ _ _).mono ?_; rintro e w1 ⟨rfl, rfl⟩)
  exact bodyPost_ret (v := .tuple #[an0, .bool false]) (by simp [results, Try.results73, go_sem]) rfl ⟨rfl, (below_box w _).alloc (by rw [alloc_size]; omega) _⟩
set_option maxHeartbeats 2000000 in
set_option maxRecDepth 100000 in
theorem idx_0 (la : Option Addr) (lc : Nat) (f : Value) (w : World) : Calls Try.prog 85 #[.slice la 0 lc, f] w fun e w' => e = .returned (.int .i64 (-1)) ∧ w = w' := by
  go_enter Try.func85, Try.ntmps85
  go_wp2_with fail
  go_loopg [5, 8] 0 (fun g _ i wr => i = .int .i64 0 ∧ wr = w)
  case atStart => exact ⟨rfl, rfl⟩
  case round =>
    obtain ⟨rfl, rfl⟩ := hrel
    go_wp2_with fail
    go_ret
    exact ⟨rfl, rfl⟩
set_option maxHeartbeats 2000000 in
set_option maxRecDepth 100000 in
theorem twice_0 (kb : Nat) (la : Option Addr) (lc : Nat) (w : World) : Calls Try.prog 70 #[.pointer (some ⟨kb, 0, none⟩), rd0 la lc] w fun e w' => e = .returned (.tuple #[an0, .bool false]) ∧ Below w.heap.size w w' := by
  have hmm := @run_makeMap Try.prog
  go_enter Try.func70, Try.ntmps70
  go_wp2_with fail
  go_loopg [8, 13] 0 (fun g _ i wr => i = .int .i64 0 ∧ wr = ((w.alloc (.cells #[.int .i64 0, .int .i64 0, .slice la 0 lc] 77)).alloc (.cells #[.int .i64 0, .int .i64 0, .int .i64 0, .int .i64 0, .string ⟨#[]⟩, .int .i64 0, .slice none 0 0, .bool false, .int .i64 0] 85)).alloc (.map #[] 0))
  case atStart => exact ⟨rfl, rfl⟩
  case round =>
    obtain ⟨rfl, rfl⟩ := hrel
    go_wp2_with fail
    exact bodyPost_ret (v := .tuple #[an0, .bool false]) (by simp [results, Try.results70, go_sem]) rfl ⟨rfl, ((below_box w _).alloc (by rw [alloc_size]; omega) _).alloc (by rw [alloc_size, alloc_size]; omega) _⟩
set_option maxHeartbeats 2000000 in
set_option maxRecDepth 100000 in
theorem garbage_0 (kb : Nat) (la : Option Addr) (lc : Nat) (w : World) : Calls Try.prog 71 #[.pointer (some ⟨kb, 0, none⟩), rd0 la lc] w fun e w' => e = .returned (.tuple #[an0, .bool false]) ∧ Below w.heap.size w w' := by
  go_enter Try.func71, Try.ntmps71
  go_wp2_with (go_at_call 85; refine (idx_0 _ _ _ _).mono ?_; rintro e w1 ⟨rfl, rfl⟩)
  exact bodyPost_ret (v := .tuple #[an0, .bool false]) (by simp [results, Try.results71, go_sem]) rfl ⟨rfl, ((below_box w _).alloc (by rw [alloc_size]; omega) _).alloc (by rw [alloc_size, alloc_size]; omega) _⟩
set_option maxHeartbeats 2000000 in
set_option maxRecDepth 100000 in
theorem aborted_0 (kb : Nat) (la : Option Addr) (lc : Nat) (w : World) : Calls Try.prog 72 #[.pointer (some ⟨kb, 0, none⟩), rd0 la lc] w fun e w' => e = .returned (.tuple #[an0, .bool false]) ∧ Below w.heap.size w w' := by
  go_enter Try.func72, Try.ntmps72
  go_wp2_with (go_at_call 85; refine (idx_0 _ _ _ _).mono ?_; rintro e w1 ⟨rfl, rfl⟩)
  exact bodyPost_ret (v := .tuple #[an0, .bool false]) (by simp [results, Try.results72, go_sem]) rfl ⟨rfl, ((below_box w _).alloc (by rw [alloc_size]; omega) _).alloc (by rw [alloc_size, alloc_size]; omega) _⟩
set_option maxHeartbeats 2000000 in
set_option maxRecDepth 100000 in
theorem eq_0 (a b : Option Addr) (c d : Nat) (w : World) : Calls Try.prog 17 #[.slice a 0 c, .slice b 0 d] w fun e w' => e = .returned (.bool true) ∧ w' = w := by
  go_enter Try.func17, Try.ntmps17
  go_wp2_with fail
  go_loopg [5, 13] 0 (fun g _ i wr => i = .int .i64 0 ∧ wr = w)
  case atStart => exact ⟨rfl, rfl⟩
  case round =>
    obtain ⟨rfl, rfl⟩ := hrel
    go_wp2_with fail
    go_ret
    exact ⟨rfl, rfl⟩
set_option maxHeartbeats 2000000 in
set_option maxRecDepth 100000 in
theorem idxA_0 (f : Value) (w : World) : Calls Try.prog 99 #[.slice none 0 0, f] w fun e w' => e = .returned (.int .i64 (-1)) ∧ w = w' := by
  go_enter Try.func99, Try.ntmps99
  go_wp2_with fail
  go_loopg [5, 8] 0 (fun g _ i wr => i = .int .i64 0 ∧ wr = w)
  case atStart => exact ⟨rfl, rfl⟩
  case round =>
    obtain ⟨rfl, rfl⟩ := hrel
    go_wp2_with fail
    go_ret
    exact ⟨rfl, rfl⟩
theorem cont_0 (f : Value) (w : World) : Calls Try.prog 83 #[.slice none 0 0, f] w fun e w' => e = .returned (.bool false) ∧ w = w' := by
  go_enter Try.func83, Try.ntmps83
  go_wp2_with (go_at_call 99; refine (idxA_0 _ _).mono ?_; rintro e w1 ⟨rfl, rfl⟩)
  go_ret
  exact ⟨rfl, rfl⟩
theorem harmless_0 (w : World) : Calls Try.prog 62 #[.slice none 0 0] w fun e w' => e = .returned (.bool true) ∧ w = w' := by
  go_enter Try.func62, Try.ntmps62
  go_wp2_with (go_at_call 83; refine (cont_0 _ _).mono ?_; rintro e w1 ⟨rfl, rfl⟩)
  go_ret
  exact ⟨rfl, rfl⟩
set_option maxHeartbeats 2000000 in
set_option maxRecDepth 100000 in
theorem disorder_0 (kb sb : Nat) (s : ByteArray) (rs : Value) (w : World) (h : Lk w kb s rs sb) : Calls Try.prog 75 #[.pointer (some ⟨kb, 0, none⟩)] w fun e w' => e = .returned (.slice none 0 0) ∧ Below w.heap.size w w' := by
  have hmm := @run_makeMap Try.prog
  have c4 : (w.alloc (.map #[] 0)).cell? ⟨kb, 4, none⟩ = some (.slice none 0 0) := Lib.cell?_alloc_some _ h.c4
  go_enter Try.func75, Try.ntmps75
  go_wp2_with fail
  go_loopg [3, 6, 7, 15] 0 (fun g l _ _ i wr => l = .slice none 0 0 ∧ i = .int .i64 0 ∧ wr = w.alloc (.map #[] 0))
  case atStart => exact ⟨rfl, rfl, rfl⟩
  case round =>
    obtain ⟨rfl, rfl, rfl⟩ := hrel
    go_wp2_with fail
    go_ret
    exact ⟨rfl, below_box w _⟩
end Go.Proofs.Ytnfbcmnlloipiaa
