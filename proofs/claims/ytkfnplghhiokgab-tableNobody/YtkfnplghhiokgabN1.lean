/-
  A table that no call made: walks of its methods, at nil and at a plain Table.
-/
import Derived.Test.YtkfnplghhiokgabRows
import Derived.WalkKit
import Derived.ProofKit
import Derived.Deep.LoopGhost
import Derived.Deep.Draws
import Derived.Lib.SliceRun
import Derived.Lib.Walk
import Derived.Lib.Builder
import Derived.MapKept
import Derived.RegionTactic
import Derived.Deep.RegionHeld3
import Derived.DeepKeys3
namespace Go.Proofs.Ytkfnplghhiokgab
set_option linter.unusedVariables false
set_option linter.unusedSimpArgs false
open Go.RowKit

theorem hid {p : Prop} (h : p) : Hid p := h
theorem below_box (w : World) (o : Obj) : Below w.heap.size w (w.alloc o) := (Below.refl _ _).alloc (Nat.le_refl _) _
theorem below_drewN {B : Nat} {w w' : World} (h : Below B w w') (q : Nat) : Below B w (w'.drewN q) := ⟨h.os, h.tape, h.output, h.size, h.block⟩
theorem new_cells (w : World) (cs : Array Value) (t : TypeId) (j : Nat) : (w.alloc (.cells cs t)).cell? ⟨w.heap.size, j, none⟩ = cs[j]? := Lib.cell_of_heap (heap_alloc_new w _) j

theorem cloneStr_nil (n c : Nat) (w : World) : Calls Try.prog 37 #[.slice none n c] w fun e w' => e = .returned (.slice none 0 0) ∧ w = w' := by
  have q : ∀ (w : World) (a : Option Addr) (n c n' c' : Nat), (binOp .eql 27 (.slice a n c) (.slice none n' c')).run Try.prog w = .ok (.bool a.isNone) w := fun w a n c n' c' => Lib.run_eql_slice_nil w _ _ a n c n' c' Try.underlying27
  go_enter Try.func37, Try.ntmps37
  go_wp2
  go_ret
  exact ⟨rfl, rfl⟩
theorem cloneWrite_nil (n c : Nat) (w : World) : Calls Try.prog 40 #[.slice none n c] w fun e w' => e = .returned (.slice none 0 0) ∧ w = w' := by
  have q : ∀ (w : World) (a : Option Addr) (n c n' c' : Nat), (binOp .eql 42 (.slice a n c) (.slice none n' c')).run Try.prog w = .ok (.bool a.isNone) w := fun w a n c n' c' => Lib.run_eql_slice_nil w _ _ a n c n' c' Try.underlying42
  go_enter Try.func40, Try.ntmps40
  go_wp2
  go_ret
  exact ⟨rfl, rfl⟩
theorem cloneTxn_nil (n c : Nat) (w : World) : Calls Try.prog 31 #[.slice none n c] w fun e w' => e = .returned (.slice none 0 0) ∧ w = w' := by
  have q : ∀ (w : World) (a : Option Addr) (n c n' c' : Nat), (binOp .eql 22 (.slice a n c) (.slice none n' c')).run Try.prog w = .ok (.bool a.isNone) w := fun w a n c n' c' => Lib.run_eql_slice_nil w _ _ a n c n' c' Try.underlying22
  go_enter Try.func31, Try.ntmps31
  go_wp2
  go_ret
  exact ⟨rfl, rfl⟩

/-- A plain Table at a place. -/
def Plain (w : World) (b : Nat) : Prop :=
  w.cell? ⟨b, 0, none⟩ = some (.slice none 0 0) ∧ w.cell? ⟨b, 1, none⟩ = some (.slice none 0 0) ∧ w.cell? ⟨b, 2, none⟩ = some (.map none) ∧ w.cell? ⟨b, 3, none⟩ = some (.map none) ∧ w.cell? ⟨b, 4, none⟩ = some (.map none) ∧ w.cell? ⟨b, 5, none⟩ = some (.bool false)
/-- nil, or a plain Table. -/
def Nobody (w : World) (v : Value) : Prop := v = .pointer none ∨ ∃ b, v = .pointer (some ⟨b, 0, none⟩) ∧ Plain w b
theorem Nobody.later {w w' : World} {v : Value} (h : Nobody w v) (hb : Below w.heap.size w w') : Nobody w' v := by
  rcases h with h | ⟨b, h, c0, c1, c2, c3, c4, c5⟩
  · exact .inl h
  · have hlt : b < w.heap.size := World.block_lt_of_cell? _ _ c0
    exact .inr ⟨b, h, (hb.cell (p := ⟨b, 0, none⟩) hlt).trans c0, (hb.cell (p := ⟨b, 1, none⟩) hlt).trans c1, (hb.cell (p := ⟨b, 2, none⟩) hlt).trans c2, (hb.cell (p := ⟨b, 3, none⟩) hlt).trans c3, (hb.cell (p := ⟨b, 4, none⟩) hlt).trans c4, (hb.cell (p := ⟨b, 5, none⟩) hlt).trans c5⟩

theorem keys_no (v : Value) (w : World) (h : Nobody w v) : Calls Try.prog 12 #[v] w fun e w' => e = .returned (.slice none 0 0) ∧ w = w' := by
  rcases h with rfl | ⟨b, rfl, c0, c1, c2, c3, c4, c5⟩
  · go_enter Try.func12, Try.ntmps12
    go_wp2
    go_ret
    exact ⟨rfl, rfl⟩
  · go_enter Try.func12, Try.ntmps12
    go_wp2_with (go_at_call 37; refine (cloneStr_nil _ _ _).mono ?_; rintro e w' ⟨rfl, rfl⟩)
    go_ret
    exact ⟨rfl, rfl⟩
theorem count_no (v : Value) (w : World) (h : Nobody w v) : Calls Try.prog 15 #[v] w fun e w' => e = .returned (.int .i64 0) ∧ w = w' := by
  rcases h with rfl | ⟨b, rfl, c0, c1, c2, c3, c4, c5⟩
  · go_enter Try.func15, Try.ntmps15
    go_wp2
    go_ret
    exact ⟨rfl, rfl⟩
  · go_enter Try.func15, Try.ntmps15
    go_wp2
    go_ret
    exact ⟨rfl, rfl⟩
theorem unique_no (v : Value) (w : World) (h : Nobody w v) : Calls Try.prog 24 #[v] w fun e w' => e = .returned (.bool false) ∧ w = w' := by
  rcases h with rfl | ⟨b, rfl, c0, c1, c2, c3, c4, c5⟩
  · go_enter Try.func24, Try.ntmps24
    go_wp2
    go_ret
    exact ⟨rfl, rfl⟩
  · go_enter Try.func24, Try.ntmps24
    go_wp2
    go_ret
    exact ⟨rfl, rfl⟩
theorem lk (w : World) (s : ByteArray) : (Instr.lookup 53 (.map none) (.string s) false).run Try.prog w = .ok (.int .i64 0) w := by
  have h := Go.MapKept.run_checkKey (w := w) Try.underlying9 (k := .string s) (by trivial) true 9999
  simp [Instr.lookup, h, Instr.findKey, Instr.findNow, run_underlying Try.underlying53, run_underlying Try.underlying9, go_sem]
theorem kt : Try.prog.keyTypeAt 2 80 = true := by kernel_rfl
theorem c80 : Try.prog.cellsOf 80 = 2 := by kernel_rfl
theorem c9 : Try.prog.cellsOf 9 = 1 := by kernel_rfl
theorem c3 : Try.prog.cellsOf 3 = 1 := by kernel_rfl
theorem lk2 (w : World) (s : ByteArray) (n : Int) (hs : s.size ≤ maxLen) (hn : (Lit.int .i64 n).wf = true) : (Instr.lookup 61 (.map none) (.agg #[.string s, .int .i64 n]) false).run Try.prog w = .ok (.slice none 0 0) w := by
  have h := Go.run_checkKey_deep true 9998 2 80 kt w 2 (.agg #[.string s, .int .i64 n]) [.string s.data.toList, .int .i64 n] (by kernel_rfl) (by simp [Program.keyLits, Try.underlying80, Try.underlying9, Try.underlying3, Value.cells, c80, c9, c3, hs, hn])
  simp [Instr.lookup, h, Instr.findKey, Instr.findNow, run_underlying Try.underlying61, run_underlying Try.underlying80, go_sem]

set_option maxRecDepth 100000 in
theorem kind_no (v : Value) (s : ByteArray) (w : World) (h : Nobody w v) : Calls Try.prog 16 #[v, .string s] w fun e w' => e = .returned (.int .i64 0) ∧ w = w' := by
  rcases h with rfl | ⟨b, rfl, c0, c1, c2, c3, c4, c5⟩
  · go_enter Try.func16, Try.ntmps16
    go_wp2
    go_ret
    exact ⟨rfl, rfl⟩
  · have L := fun W => lk W s
    go_enter Try.func16, Try.ntmps16
    go_wp2
    go_ret
    exact ⟨rfl, rfl⟩
set_option maxRecDepth 100000 in
theorem writers_no (v : Value) (s : ByteArray) (n : Int) (w : World) (hs : s.size ≤ maxLen) (hn : (Lit.int .i64 n).wf = true) (h : Nobody w v) : Calls Try.prog 22 #[v, .string s, .int .i64 n] w fun e w' => e = .returned (.slice none 0 0) ∧ w = w' := by
  rcases h with rfl | ⟨b, rfl, c0, c1, c2, c3, c4, c5⟩
  · go_enter Try.func22, Try.ntmps22
    go_wp2
    go_ret
    exact ⟨rfl, rfl⟩
  · have L := fun W => lk2 W s n hs hn
    go_enter Try.func22, Try.ntmps22
    go_wp2_with (go_at_call 40; refine (cloneWrite_nil _ _ _).mono ?_; rintro e w' ⟨rfl, rfl⟩)
    go_ret
    exact ⟨rfl, rfl⟩

/-- The zero transaction. -/
abbrev zeroTxn : Value := .agg #[.int .i64 0, .int .i64 0, .int .i64 0, .int .i64 0, .slice none 0 0]

set_option maxHeartbeats 1000000 in
set_option maxRecDepth 100000 in
theorem txn_no (v : Value) (n : Int) (w : World) (h : Nobody w v) : Calls Try.prog 18 #[v, .int .i64 n] w fun e w' => e = .returned zeroTxn ∧ Below w.heap.size w w' := by
  have HN : Hid (∀ o, Nobody (w.alloc o) v) := fun o => h.later (below_box w o)
  have hv : ∃ p, v = .pointer p := by
    rcases h with rfl | ⟨b, rfl, -⟩
    · exact ⟨_, rfl⟩
    · exact ⟨_, rfl⟩
  obtain ⟨p, rfl⟩ := hv
  clear h
  by_cases h0 : n < 0
  · go_enter Try.func18, Try.ntmps18
    go_wp2_with fail
    refine bodyPost_ret (v := zeroTxn) (by simp [results, Try.results18, go_sem]) rfl ⟨rfl, below_box _ _⟩
  · have h0' : (0 : Int) ≤ n := by omega
    have h1 : n ≥ 0 := h0'
    go_enter Try.func18, Try.ntmps18
    go_wp2_with (go_at_call 15; refine (count_no _ _ (HN.out _)).mono ?_; rintro e w' ⟨rfl, rfl⟩)
    refine bodyPost_ret (v := zeroTxn) (by simp [results, Try.results18, go_sem]) rfl ⟨rfl, below_box _ _⟩

theorem equalOps_nil (w : World) (fv : Value) : Calls Try.prog 52 #[.slice none 0 0, .slice none 0 0, fv] w fun e w' => e = .returned (.bool true) ∧ Below w.heap.size w w' := by
  go_enter Try.func52, Try.ntmps52
  go_wp2_with fail
  go_loopg [17] 0 (fun g i wr => i = .int .i64 0 ∧ wr = w)
  case atStart => exact ⟨rfl, rfl⟩
  case round =>
    obtain ⟨rfl, rfl⟩ := hrel
    go_wp2_with fail
    go_ret
    exact ⟨rfl, Below.refl _ _⟩
theorem sameOps_nil (w : World) : Calls Try.prog 38 #[.slice none 0 0, .slice none 0 0] w fun e w' => e = .returned (.bool true) ∧ Below w.heap.size w w' := by
  go_enter Try.func38, Try.ntmps38
  go_wp2_with (go_at_call 52; refine (equalOps_nil _ _).mono ?_; rintro e w' ⟨rfl, hb⟩)
  go_ret
  exact ⟨rfl, hb⟩
set_option maxHeartbeats 1000000 in
theorem sameTxn_zero (w : World) : Calls Try.prog 19 #[zeroTxn, zeroTxn] w fun e w' => e = .returned (.bool true) ∧ Below w.heap.size w w' := by
  have B0 : Hid (∀ o1 o2, Below w.heap.size w ((w.alloc o1).alloc o2)) := fun o1 o2 => (below_box w o1).alloc (by simp) _
  go_enter Try.func19, Try.ntmps19
  go_wp2_with (go_at_call 38; refine (sameOps_nil _).mono ?_; rintro e w' ⟨rfl, hb⟩)
  go_ret
  exact ⟨rfl, (B0.out _ _).trans (hb.mono (by simp; omega))⟩

set_option maxHeartbeats 1000000 in
set_option maxRecDepth 100000 in
theorem final_no (v : Value) (n m : Int) (w : World) (h : Nobody w v) : Calls Try.prog 27 #[v, .agg #[.int .i64 n, .int .i64 m]] w fun e w' => e = .returned (.bool false) ∧ Below w.heap.size w w' := by
  have HN : Hid (∀ o, Nobody (w.alloc o) v) := fun o => h.later (below_box w o)
  have hv : ∃ p, v = .pointer p := by
    rcases h with rfl | ⟨b, rfl, -⟩
    · exact ⟨_, rfl⟩
    · exact ⟨_, rfl⟩
  obtain ⟨p, rfl⟩ := hv
  clear h
  by_cases h0 : n < 0
  · go_enter Try.func27, Try.ntmps27
    go_wp2_with fail
    go_region
    all_goals (go_wp2_with fail; go_ret; exact ⟨rfl, below_drewN (below_box _ _) _⟩)
  · have h1 : n ≥ 0 := by omega
    have hd : decide (n < 0) = false := decide_eq_false h0
    have hd2 : decide (0 ≤ n) = true := decide_eq_true (by omega)
    have hd3 : (n < 0) = False := eq_false h0
    have HH := hid h0
    clear h0 h1
    go_enter Try.func27, Try.ntmps27
    go_wp2_with fail
    go_region_held3 (fun w' => w'.cell? ⟨w.heap.size, 0, none⟩ = some (.int .i64 n)) (go_keep) ((first | (go_at_call 15; refine (count_no _ _ (by first | exact HN.out _ | exact (HN.out _).later ((Below.refl _ _).drew))).mono ?_; rintro e w' ⟨rfl, rfl⟩)))
    all_goals (go_wp2_with fail; go_ret; exact ⟨rfl, below_drewN (below_box _ _) _⟩)
end Go.Proofs.Ytkfnplghhiokgab
